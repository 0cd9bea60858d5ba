/-
  spec.l1Sorted: keys with their values, by the keys.
-/
import Derived.Test.YthoeockngjmipaaSortP
import Derived.Test.YthoeockngjmipaaAppS
import Derived.Test.YthoeockngjmipaaSPart
import Derived.BigQuiet
import Derived.Test.YthoeockngjmipaaMapP
import Derived.Deep.Slices
import Derived.Test.YthoeockngjmipaaEqS2
import Derived.Test.YthoeockngjmipaaMarkQ
import Derived.Test.YthoeockngjmipaaIMapOf
namespace Go.Proofs.Ythoeockngjmipaa
open Go.RowKit
set_option linter.unusedSimpArgs false
set_option linter.unusedVariables false

theorem strs_one (l : List ByteArray) : ∀ u ∈ l.map Value.string, u.oneCell' = true := by
  intro u hu
  obtain ⟨x, _, rfl⟩ := List.mem_map.1 hu
  rfl

def SortedAs (base : Nat) (w w' : World) (cs : Nat → Value) (e : Ending) : Option (List ByteArray × List Nat) → Prop
  | none => e = .returned (.tuple #[.slice none 0 0, .slice none 0 0, .bool false])
  | some (ns, ps) => ∃ nv lv, e = .returned (.tuple #[nv, lv, .bool true]) ∧ w'.ownsRow base 9 1 nv ns.length (ns.map .string) ∧ w'.ownsRow base 24 1 lv ps.length (ps.map cs)

set_option maxRecDepth 100000 in
set_option maxHeartbeats 6400000 in
theorem l1Sorted_any (B : Nat) (kv u : Value) (ks : List ByteArray) (cs : Nat → Value) (w : World) (h : StrsAt B w kv ks) (hu : CellsAt B w u ks.length cs) (hB : B ≤ w.heap.size) (hm : ks.length ≤ 1048576) :
    Calls Try.prog 63 #[kv, u] w fun e w' => SortedAs w.heap.size w w' cs e (sortIn ks ks.length) ∧ Below w.heap.size w w' := by
  obtain ⟨_, _, ak, ck, rfl, hck⟩ := h
  obtain ⟨au, cu, rfl, hcs, hcu⟩ := hu
  have HCK := hideIt hck
  have HCU := hideIt hcu
  have HCS := hideIt hcs
  clear hck hcu hcs
  obtain ⟨i1, hi1, hzz1, hs1, hy1⟩ := info_parts infoStr
  obtain ⟨i2, hi2, hzz2, hs2, hy2⟩ := info_parts infoRowV
  obtain ⟨m, hmm⟩ : ∃ m, ks.length = m := ⟨_, rfl⟩
  have HMM := hideIt hmm
  rw [hmm] at hm HCK HCU HCS ⊢
  clear hmm
  have HN0 : Hid (((w.alloc (.cells #[] 9)).alloc (.cells #[] 24)).ownsRow w.heap.size 9 1 (.slice (some ⟨w.heap.size, 0, none⟩) 0 0) 0 (([] : List ByteArray).map .string)) := (World.ownsRow_lit (base := w.heap.size) w #[] 0 (Nat.le_refl _) (by simp [maxLen]) rfl).alloc _
  have HL0 : Hid (((w.alloc (.cells #[] 9)).alloc (.cells #[] 24)).ownsRow w.heap.size 24 1 (.slice (some ⟨w.heap.size + 1, 0, none⟩) 0 0) 0 (([] : List Nat).map cs)) := by
    have := World.ownsRow_lit (base := w.heap.size) (e := 24) (size := 1) (w.alloc (.cells #[] 9)) #[] 0 (by simp) (by simp [maxLen]) rfl
    simpa [Hid] using this
  have HON : Hid (∀ l : List Nat, (∀ i ∈ l, i < m) → ∀ u ∈ l.map cs, u.oneCell' = true) := by
    intro l hl u hu
    obtain ⟨i, hi, rfl⟩ := List.mem_map.1 hu
    obtain ⟨a, n, c, e⟩ := HCS.out i (hl i hi)
    rw [e]; rfl
  go_enter Try.func63, Try.ntmps63
  go_wp2_with fail
  go_loopw [7, 8, 9] (fun nv lv i wr => ∃ (k gn gl cn cl : Nat) (ns : List ByteArray) (ps : List Nat), k ≤ m ∧ i = .int .i64 k ∧ nv = .slice (some ⟨gn, 0, none⟩) k cn ∧ lv = .slice (some ⟨gl, 0, none⟩) k cl ∧ k ≤ cn ∧ k ≤ cl ∧ gn < wr.heap.size ∧ gl < wr.heap.size ∧ sortIn ks k = some (ns, ps) ∧ wr.ownsRow w.heap.size 9 1 (.slice (some ⟨gn, 0, none⟩) k cn) k (ns.map .string) ∧ wr.ownsRow w.heap.size 24 1 (.slice (some ⟨gl, 0, none⟩) k cl) k (ps.map cs) ∧ Below w.heap.size w wr) (fun _ _ i _ => m - (intOf i).toNat)
  case atStart => exact ⟨0, w.heap.size, w.heap.size + 1, 0, 0, [], [], Nat.zero_le _, rfl, rfl, rfl, Nat.le_refl _, Nat.le_refl _, by simp; omega, by simp, rfl, HN0.out, HL0.out, ((Below.refl _ _).alloc (Nat.le_refl _) _).alloc (by simp) _⟩
  case round =>
    obtain ⟨k, gn, gl, cn, cl, ns, ps, hk, rfl, rfl, rfl, hcn, hcl, hgn, hgl, hso, hnr, hlr, hbl⟩ := hrel
    have HSO := hideIt hso
    have HN := hideIt hnr
    have HL := hideIt hlr
    have HLN := hideIt (sortIn_len hso)
    have HPM := hideIt (sortIn_mem hso)
    have zs := hbl.size
    clear HN0 HL0 hso hnr hlr
    obtain ⟨W0, hW0⟩ : ∃ W0, W0 = wr := ⟨_, rfl⟩
    subst hW0
    by_cases hlt : k < m
    · obtain ⟨bk, ok, rfl, hbk, hck⟩ := HCK.out (by omega)
      have ck0 := (below_cell (o := ok + k) hbl (show bk < w.heap.size by omega)).trans (hck k hlt)
      obtain ⟨key, hkey⟩ : ∃ key, keyAt ks k = key := ⟨_, rfl⟩
      have HKEY := hideIt hkey
      rw [hkey] at ck0
      clear hck hkey
      go_wp2_with fail
      go_loopw [10] (fun a wq => ∃ (j : Nat), j ≤ k ∧ a = .int .i64 j ∧ Hid (∀ t, t < j → lessB (keyAt ns t) key = true) ∧ Below W0.heap.size W0 wq) (fun a _ => k - (intOf a).toNat)
      case atStart => exact ⟨0, Nat.zero_le _, rfl, fun t ht => by omega, Below.refl _ _⟩
      case round =>
        obtain ⟨j, hjk, rfl, HLT, hbq⟩ := hrel
        have zq0 := hbq.size
        have dk0 := (below_cell hbq (by omega)).trans ck0
        by_cases hj : j < k
        · have dn0 : wr.cell? ⟨gn, j, none⟩ = some (.string (keyAt ns j)) := by
            rw [below_cell hbq (by omega), HN.out.cellAt j (by omega)]
            exact keyAt_mapGet (by rw [HLN.out.1]; exact hj)
          cases hle : lessB (keyAt ns j) key
          · have hle' : Op.bytesLess (keyAt ns j).toList key.toList = false := hle
            have HPO : Hid (posK ns key = j) := posK_eq (by rw [HLN.out.1]; exact hjk) HLT.out (fun _ => hle)
            have HHK := hideIt (hasK_at HPO.out)
            clear hle
            go_wp2_with fail
            go_quiet (fail)
            have hbq1 := below_drewN hbq nq
            have en0 : (wr.drewN nq).cell? ⟨gn, j, none⟩ = some (.string (keyAt ns j)) := (below_cell (below_drewN (Below.refl wr.heap.size wr) nq) (by omega)).trans dn0
            have ek0 : (wr.drewN nq).cell? ⟨bk, ok + k, none⟩ = some (.string key) := (below_cell (below_drewN (Below.refl wr.heap.size wr) nq) (by omega)).trans dk0
            clear dn0 dk0
            generalize wr.drewN nq = W1 at hbq1 en0 ek0 ⊢
            clear nq
            by_cases he : (keyAt ns j).toList = key.toList
            · have hz : ((keyAt ns j).toList == key.toList) = true := by simp [he]
              have HNO : Hid (hasK ns key = true) := by rw [Hid, HHK.out, HLN.out.1]; simp [hj, he]
              clear he
              go_wp2_with fail
              go_quiet (fail)
              go_wp2_with fail
              go_ret3
              exact ⟨by rw [sortIn_none (sortIn_twice HSO.out (by rw [HKEY.out]; exact HNO.out)) (show k + 1 ≤ m by omega)]; rfl, hbl.trans ((below_drewN hbq1 nq).mono zs)⟩
            · have hz : ((keyAt ns j).toList == key.toList) = false := by simpa using he
              have HNO : Hid (hasK ns key = false) := by rw [Hid, HHK.out]; simp [he]
              clear he
              go_wp2_with fail
              go_quiet (fail)
              have hbQ := below_drewN hbq1 nq
              clear en0 ek0
              generalize W1.drewN nq = WQ at hbQ ⊢
              clear nq hbq1
              -- the key and the row are put in their place
              have zq := hbQ.size
              have zw : w.heap.size ≤ WQ.heap.size := Nat.le_trans zs zq
              have hgnQ : gn < WQ.heap.size := by omega
              have hglQ : gl < WQ.heap.size := by omega
              have HNQ := hideIt (own_below HN.out hbQ (fun y hy => (HN.out.lt y hy).2))
              have HLQ := hideIt (own_below HL.out hbQ (fun y hy => (HL.out.lt y hy).2))
              have HBQ := hideIt (hbl.trans (hbQ.mono zs))
              obtain ⟨bu, ou, rfl, hbu, hcu⟩ := HCU.out (by omega)
              have HUK := hideIt ((below_cell HBQ.out (show bu < w.heap.size by omega)).trans (hcu k hlt))
              obtain ⟨ax, nx, cx, hcx⟩ := HCS.out k hlt
              have HCX := hideIt hcx
              rw [hcx] at HUK
              have HKK : Hid (WQ.cell? ⟨bk, ok + k, none⟩ = some (.string key)) := (below_cell hbQ (by omega)).trans ck0
              obtain ⟨ad1, hf1, ha1⟩ := strs_from gn k cn j hjk
              obtain ⟨ad2, hf2, ha2⟩ := rows_from gl k cl j hjk
              have hz1 := strs_to gn k cn j (by omega)
              have hz2 := rows_to gl k cl j (by omega)
              have HA1 := hideIt ha1
              have HA2 := hideIt ha2
              have HSI : Hid (sortIn ks (k + 1) = some (ns.take j ++ [keyAt ks k] ++ ns.drop j, ps.take j ++ [k] ++ ps.drop j)) := sortIn_put HSO.out (by rw [HKEY.out]; exact HPO.out) (by rw [HKEY.out]; exact HNO.out)
              have hkm : k ≤ 1048576 := by omega
              have hkj : j + 1 + (k - j) = k + 1 := by omega
              have HKJ := hideIt hkj
              clear hcu hcx ha1 ha2 hkj hbQ
              have HS1 : Hid (0 < j → ∃ ad', some (⟨gn, 0, none⟩ : Addr) = some ad' ∧ ∀ i x, ((ns.take j).map Value.string)[i]? = some x → (WQ.alloc (.cells #[] 9)).cell? (ad'.add i) = some x) := by
                intro _
                refine ⟨_, rfl, fun i x hi => ?_⟩
                have hij : i < j := by have := (List.getElem?_eq_some_iff.1 hi).1; simp at this; omega
                have ea : (⟨gn, 0, none⟩ : Addr).add i = ⟨gn, i, none⟩ := by unfold Addr.add; split <;> simp_all
                rw [ea, below_cell ((Below.refl WQ.heap.size WQ).alloc (Nat.le_refl _) _) hgnQ, HNQ.out.cellAt i (by omega)]
                rw [List.map_take, List.getElem?_take] at hi
                simpa [hij] using hi
              have HW1 : Hid ((WQ.alloc (.cells #[] 9)).ownsRow WQ.heap.size 9 1 (.slice (some ⟨WQ.heap.size, 0, none⟩) 0 0) 0 []) := by
                have := World.ownsRow_lit (base := WQ.heap.size) (e := 9) (size := 1) WQ #[] 0 (Nat.le_refl _) (by simp [maxLen]) rfl
                simpa [Hid] using this
              go_wp2_with (at_builtin; refine wpList_append_src rfl _ _ 38 rfl WQ.heap.size 9 i1 (.string ByteArray.empty) 1 16 Try.underlying38 hi1 hzz1 hs1 hy1 rfl (by decide) _ 0 [] rfl HW1.out (some ⟨gn, 0, none⟩) j cn ((ns.take j).map Value.string) rfl ?c1 HS1.out ?c2 ?c3 ?c4 ?c5 ?_)
              case c1 => simp [HLN.out.1]; omega
              case c2 => exact strs_one _
              case c3 => unfold maxLen; omega
              case c4 => omega
              case c5 => simp
              intro va wa howna hga hata
              (try simp only [Nat.zero_add, List.nil_append] at howna)
              have hBa : Below WQ.heap.size WQ wa := ((Below.refl WQ.heap.size WQ).alloc (Nat.le_refl _) _).grown hga (by simp) (fun r hr => by simp [Value.ownBlock] at hr; omega)
              have za := hBa.size
              have hka : wa.cell? ⟨bk, ok + k, none⟩ = some (.string key) := (below_cell hBa (by omega)).trans HKK.out
              have HBA := hideIt hBa
              have HOA := hideIt howna
              obtain ⟨xa, hxa⟩ : ∃ xa, va.ownBlock = some xa := by
                rcases hata with e | e
                · exact ⟨_, e⟩
                · exact ⟨_, e⟩
              obtain ⟨ca, ea, _⟩ := own_some howna hxa
              subst ea
              clear howna hga hata hxa hBa HW1 HS1
              go_wp2_with (at_builtin; refine wpList_append_own_at _ rfl _ _ 38 rfl WQ.heap.size 9 i1 (.string ByteArray.empty) 1 16 Try.underlying38 hi1 hzz1 hs1 hy1 rfl (by decide) _ _ _ rfl (HOA.out.alloc _) ⟨wa.heap.size, 0, none⟩ 1 1 [.string key] rfl rfl ?c1 ?c2 ?c3 ?c4 ?c5 ?_)
              case c1 => exact cell_one_new _ _ _
              case c2 => intro u hu; simp at hu; subst hu; rfl
              case c3 => unfold maxLen; omega
              case c4 => omega
              case c5 => simp; omega
              intro vb wb hownb hgb hnb hatb
              have hBb : Below WQ.heap.size WQ wb := (HBA.out.alloc za _).grown hgb (by simp; omega) (fun r hr => (HOA.out.lt r hr).1)
              have zb := hBb.size
              have HBB := hideIt hBb
              have HOB := hideIt hownb
              obtain ⟨xb, hxb⟩ : ∃ xb, vb.ownBlock = some xb := by
                rcases hatb with e | e
                · exact ⟨_, e⟩
                · exact ⟨_, e⟩
              obtain ⟨cb, eb, _⟩ := own_some hownb hxb
              subst eb
              clear hownb hgb hnb hatb hxb hBb HBA HOA hka
              have HS3 : Hid (0 < k - j → ∃ ad', some ad1 = some ad' ∧ ∀ i x, ((ns.drop j).map Value.string)[i]? = some x → wb.cell? (ad'.add i) = some x) := by
                intro hp
                refine ⟨_, rfl, fun i x hi => ?_⟩
                have hij : i < k - j := by have := (List.getElem?_eq_some_iff.1 hi).1; simp [HLN.out.1] at this; omega
                rw [HA1.out (by omega) hcn]
                have ea : (⟨gn, j, none⟩ : Addr).add i = ⟨gn, j + i, none⟩ := by unfold Addr.add; split <;> simp_all
                rw [ea, below_cell HBB.out hgnQ, HNQ.out.cellAt (j + i) (by omega)]
                rw [List.map_drop, List.getElem?_drop] at hi
                exact hi
              go_wp2_with (at_builtin; refine wpList_append_src rfl _ _ 38 rfl WQ.heap.size 9 i1 (.string ByteArray.empty) 1 16 Try.underlying38 hi1 hzz1 hs1 hy1 rfl (by decide) _ (j + 1) _ rfl HOB.out (some ad1) (k - j) (cn - j) ((ns.drop j).map Value.string) rfl ?c1 HS3.out ?c2 ?c3 ?c4 ?c5 ?_)
              case c1 => simp [HLN.out.1]
              case c2 => exact strs_one _
              case c3 => unfold maxLen; omega
              case c4 => omega
              case c5 => exact zb
              intro vc wc hownc hgc hatc
              have hBc : Below WQ.heap.size WQ wc := HBB.out.grown hgc zb (fun r hr => (HOB.out.lt r hr).1)
              have zc := hBc.size
              have HBC := hideIt hBc
              rw [HKJ.out] at hownc
              have HOC : Hid (wc.ownsRow WQ.heap.size 9 1 vc (k + 1) ((ns.take j ++ [key] ++ ns.drop j).map Value.string)) := by rw [Hid]; simpa [List.map_append, List.map_take, List.map_drop] using hownc
              obtain ⟨xc, hxc⟩ : ∃ xc, vc.ownBlock = some xc := by
                rcases hatc with e | e
                · exact ⟨_, e⟩
                · exact ⟨_, e⟩
              obtain ⟨cc, ec, hcc⟩ := own_some hownc hxc
              subst ec
              have hxcl : xc < wc.heap.size := (hownc.lt xc rfl).2
              clear hownc hgc hatc hxc hBc HBB HOB HS3
              have HW2 : Hid ((wc.alloc (.cells #[] 24)).ownsRow wc.heap.size 24 1 (.slice (some ⟨wc.heap.size, 0, none⟩) 0 0) 0 []) := by
                have := World.ownsRow_lit (base := wc.heap.size) (e := 24) (size := 1) wc #[] 0 (Nat.le_refl _) (by simp [maxLen]) rfl
                simpa [Hid] using this
              have HS4 : Hid (0 < j → ∃ ad', some (⟨gl, 0, none⟩ : Addr) = some ad' ∧ ∀ i x, ((ps.take j).map cs)[i]? = some x → (wc.alloc (.cells #[] 24)).cell? (ad'.add i) = some x) := by
                intro _
                refine ⟨_, rfl, fun i x hi => ?_⟩
                have hij : i < j := by have := (List.getElem?_eq_some_iff.1 hi).1; simp at this; omega
                have ea : (⟨gl, 0, none⟩ : Addr).add i = ⟨gl, i, none⟩ := by unfold Addr.add; split <;> simp_all
                rw [ea, below_cell (HBC.out.alloc zc _) hglQ, HLQ.out.cellAt i (by omega)]
                rw [List.map_take, List.getElem?_take] at hi
                simpa [hij] using hi
              go_wp2_with (at_builtin; refine wpList_append_src rfl _ _ 45 rfl wc.heap.size 24 i2 (.slice none 0 0) 1 24 Try.underlying45 hi2 hzz2 hs2 hy2 rfl (by decide) _ 0 [] rfl HW2.out (some ⟨gl, 0, none⟩) j cl ((ps.take j).map cs) rfl ?c1 HS4.out ?c2 ?c3 ?c4 ?c5 ?_)
              case c1 => simp [HLN.out.2]; omega
              case c2 => exact HON.out _ (fun i hi => Nat.lt_of_lt_of_le (HPM.out i (List.mem_of_mem_take hi)) hk)
              case c3 => unfold maxLen; omega
              case c4 => omega
              case c5 => simp
              intro vd wd hownd hgd hatd
              (try simp only [Nat.zero_add, List.nil_append] at hownd)
              have hBd : Below wc.heap.size wc wd := ((Below.refl wc.heap.size wc).alloc (Nat.le_refl _) _).grown hgd (by simp) (fun r hr => by simp [Value.ownBlock] at hr; omega)
              have zd := hBd.size
              have hud : wd.cell? ⟨bu, ou + k, none⟩ = some (.slice ax nx cx) := (below_cell hBd (by omega)).trans ((below_cell HBC.out (by omega)).trans HUK.out)
              have HBD := hideIt hBd
              have HOD := hideIt hownd
              obtain ⟨xd, hxd⟩ : ∃ xd, vd.ownBlock = some xd := by
                rcases hatd with e | e
                · exact ⟨_, e⟩
                · exact ⟨_, e⟩
              obtain ⟨cd, ed, _⟩ := own_some hownd hxd
              subst ed
              clear hownd hgd hatd hxd hBd HW2 HS4
              go_wp2_with (at_builtin; refine wpList_append_own_at _ rfl _ _ 45 rfl wc.heap.size 24 i2 (.slice none 0 0) 1 24 Try.underlying45 hi2 hzz2 hs2 hy2 rfl (by decide) _ _ _ rfl (HOD.out.alloc _) ⟨wd.heap.size, 0, none⟩ 1 1 [.slice ax nx cx] rfl rfl ?c1 ?c2 ?c3 ?c4 ?c5 ?_)
              case c1 => exact cell_one_new _ _ _
              case c2 => intro u hu; simp at hu; subst hu; rfl
              case c3 => unfold maxLen; omega
              case c4 => omega
              case c5 => simp; omega
              intro ve we howne hge hne hate
              have hBe : Below wc.heap.size wc we := (HBD.out.alloc zd _).grown hge (by simp; omega) (fun r hr => (HOD.out.lt r hr).1)
              have ze := hBe.size
              have HBE := hideIt hBe
              have HOE := hideIt howne
              obtain ⟨xe, hxe⟩ : ∃ xe, ve.ownBlock = some xe := by
                rcases hate with e | e
                · exact ⟨_, e⟩
                · exact ⟨_, e⟩
              obtain ⟨ce, ee, _⟩ := own_some howne hxe
              subst ee
              clear howne hge hne hate hxe hBe HBD HOD hud
              have HS6 : Hid (0 < k - j → ∃ ad', some ad2 = some ad' ∧ ∀ i x, ((ps.drop j).map cs)[i]? = some x → we.cell? (ad'.add i) = some x) := by
                intro hp
                refine ⟨_, rfl, fun i x hi => ?_⟩
                have hij : i < k - j := by have := (List.getElem?_eq_some_iff.1 hi).1; simp [HLN.out.2] at this; omega
                rw [HA2.out (by omega) hcl]
                have ea : (⟨gl, j, none⟩ : Addr).add i = ⟨gl, j + i, none⟩ := by unfold Addr.add; split <;> simp_all
                rw [ea, below_cell HBE.out (by omega), below_cell HBC.out hglQ, HLQ.out.cellAt (j + i) (by omega)]
                rw [List.map_drop, List.getElem?_drop] at hi
                exact hi
              go_wp2_with (at_builtin; refine wpList_append_src rfl _ _ 45 rfl wc.heap.size 24 i2 (.slice none 0 0) 1 24 Try.underlying45 hi2 hzz2 hs2 hy2 rfl (by decide) _ (j + 1) _ rfl HOE.out (some ad2) (k - j) (cl - j) ((ps.drop j).map cs) rfl ?c1 HS6.out ?c2 ?c3 ?c4 ?c5 ?_)
              case c1 => simp [HLN.out.2]
              case c2 => exact HON.out _ (fun i hi => Nat.lt_of_lt_of_le (HPM.out i (List.mem_of_mem_drop hi)) hk)
              case c3 => unfold maxLen; omega
              case c4 => omega
              case c5 => exact ze
              intro vf wf hownf hgf hatf
              have hBf : Below wc.heap.size wc wf := HBE.out.grown hgf ze (fun r hr => (HOE.out.lt r hr).1)
              have zf := hBf.size
              rw [HKJ.out] at hownf
              have HOF : Hid (wf.ownsRow wc.heap.size 24 1 vf (k + 1) ((ps.take j ++ [k] ++ ps.drop j).map cs)) := by rw [Hid]; simpa [List.map_append, List.map_take, List.map_drop, HCX.out] using hownf
              obtain ⟨xf, hxf⟩ : ∃ xf, vf.ownBlock = some xf := by
                rcases hatf with e | e
                · exact ⟨_, e⟩
                · exact ⟨_, e⟩
              obtain ⟨cf, ef, hcf⟩ := own_some hownf hxf
              subst ef
              have hxfl : xf < wf.heap.size := (hownf.lt xf rfl).2
              have HOC2 : Hid (wf.ownsRow w.heap.size 9 1 (.slice (some ⟨xc, 0, none⟩) (k + 1) cc) (k + 1) ((ns.take j ++ [key] ++ ns.drop j).map Value.string)) := own_mono (own_below HOC.out hBf (fun y hy => (HOC.out.lt y hy).2)) zw
              have HOF2 := hideIt (own_mono HOF.out (show w.heap.size ≤ wc.heap.size by omega))
              have HBF := hideIt (HBQ.out.trans ((HBC.out.trans (hBf.mono zc)).mono zw))
              have hSI := HSI.out
              rw [HKEY.out] at hSI
              have HSI2 := hideIt hSI
              clear hownf hgf hatf hxf hBf HBE HOE HS6 hSI
              go_wp2_with fail
              go_roundw
              case rel => exact ⟨k + 1, xc, xf, cc, cf, _, _, by omega, by go_num, rfl, rfl, hcc, hcf, by omega, hxfl, HSI2.out, HOC2.out, HOF2.out, HBF.out⟩
              case measure => simp [intOf]; omega
          · have hle' : Op.bytesLess (keyAt ns j).toList key.toList = true := hle
            have HLT2 : Hid (∀ t, t < j + 1 → lessB (keyAt ns t) key = true) := fun t ht => by
              by_cases e : t = j
              · subst e; exact hle
              · exact HLT.out t (by omega)
            clear hle
            go_wp2_with fail
            go_quiet (fail)
            go_wp2_with fail
            go_roundw
            case rel => exact ⟨j + 1, by omega, by go_num, HLT2.out, below_drewN hbq nq⟩
            case measure => simp [intOf]; omega
        · skip
          have HPO : Hid (posK ns key = j) := posK_eq (by rw [HLN.out.1]; exact hjk) HLT.out (fun h => absurd h (by rw [HLN.out.1]; omega))
          have HNO : Hid (hasK ns key = false) := by rw [Hid, hasK_at HPO.out, HLN.out.1]; simp [hj]
          go_wp2_with fail
          go_quiet (fail)
          have hbq1 := below_drewN hbq nq
          generalize wr.drewN nq = W1 at hbq1 ⊢
          clear nq dk0
          go_wp2_with fail
          go_quiet (fail)
          have hbQ := below_drewN hbq1 nq
          generalize W1.drewN nq = WQ at hbQ ⊢
          clear nq hbq1
          -- the key and the row are put in their place
          have zq := hbQ.size
          have zw : w.heap.size ≤ WQ.heap.size := Nat.le_trans zs zq
          have hgnQ : gn < WQ.heap.size := by omega
          have hglQ : gl < WQ.heap.size := by omega
          have HNQ := hideIt (own_below HN.out hbQ (fun y hy => (HN.out.lt y hy).2))
          have HLQ := hideIt (own_below HL.out hbQ (fun y hy => (HL.out.lt y hy).2))
          have HBQ := hideIt (hbl.trans (hbQ.mono zs))
          obtain ⟨bu, ou, rfl, hbu, hcu⟩ := HCU.out (by omega)
          have HUK := hideIt ((below_cell HBQ.out (show bu < w.heap.size by omega)).trans (hcu k hlt))
          obtain ⟨ax, nx, cx, hcx⟩ := HCS.out k hlt
          have HCX := hideIt hcx
          rw [hcx] at HUK
          have HKK : Hid (WQ.cell? ⟨bk, ok + k, none⟩ = some (.string key)) := (below_cell hbQ (by omega)).trans ck0
          obtain ⟨ad1, hf1, ha1⟩ := strs_from gn k cn j hjk
          obtain ⟨ad2, hf2, ha2⟩ := rows_from gl k cl j hjk
          have hz1 := strs_to gn k cn j (by omega)
          have hz2 := rows_to gl k cl j (by omega)
          have HA1 := hideIt ha1
          have HA2 := hideIt ha2
          have HSI : Hid (sortIn ks (k + 1) = some (ns.take j ++ [keyAt ks k] ++ ns.drop j, ps.take j ++ [k] ++ ps.drop j)) := sortIn_put HSO.out (by rw [HKEY.out]; exact HPO.out) (by rw [HKEY.out]; exact HNO.out)
          have hkm : k ≤ 1048576 := by omega
          have hkj : j + 1 + (k - j) = k + 1 := by omega
          have HKJ := hideIt hkj
          clear hcu hcx ha1 ha2 hkj hbQ
          have HS1 : Hid (0 < j → ∃ ad', some (⟨gn, 0, none⟩ : Addr) = some ad' ∧ ∀ i x, ((ns.take j).map Value.string)[i]? = some x → (WQ.alloc (.cells #[] 9)).cell? (ad'.add i) = some x) := by
            intro _
            refine ⟨_, rfl, fun i x hi => ?_⟩
            have hij : i < j := by have := (List.getElem?_eq_some_iff.1 hi).1; simp at this; omega
            have ea : (⟨gn, 0, none⟩ : Addr).add i = ⟨gn, i, none⟩ := by unfold Addr.add; split <;> simp_all
            rw [ea, below_cell ((Below.refl WQ.heap.size WQ).alloc (Nat.le_refl _) _) hgnQ, HNQ.out.cellAt i (by omega)]
            rw [List.map_take, List.getElem?_take] at hi
            simpa [hij] using hi
          have HW1 : Hid ((WQ.alloc (.cells #[] 9)).ownsRow WQ.heap.size 9 1 (.slice (some ⟨WQ.heap.size, 0, none⟩) 0 0) 0 []) := by
            have := World.ownsRow_lit (base := WQ.heap.size) (e := 9) (size := 1) WQ #[] 0 (Nat.le_refl _) (by simp [maxLen]) rfl
            simpa [Hid] using this
          go_wp2_with (at_builtin; refine wpList_append_src rfl _ _ 38 rfl WQ.heap.size 9 i1 (.string ByteArray.empty) 1 16 Try.underlying38 hi1 hzz1 hs1 hy1 rfl (by decide) _ 0 [] rfl HW1.out (some ⟨gn, 0, none⟩) j cn ((ns.take j).map Value.string) rfl ?c1 HS1.out ?c2 ?c3 ?c4 ?c5 ?_)
          case c1 => simp [HLN.out.1]; omega
          case c2 => exact strs_one _
          case c3 => unfold maxLen; omega
          case c4 => omega
          case c5 => simp
          intro va wa howna hga hata
          (try simp only [Nat.zero_add, List.nil_append] at howna)
          have hBa : Below WQ.heap.size WQ wa := ((Below.refl WQ.heap.size WQ).alloc (Nat.le_refl _) _).grown hga (by simp) (fun r hr => by simp [Value.ownBlock] at hr; omega)
          have za := hBa.size
          have hka : wa.cell? ⟨bk, ok + k, none⟩ = some (.string key) := (below_cell hBa (by omega)).trans HKK.out
          have HBA := hideIt hBa
          have HOA := hideIt howna
          obtain ⟨xa, hxa⟩ : ∃ xa, va.ownBlock = some xa := by
            rcases hata with e | e
            · exact ⟨_, e⟩
            · exact ⟨_, e⟩
          obtain ⟨ca, ea, _⟩ := own_some howna hxa
          subst ea
          clear howna hga hata hxa hBa HW1 HS1
          go_wp2_with (at_builtin; refine wpList_append_own_at _ rfl _ _ 38 rfl WQ.heap.size 9 i1 (.string ByteArray.empty) 1 16 Try.underlying38 hi1 hzz1 hs1 hy1 rfl (by decide) _ _ _ rfl (HOA.out.alloc _) ⟨wa.heap.size, 0, none⟩ 1 1 [.string key] rfl rfl ?c1 ?c2 ?c3 ?c4 ?c5 ?_)
          case c1 => exact cell_one_new _ _ _
          case c2 => intro u hu; simp at hu; subst hu; rfl
          case c3 => unfold maxLen; omega
          case c4 => omega
          case c5 => simp; omega
          intro vb wb hownb hgb hnb hatb
          have hBb : Below WQ.heap.size WQ wb := (HBA.out.alloc za _).grown hgb (by simp; omega) (fun r hr => (HOA.out.lt r hr).1)
          have zb := hBb.size
          have HBB := hideIt hBb
          have HOB := hideIt hownb
          obtain ⟨xb, hxb⟩ : ∃ xb, vb.ownBlock = some xb := by
            rcases hatb with e | e
            · exact ⟨_, e⟩
            · exact ⟨_, e⟩
          obtain ⟨cb, eb, _⟩ := own_some hownb hxb
          subst eb
          clear hownb hgb hnb hatb hxb hBb HBA HOA hka
          have HS3 : Hid (0 < k - j → ∃ ad', some ad1 = some ad' ∧ ∀ i x, ((ns.drop j).map Value.string)[i]? = some x → wb.cell? (ad'.add i) = some x) := by
            intro hp
            refine ⟨_, rfl, fun i x hi => ?_⟩
            have hij : i < k - j := by have := (List.getElem?_eq_some_iff.1 hi).1; simp [HLN.out.1] at this; omega
            rw [HA1.out (by omega) hcn]
            have ea : (⟨gn, j, none⟩ : Addr).add i = ⟨gn, j + i, none⟩ := by unfold Addr.add; split <;> simp_all
            rw [ea, below_cell HBB.out hgnQ, HNQ.out.cellAt (j + i) (by omega)]
            rw [List.map_drop, List.getElem?_drop] at hi
            exact hi
          go_wp2_with (at_builtin; refine wpList_append_src rfl _ _ 38 rfl WQ.heap.size 9 i1 (.string ByteArray.empty) 1 16 Try.underlying38 hi1 hzz1 hs1 hy1 rfl (by decide) _ (j + 1) _ rfl HOB.out (some ad1) (k - j) (cn - j) ((ns.drop j).map Value.string) rfl ?c1 HS3.out ?c2 ?c3 ?c4 ?c5 ?_)
          case c1 => simp [HLN.out.1]
          case c2 => exact strs_one _
          case c3 => unfold maxLen; omega
          case c4 => omega
          case c5 => exact zb
          intro vc wc hownc hgc hatc
          have hBc : Below WQ.heap.size WQ wc := HBB.out.grown hgc zb (fun r hr => (HOB.out.lt r hr).1)
          have zc := hBc.size
          have HBC := hideIt hBc
          rw [HKJ.out] at hownc
          have HOC : Hid (wc.ownsRow WQ.heap.size 9 1 vc (k + 1) ((ns.take j ++ [key] ++ ns.drop j).map Value.string)) := by rw [Hid]; simpa [List.map_append, List.map_take, List.map_drop] using hownc
          obtain ⟨xc, hxc⟩ : ∃ xc, vc.ownBlock = some xc := by
            rcases hatc with e | e
            · exact ⟨_, e⟩
            · exact ⟨_, e⟩
          obtain ⟨cc, ec, hcc⟩ := own_some hownc hxc
          subst ec
          have hxcl : xc < wc.heap.size := (hownc.lt xc rfl).2
          clear hownc hgc hatc hxc hBc HBB HOB HS3
          have HW2 : Hid ((wc.alloc (.cells #[] 24)).ownsRow wc.heap.size 24 1 (.slice (some ⟨wc.heap.size, 0, none⟩) 0 0) 0 []) := by
            have := World.ownsRow_lit (base := wc.heap.size) (e := 24) (size := 1) wc #[] 0 (Nat.le_refl _) (by simp [maxLen]) rfl
            simpa [Hid] using this
          have HS4 : Hid (0 < j → ∃ ad', some (⟨gl, 0, none⟩ : Addr) = some ad' ∧ ∀ i x, ((ps.take j).map cs)[i]? = some x → (wc.alloc (.cells #[] 24)).cell? (ad'.add i) = some x) := by
            intro _
            refine ⟨_, rfl, fun i x hi => ?_⟩
            have hij : i < j := by have := (List.getElem?_eq_some_iff.1 hi).1; simp at this; omega
            have ea : (⟨gl, 0, none⟩ : Addr).add i = ⟨gl, i, none⟩ := by unfold Addr.add; split <;> simp_all
            rw [ea, below_cell (HBC.out.alloc zc _) hglQ, HLQ.out.cellAt i (by omega)]
            rw [List.map_take, List.getElem?_take] at hi
            simpa [hij] using hi
          go_wp2_with (at_builtin; refine wpList_append_src rfl _ _ 45 rfl wc.heap.size 24 i2 (.slice none 0 0) 1 24 Try.underlying45 hi2 hzz2 hs2 hy2 rfl (by decide) _ 0 [] rfl HW2.out (some ⟨gl, 0, none⟩) j cl ((ps.take j).map cs) rfl ?c1 HS4.out ?c2 ?c3 ?c4 ?c5 ?_)
          case c1 => simp [HLN.out.2]; omega
          case c2 => exact HON.out _ (fun i hi => Nat.lt_of_lt_of_le (HPM.out i (List.mem_of_mem_take hi)) hk)
          case c3 => unfold maxLen; omega
          case c4 => omega
          case c5 => simp
          intro vd wd hownd hgd hatd
          (try simp only [Nat.zero_add, List.nil_append] at hownd)
          have hBd : Below wc.heap.size wc wd := ((Below.refl wc.heap.size wc).alloc (Nat.le_refl _) _).grown hgd (by simp) (fun r hr => by simp [Value.ownBlock] at hr; omega)
          have zd := hBd.size
          have hud : wd.cell? ⟨bu, ou + k, none⟩ = some (.slice ax nx cx) := (below_cell hBd (by omega)).trans ((below_cell HBC.out (by omega)).trans HUK.out)
          have HBD := hideIt hBd
          have HOD := hideIt hownd
          obtain ⟨xd, hxd⟩ : ∃ xd, vd.ownBlock = some xd := by
            rcases hatd with e | e
            · exact ⟨_, e⟩
            · exact ⟨_, e⟩
          obtain ⟨cd, ed, _⟩ := own_some hownd hxd
          subst ed
          clear hownd hgd hatd hxd hBd HW2 HS4
          go_wp2_with (at_builtin; refine wpList_append_own_at _ rfl _ _ 45 rfl wc.heap.size 24 i2 (.slice none 0 0) 1 24 Try.underlying45 hi2 hzz2 hs2 hy2 rfl (by decide) _ _ _ rfl (HOD.out.alloc _) ⟨wd.heap.size, 0, none⟩ 1 1 [.slice ax nx cx] rfl rfl ?c1 ?c2 ?c3 ?c4 ?c5 ?_)
          case c1 => exact cell_one_new _ _ _
          case c2 => intro u hu; simp at hu; subst hu; rfl
          case c3 => unfold maxLen; omega
          case c4 => omega
          case c5 => simp; omega
          intro ve we howne hge hne hate
          have hBe : Below wc.heap.size wc we := (HBD.out.alloc zd _).grown hge (by simp; omega) (fun r hr => (HOD.out.lt r hr).1)
          have ze := hBe.size
          have HBE := hideIt hBe
          have HOE := hideIt howne
          obtain ⟨xe, hxe⟩ : ∃ xe, ve.ownBlock = some xe := by
            rcases hate with e | e
            · exact ⟨_, e⟩
            · exact ⟨_, e⟩
          obtain ⟨ce, ee, _⟩ := own_some howne hxe
          subst ee
          clear howne hge hne hate hxe hBe HBD HOD hud
          have HS6 : Hid (0 < k - j → ∃ ad', some ad2 = some ad' ∧ ∀ i x, ((ps.drop j).map cs)[i]? = some x → we.cell? (ad'.add i) = some x) := by
            intro hp
            refine ⟨_, rfl, fun i x hi => ?_⟩
            have hij : i < k - j := by have := (List.getElem?_eq_some_iff.1 hi).1; simp [HLN.out.2] at this; omega
            rw [HA2.out (by omega) hcl]
            have ea : (⟨gl, j, none⟩ : Addr).add i = ⟨gl, j + i, none⟩ := by unfold Addr.add; split <;> simp_all
            rw [ea, below_cell HBE.out (by omega), below_cell HBC.out hglQ, HLQ.out.cellAt (j + i) (by omega)]
            rw [List.map_drop, List.getElem?_drop] at hi
            exact hi
          go_wp2_with (at_builtin; refine wpList_append_src rfl _ _ 45 rfl wc.heap.size 24 i2 (.slice none 0 0) 1 24 Try.underlying45 hi2 hzz2 hs2 hy2 rfl (by decide) _ (j + 1) _ rfl HOE.out (some ad2) (k - j) (cl - j) ((ps.drop j).map cs) rfl ?c1 HS6.out ?c2 ?c3 ?c4 ?c5 ?_)
          case c1 => simp [HLN.out.2]
          case c2 => exact HON.out _ (fun i hi => Nat.lt_of_lt_of_le (HPM.out i (List.mem_of_mem_drop hi)) hk)
          case c3 => unfold maxLen; omega
          case c4 => omega
          case c5 => exact ze
          intro vf wf hownf hgf hatf
          have hBf : Below wc.heap.size wc wf := HBE.out.grown hgf ze (fun r hr => (HOE.out.lt r hr).1)
          have zf := hBf.size
          rw [HKJ.out] at hownf
          have HOF : Hid (wf.ownsRow wc.heap.size 24 1 vf (k + 1) ((ps.take j ++ [k] ++ ps.drop j).map cs)) := by rw [Hid]; simpa [List.map_append, List.map_take, List.map_drop, HCX.out] using hownf
          obtain ⟨xf, hxf⟩ : ∃ xf, vf.ownBlock = some xf := by
            rcases hatf with e | e
            · exact ⟨_, e⟩
            · exact ⟨_, e⟩
          obtain ⟨cf, ef, hcf⟩ := own_some hownf hxf
          subst ef
          have hxfl : xf < wf.heap.size := (hownf.lt xf rfl).2
          have HOC2 : Hid (wf.ownsRow w.heap.size 9 1 (.slice (some ⟨xc, 0, none⟩) (k + 1) cc) (k + 1) ((ns.take j ++ [key] ++ ns.drop j).map Value.string)) := own_mono (own_below HOC.out hBf (fun y hy => (HOC.out.lt y hy).2)) zw
          have HOF2 := hideIt (own_mono HOF.out (show w.heap.size ≤ wc.heap.size by omega))
          have HBF := hideIt (HBQ.out.trans ((HBC.out.trans (hBf.mono zc)).mono zw))
          have hSI := HSI.out
          rw [HKEY.out] at hSI
          have HSI2 := hideIt hSI
          clear hownf hgf hatf hxf hBf HBE HOE HS6 hSI
          go_wp2_with fail
          go_roundw
          case rel => exact ⟨k + 1, xc, xf, cc, cf, _, _, by omega, by go_num, rfl, rfl, hcc, hcf, by omega, hxfl, HSI2.out, HOC2.out, HOF2.out, HBF.out⟩
          case measure => simp [intOf]; omega
    · obtain rfl : k = m := by omega
      have HLN2 := hideIt HLN.out
      go_wp2_with fail
      go_ret3
      exact ⟨by rw [HSO.out]; exact ⟨_, _, rfl, by rw [HLN.out.1]; exact HN.out, by rw [HLN.out.2]; exact HL.out⟩, hbl⟩
end Go.Proofs.Ythoeockngjmipaa

/-
  spec.MapOf: the map's nodes, the keys in order.
-/
namespace Go.Proofs.Ythoeockngjmipaa
open Go.RowKit
set_option linter.unusedSimpArgs false
set_option linter.unusedVariables false

/-- The rows' own values. -/
theorem RowsAt.cells {B : Nat} {w : World} {u : Value} {m : Nat} {L : Nat → List VN} (h : RowsAt B w u m L) : ∃ cs : Nat → Value, CellsAt B w u m cs ∧ ∀ i, i < m → NodesAt B w (cs i) (L i) := by
  obtain ⟨_, a, cap, rfl, hx⟩ := h
  by_cases hp : 0 < m
  · obtain ⟨b, rfl, hb, hc⟩ := hx hp
    refine ⟨fun i => if h : i < m then Classical.choose (hc i h) else undef, ⟨_, cap, rfl, fun i hi => ?_, fun _ => ⟨b, 0, rfl, hb, fun i hi => ?_⟩⟩, fun i hi => ?_⟩
    · simp only [dif_pos hi]
      obtain ⟨_, a, c, e, _⟩ := (Classical.choose_spec (hc i hi)).2
      exact ⟨_, _, _, e⟩
    · simp only [dif_pos hi]
      rw [Nat.zero_add]
      exact (Classical.choose_spec (hc i hi)).1
    · simp only [dif_pos hi]
      exact (Classical.choose_spec (hc i hi)).2
  · exact ⟨fun _ => undef, ⟨a, cap, rfl, fun i hi => absurd hi (by omega), fun h => absurd h hp⟩, fun i hi => absurd hi (by omega)⟩

/-- The rows in another order. -/
theorem rows_perm {base B : Nat} {w : World} {v : Value} {ps : List Nat} {cs : Nat → Value} {L : Nat → List VN} {m : Nat} (h : w.ownsRow base 24 1 v ps.length (ps.map cs)) (hl : ps.length = m) (hm : m ≤ 1048576) (hB : B ≤ w.heap.size) (hps : ∀ x ∈ ps, x < m) (hc : ∀ i, i < m → NodesAt B w (cs i) (L i)) : RowsAt w.heap.size w v m (fun j => L (ps.getD j 0)) := by
  obtain ⟨a, c, e⟩ := own_slice h
  subst e
  rw [hl] at h ⊢
  refine ⟨hm, a, c, rfl, fun hp => ?_⟩
  obtain ⟨g, c', e, _, hg⟩ := h.form hp
  cases e
  refine ⟨g, rfl, hg, fun i hi => ⟨cs (ps.getD i 0), ?_, ?_⟩⟩
  · rw [h.cellAt i (by omega)]
    rw [List.getElem?_map, List.getElem?_eq_getElem (by omega), List.getD_eq_getElem?_getD, List.getElem?_eq_getElem (by omega)]
    rfl
  · refine (hc _ ?_).wide hB
    apply hps
    rw [List.getD_eq_getElem?_getD, List.getElem?_eq_getElem (by omega)]
    exact List.getElem_mem _

set_option maxRecDepth 100000 in
set_option maxHeartbeats 3200000 in
theorem specMapOf_any (B : Nat) (kv u : Value) (l : List ByteArray) (m : Nat) (L : Nat → List VN) (w : World) (hk : StrsAt B w kv l) (hu : RowsAt B w u m L) (hB : B ≤ w.heap.size) (hf : ∀ i, i < m → ∀ j, j < (L i).length → Fits (nodeAt (L i) j)) :
    Calls Try.prog 22 #[kv, u] w fun e w' => ∃ r base KV IV, e = .returned (.tuple #[r, .bool (mapB l L m)]) ∧ w.heap.size ≤ base ∧ Nest base w' r (mapNs l L m) KV IV ∧ Below w.heap.size w w' := by
  have HK := hideIt hk
  have HU := hideIt hu
  obtain ⟨cs, hcs, hcn⟩ := hu.cells
  have HCS := hideIt hcs
  have HCN := hideIt hcn
  obtain ⟨hkn, _, ak, ck, rfl, _⟩ := hk
  obtain ⟨_, au, cu, rfl, _⟩ := hu
  clear hcs hcn
  have HMB : Hid (mapB l L m = (allB L m && decide (m ≤ 80) && decide (l.length = m) && (match sortNs l L m with | none => false | some vs => okB vs))) := rfl
  have HMN : Hid (mapNs l L m = if mapB l L m = true then (sortNs l L m).getD [] else []) := rfl
  obtain ⟨N, hN⟩ : ∃ N, l.length = N := ⟨_, rfl⟩
  have HN := hideIt hN
  rw [hN] at hkn HK ⊢
  clear hN
  go_enter Try.func22, Try.ntmps22
  go_wp2_with fail
  refine (l1All_any B _ m L _ HU.out hB).mono ?_
  rintro e w1 ⟨rfl, hb1⟩
  have z1 := hb1.size
  cases ok1 : (allB L m && decide (m ≤ 80))
  · have HNO : Hid (mapB l L m = false) := by rw [Hid, HMB.out, ok1]; rfl
    clear ok1
    go_wp2_with fail
    go_ret2
    exact ⟨.slice none 0 0, w.heap.size, fun _ => undef, fun _ => undef, by rw [HNO.out]; rfl, Nat.le_refl _, by rw [HMN.out, HNO.out]; exact Nest.nil _ _ _ _, hb1⟩
  have hall : allB L m = true ∧ m ≤ 80 := by simpa using ok1
  have HOK := hideIt (allB_yes hall.1)
  have hm := hall.2
  have HA1 := hideIt ok1
  clear hall ok1
  by_cases hNm : N = m
  case neg =>
    have hne : ((N : Int) != (m : Int)) = true := by rw [bne_iff_ne]; omega
    have HNO : Hid (mapB l L m = false) := by rw [Hid, HMB.out, HN.out]; simp [hNm]
    clear hNm
    go_wp2_with fail
    go_ret2
    exact ⟨.slice none 0 0, w.heap.size, fun _ => undef, fun _ => undef, by rw [HNO.out]; rfl, Nat.le_refl _, by rw [HMN.out, HNO.out]; exact Nest.nil _ _ _ _, hb1⟩
  case pos =>
  subst hNm
  have hne : ((N : Int) != (N : Int)) = false := by simp
  have HB1 := hideIt hb1
  have HCS1 : Hid (CellsAt B w1 (.slice au N cu) l.length cs) := by
    rw [Hid, HN.out]
    obtain ⟨a, c, e, h1, h2⟩ := HCS.out
    exact ⟨a, c, e, h1, fun hp => by
      obtain ⟨b, o, e2, hb, hc⟩ := h2 hp
      exact ⟨b, o, e2, hb, fun i hi => (below_cell (HB1.out.mono hB) hb).trans (hc i hi)⟩⟩
  clear hb1
  go_wp2_with fail
  refine (l1Sorted_any B _ _ l cs w1 (by have := HK.out.below (HB1.out.mono hB); exact this) HCS1.out (by omega) (by rw [HN.out]; omega)).mono ?_
  rintro e w2 ⟨hs, hb2⟩
  have z2 := hb2.size
  have HB2 := hideIt (HB1.out.trans (hb2.mono z1))
  have HCN2 : Hid (∀ i, i < N → NodesAt B w2 (cs i) (L i)) := fun i hi => (HCN.out i hi).below (HB2.out.mono hB)
  clear hb2
  cases hso : sortIn l l.length with
  | none =>
    rw [hso] at hs
    obtain rfl := hs
    have HNO : Hid (mapB l L N = false) := by
      have : sortNs l L N = none := by unfold sortNs; rw [hso]
      rw [Hid, HMB.out, this]; simp
    clear hso
    go_wp2_with fail
    refine (l1Make_any B 6 _ _ [] 0 L w2 ⟨by simp, fun i hi => absurd hi (by simp), none, 0, rfl, fun h => absurd h (by simp)⟩ ⟨by omega, none, 0, rfl, fun h => absurd h (by omega)⟩ (by omega) (by omega) (by simp) (by simp [catNs]) (fun i hi => absurd hi (by omega))).mono ?_
    rintro e w3 ⟨r, KV, IV, rfl, hn3, hb3⟩
    have HB3 := hideIt (HB2.out.trans (hb3.mono (by omega)))
    obtain ⟨ar, cr, er⟩ := own_slice hn3.row
    obtain ⟨M, hM⟩ : ∃ M, (makeNs 6 [] L 0).length = M := ⟨_, rfl⟩
    rw [hM] at er
    subst er
    clear hn3 hb3 hM
    go_wp2_with fail
    go_ret2
    exact ⟨.slice none 0 0, w.heap.size, fun _ => undef, fun _ => undef, by rw [HNO.out]; rfl, Nat.le_refl _, by rw [HMN.out, HNO.out]; exact Nest.nil _ _ _ _, HB3.out⟩
  | some q =>
    obtain ⟨ns, ps⟩ := q
    rw [hso] at hs
    obtain ⟨nv, lv, rfl, hnv, hlv⟩ := hs
    have hln := sortIn_len hso
    rw [HN.out] at hln
    have HSN : Hid (sortNs l L N = some (makeNs 6 ns (fun j => L (ps.getD j 0)) N)) := by rw [Hid]; unfold sortNs; rw [hso]
    have HPM : Hid (∀ x ∈ ps, x < N) := fun x hx => by have := sortIn_mem hso x hx; rw [HN.out] at this; exact this
    have HMP := hideIt (sortIn_map hso)
    have HPJ : Hid (∀ i, i < N → ps.getD i 0 < N) := fun i hi => by
      apply HPM.out
      rw [List.getD_eq_getElem?_getD, List.getElem?_eq_getElem (by omega)]
      exact List.getElem_mem _
    have HNK : Hid (∀ i, i < ns.length → (keyAt ns i).size ≤ 140737488355328) := fun i hi => by
      have e2 : keyAt ns i = keyAt l (ps.getD i 0) := by
        rw [keyAt_get hi, List.getD_eq_getElem?_getD, List.getElem?_eq_getElem (show i < ps.length by omega)]
        have := HMP.out
        subst this
        simp
      rw [e2]
      exact HK.out.2.1 _ (by rw [HN.out]; exact HPJ.out i (by omega))
    have HST := hideIt (own_strs hnv (by omega) HNK.out)
    have HRW := hideIt (rows_perm hlv hln.2 (by omega) (show B ≤ w2.heap.size by omega) HPM.out HCN2.out)
    have HOK2 : Hid (∀ i, i < N → okB ((fun j => L (ps.getD j 0)) i) = true) := fun i hi => HOK.out _ (HPJ.out i hi)
    have HNI := hideIt (make_nice hm HOK2.out (fun i hi j hj => hf _ (HPJ.out i hi) j hj) (kind := 6) (by omega) (by omega) (keys := ns) (by omega) HNK.out)
    have HLE := hideIt (catNs_le HOK2.out N (Nat.le_refl _))
    obtain ⟨anv, cnv, env⟩ := own_slice hnv
    obtain ⟨alv, clv, elv⟩ := own_slice hlv
    rw [hln.1] at env
    rw [hln.2] at elv
    subst env elv
    have hl1 := hln.1
    have HL1 := hideIt hl1
    clear hnv hlv hso hln hl1
    go_wp2_with fail
    refine (l1Make_any w2.heap.size 6 _ _ ns N (fun j => L (ps.getD j 0)) w2 HST.out HRW.out (Nat.le_refl _) (by omega) (by rw [HL1.out]; omega) (by have := HLE.out; omega) (near_of HOK2.out)).mono ?_
    rintro e w3 ⟨r, KV, IV, rfl, hn3, hb3⟩
    have HN3 := hideIt hn3
    obtain ⟨ar, cr, er⟩ := own_slice hn3.row
    obtain ⟨vsO, hvs⟩ : ∃ vsO, makeNs 6 ns (fun j => L (ps.getD j 0)) N = vsO := ⟨_, rfl⟩
    rw [hvs] at er HN3 HNI HSN
    obtain ⟨M, hM⟩ : ∃ M, vsO.length = M := ⟨_, rfl⟩
    rw [hM] at er
    subst er
    have z3 := hb3.size
    have HB3 := hideIt (HB2.out.trans (hb3.mono (by omega)))
    clear hn3 hb3 hM hvs
    go_wp2_with fail
    refine (specOk_any w3.heap.size _ vsO _ (HN3.out.nodes (by have := HNI.out.1; omega) (fun i hi => (HNI.out.2 i hi).1)) (Nat.le_refl _)).mono ?_
    rintro e w4 ⟨rfl, hb4⟩
    have HN4 := hideIt (HN3.out.below hb4)
    have HB4 := hideIt (HB3.out.trans (hb4.mono (by omega)))
    clear hb4
    cases ok2 : okB vsO
    · have HNO : Hid (mapB l L N = false) := by rw [Hid, HMB.out, HSN.out]; simp [ok2]
      clear ok2
      go_wp2_with fail
      go_ret2
      exact ⟨.slice none 0 0, w.heap.size, fun _ => undef, fun _ => undef, by rw [HNO.out]; rfl, Nat.le_refl _, by rw [HMN.out, HNO.out]; exact Nest.nil _ _ _ _, HB4.out⟩
    · have HYE : Hid (mapB l L N = true) := by rw [Hid, HMB.out, HSN.out, HA1.out, HN.out]; simp [ok2]
      clear ok2
      go_wp2_with fail
      go_ret2
      exact ⟨.slice ar M cr, w2.heap.size, KV, IV, by rw [HYE.out]; rfl, by omega, by rw [HMN.out, HYE.out, HSN.out]; exact HN4.out, HB4.out⟩
end Go.Proofs.Ythoeockngjmipaa

/-
  The law of MapOf: the call returns true and turns nothing that was there.
-/
namespace Go.Proofs.Ythoeockngjmipaa
open Go.RowKit
set_option linter.unusedSimpArgs false
set_option linter.unusedVariables false

theorem map_few {l : List ByteArray} {L : Nat → List VN} {m : Nat} (hs : ∀ i, i < l.length → (keyAt l i).size ≤ 140737488355328) (hf : ∀ i, i < m → ∀ j, j < (L i).length → Fits (nodeAt (L i) j)) : Few (mapNs l L m) ∧ ∀ i, i < (mapNs l L m).length → Fits (nodeAt (mapNs l L m) i) := by
  have none0 : Few ([] : List VN) ∧ ∀ i, i < ([] : List VN).length → Fits (nodeAt [] i) := ⟨⟨by simp, fun i hi => absurd hi (by simp)⟩, fun i hi => absurd hi (by simp)⟩
  cases e : mapB l L m
  · have : mapNs l L m = [] := by unfold mapNs; rw [e]; rfl
    rw [this]
    exact none0
  · have e2 : mapNs l L m = (sortNs l L m).getD [] := by unfold mapNs; rw [e]; rfl
    cases hso : sortIn l l.length with
    | none =>
      have : sortNs l L m = none := by unfold sortNs; rw [hso]
      rw [e2, this]
      exact none0
    | some q =>
      obtain ⟨ns, ps⟩ := q
      have hsn : sortNs l L m = some (makeNs 6 ns (fun j => L (ps.getD j 0)) m) := by unfold sortNs; rw [hso]
      unfold mapB at e
      rw [hsn] at e
      simp only [Bool.and_eq_true, decide_eq_true_eq] at e
      obtain ⟨⟨⟨h1, h2⟩, h4⟩, h3⟩ := e
      have hln := sortIn_len hso
      have hpj : ∀ i, i < m → ps.getD i 0 < m := fun i hi => by
        have : ps.getD i 0 ∈ ps := by
          rw [List.getD_eq_getElem?_getD, List.getElem?_eq_getElem (by omega)]
          exact List.getElem_mem _
        have := sortIn_mem hso _ this
        omega
      have hks : ∀ i, i < ns.length → (keyAt ns i).size ≤ 140737488355328 := fun i hi => by
        have hmp := sortIn_map hso
        have e2 : keyAt ns i = keyAt l (ps.getD i 0) := by
          rw [keyAt_get hi, List.getD_eq_getElem?_getD, List.getElem?_eq_getElem (show i < ps.length by omega)]
          simp [hmp]
        rw [e2]
        exact hs _ (by have := hpj i (by omega); omega)
      have hn := make_nice (L := fun j => L (ps.getD j 0)) h2 (fun i hi => allB_yes h1 _ (hpj i hi)) (fun i hi => hf _ (hpj i hi)) (kind := 6) (by omega) (by omega) (keys := ns) (by omega) hks
      rw [e2, hsn]
      exact ⟨⟨(okB_parts h3).1.2, fun i hi => ⟨(hn.2 i hi).2.1, (hn.2 i hi).2.2.1⟩⟩, fun i hi => (hn.2 i hi).1⟩

theorem toKeys (B : Nat) (v : Value) (l : List ByteArray) (N : Nat) (w : World) (h : StrsAt B w v l) (hB : B ≤ w.heap.size) (hN : l.length = N) :
    Calls Try.prog 23 #[v] w fun e w' => e = .returned (.slice (some ⟨w.heap.size, 0, none⟩) N N) ∧
      WRow w' w.heap.size N ∧ w.heap.size < w'.heap.size ∧ StrsAt w'.heap.size w' (.slice (some ⟨w.heap.size, 0, none⟩) N N) l ∧ Below w.heap.size w w' := by
  refine (toStringS_any B v l w h hB).mono ?_
  rintro e w' ⟨rfl, hr, hb⟩
  subst hN
  exact ⟨rfl, fun j hj => ⟨⟨_, hr.cell hj⟩, hr.frozen j⟩, hr.lt, rowStrs hr h.1 h.2.1 _ hr.lt, hb⟩

theorem Below.nextM {A : Nat} {a b c : World} (h : Below A a b) (h2 : Below b.heap.size b c) (hA : A ≤ b.heap.size) : Below A a c := h.trans (h2.mono hA)

set_option maxRecDepth 100000 in
set_option maxHeartbeats 12800000 in
theorem lawMapOf_walk (vk v : Value) (l : List ByteArray) (m : Nat) (L : Nat → List VN) (w : World) (hk : RawStrs w.heap.size w vk l) (h : RawRows w.heap.size w v m L) :
    Calls Try.prog 5 #[vk, v] w fun e w' => e = .returned (.bool true) ∧ Below w.heap.size w w' := by
  have H := hideIt h
  have HK := hideIt hk
  obtain ⟨N, hN⟩ : ∃ N, l.length = N := ⟨_, rfl⟩
  have HNN := hideIt hN
  obtain ⟨_, a, cap, rfl, _⟩ := h
  obtain ⟨_, _, ak, capk, rfl, _⟩ := hk
  rw [hN] at HK ⊢
  clear hN
  go_enter Try.func5, Try.ntmps5
  go_wp2_with fail
  refine (szStringS_w w.heap.size _ l 1048576 _ HK.out (by omega) (by omega)).mono ?_
  rintro e w0 ⟨⟨q1, rfl, hq1, hs1⟩, e0⟩
  have e0' := e0.symm
  clear e0
  subst e0'
  rw [HNN.out] at hs1
  have HS1 := hideIt hs1
  clear hs1
  by_cases hq10 : q1 < 0
  · go_wp2_with fail
    go_ret
    exact ⟨rfl, Below.refl _ _⟩
  have hN20 : (N : Int) ≤ 1048576 := by have := (HS1.out (by omega)).1; omega
  have hN2 : N ≤ 1048576 := by omega
  clear hN20
  have HKS : Hid (∀ i, i < l.length → (keyAt l i).size ≤ 1048576) := fun i hi => (HS1.out (by omega)).2 i (by rw [← HNN.out]; exact hi)
  have HSA : Hid (StrsAt w.heap.size w (.slice ak N capk) l) := HK.out.fit (by rw [HNN.out]; exact hN2) HKS.out
  go_wp2_with fail
  refine (szVNodeSS_w w.heap.size _ m L q1 _ H.out (Nat.le_refl _) (by omega) (by omega)).mono ?_
  rintro e w1 ⟨⟨q, rfl, hq, hs⟩, hb1⟩
  have HS := hideIt hs
  clear hs
  have z1 := hb1.size
  by_cases hq0 : q < 0
  · go_wp2_with fail
    go_ret
    exact ⟨rfl, hb1⟩
  have HSM := hideIt (HS.out (by omega))
  have hm := HSM.out.1
  have HW : Hid (wts L m ≤ 3145728) := by have := HSM.out.2.2; unfold Hid; omega
  have HN := hideIt (H.out.fit HSM.out.1 HSM.out.2.1)
  have HF := hideIt HN.out.fits
  have HR := hideIt (map_few (l := l) HSA.out.2.1 HF.out)
  have HLF : Hid (∀ i, i < m → (L i).length ≤ 1048576 ∧ ∀ j, j < (L i).length → Fits (nodeAt (L i) j)) := fun i hi => ⟨(HSM.out.2.1 i hi).1, HF.out i hi⟩
  have HB1 := hideIt hb1
  clear hb1
  go_wp2_with fail
  refine (toKeys w.heap.size _ l N w1 (HSA.out.below HB1.out) (by omega) HNN.out).mono ?_
  rintro e w2 ⟨rfl, _, t2, hst2, hb2⟩
  have HST2 := hideIt hst2
  have HB2 := hideIt (Below.nextM HB1.out hb2 z1)
  have z2 := HB2.out.size
  clear hst2 hb2
  go_wp2_with fail
  refine (toVNodeSS_any w.heap.size _ m L _ (HN.out.below HB2.out) HSM.out.2.1 (by omega)).mono ?_
  rintro e w3 ⟨rs3, KB3, KI3, lo3, rfl, ho3, hb3⟩
  have HO3 := hideIt ho3
  have HST3 := hideIt ((HST2.out.below hb3).wide hb3.size)
  have HB3 := hideIt (Below.nextM HB2.out hb3 z2)
  have z3 := HB3.out.size
  clear ho3 hb3
  go_wp2_with fail
  refine (specMapOf_any w3.heap.size _ _ l m L _ HST3.out (HO3.out.rowsAny hm HLF.out) (Nat.le_refl _) HF.out).mono ?_
  rintro e w4 ⟨r0, base0, KV0, IV0, rfl, hbase0, hnest0, hb4⟩
  have HN0 := hideIt hnest0
  obtain ⟨a0, c0, hr0⟩ := own_slice hnest0.row
  obtain ⟨M, hL⟩ : ∃ M, (mapNs l L m).length = M := ⟨_, rfl⟩
  have HLL := hideIt hL
  rw [hL] at hr0
  subst hr0
  have HB4 := hideIt (Below.nextM HB3.out hb4 z3)
  have z4 := HB4.out.size
  clear hnest0 hb4 hL t2
  go_wp2_with fail
  refine (toKeys w.heap.size _ l N w4 (HSA.out.below HB4.out) (by omega) HNN.out).mono ?_
  rintro e w5 ⟨rfl, hw5, t5, hst5, hb5⟩
  have HW5 := hideIt hw5
  have HST5 := hideIt hst5
  have H45 := hideIt hb5
  have HB5 := hideIt (Below.nextM HB4.out hb5 z4)
  have z5 := HB5.out.size
  clear hst5 hb5 hw5
  go_wp2_with fail
  refine (toVNodeSS_any w.heap.size _ m L _ (HN.out.below HB5.out) HSM.out.2.1 (by omega)).mono ?_
  rintro e w6 ⟨rs6, KB6, KI6, lo6, rfl, ho6, hb6⟩
  have HO6 := hideIt ho6
  have H56 := hideIt hb6
  have H46 := hideIt (Below.nextM H45.out hb6 (by omega))
  have HB6 := hideIt (Below.nextM HB5.out hb6 z5)
  have HST6 := hideIt ((HST5.out.below hb6).wide hb6.size)
  have z6 := hb6.size
  clear ho6 hb6
  go_wp2_with fail
  refine (implMapOf_any w6.heap.size _ _ l m L _ HST6.out (HO6.out.rowsAny hm HLF.out) (Nat.le_refl _) HF.out).mono ?_
  rintro e w7 ⟨r7, base7, KV7, IV7, rfl, hbase7, hbase7', hnest7, hb7⟩
  have HN7 := hideIt hnest7
  obtain ⟨a7, c7, hr7⟩ := own_slice hnest7.row
  rw [HLL.out] at hr7
  subst hr7
  have HO7 := hideIt (HO6.out.below hb7)
  have H57 := hideIt (Below.nextM H56.out hb7 (by omega))
  have H47 := hideIt (Below.nextM H46.out hb7 (by omega))
  have HB7 := hideIt (Below.nextM HB6.out hb7 (by omega))
  have z7 := hb7.size
  clear hnest7 hb7
  have hpe : (mapB l L m != mapB l L m) = false := by simp
  have HR1 : Hid ((mapNs l L m).length ≤ 1759218604416) := Nat.le_trans HR.out.1.1 (by omega)
  have HR2 : Hid (∀ i, i < (mapNs l L m).length → Fits (nodeAt (mapNs l L m) i)) := HR.out.2
  go_wp2_with fail
  refine (eqVNodeS_any w7.heap.size _ _ (mapNs l L m) _ (HN7.out.nodes HR1.out HR2.out) ((HN0.out.below H47.out).nodes HR1.out HR2.out) (Nat.le_refl _)).mono ?_
  rintro e w8 ⟨rfl, hb8⟩
  have HO8 := hideIt (HO7.out.below hb8)
  have H58 := hideIt (Below.nextM H57.out hb8 (by omega))
  have H48 := hideIt (Below.nextM H47.out hb8 (by omega))
  have HB8 := hideIt (Below.nextM HB7.out hb8 (by omega))
  have HFR8 := hideIt ((From.refl base7 w7).below hb8)
  have z8 := hb8.size
  clear hb8
  go_wp2_with fail
  refine (toKeys w.heap.size _ l N w8 (HSA.out.below HB8.out) (by omega) HNN.out).mono ?_
  rintro e w9 ⟨rfl, _, t9, hst9, hb9⟩
  have HST9 := hideIt hst9
  have HO9 := hideIt (HO8.out.below hb9)
  have H59 := hideIt (Below.nextM H58.out hb9 (by omega))
  have H49 := hideIt (Below.nextM H48.out hb9 (by omega))
  have HB9 := hideIt (Below.nextM HB8.out hb9 (by omega))
  have HFR9 := hideIt (HFR8.out.below hb9)
  have z9 := hb9.size
  clear hst9 hb9
  go_wp2_with fail
  refine (eqStringS_any w9.heap.size _ _ l _ ((HST5.out.below H59.out).wide (by omega)) HST9.out (Nat.le_refl _)).mono ?_
  rintro e w10 ⟨rfl, hb10⟩
  have HO10 := hideIt (HO9.out.below hb10)
  have H510 := hideIt (Below.nextM H59.out hb10 (by omega))
  have H410 := hideIt (Below.nextM H49.out hb10 (by omega))
  have HB10 := hideIt (Below.nextM HB9.out hb10 (by omega))
  have HFR10 := hideIt (HFR9.out.below hb10)
  have z10 := hb10.size
  clear hb10 t9
  go_wp2_with fail
  refine (toVNodeSS_any w.heap.size _ m L _ (HN.out.below HB10.out) HSM.out.2.1 (by omega)).mono ?_
  rintro e w11 ⟨rs11, KB11, KI11, lo11, rfl, ho11, hb11⟩
  have HO11 := hideIt ho11
  have HOx := hideIt (HO10.out.below hb11)
  have H511 := hideIt (Below.nextM H510.out hb11 (by omega))
  have H411 := hideIt (Below.nextM H410.out hb11 (by omega))
  have HB11 := hideIt (Below.nextM HB10.out hb11 (by omega))
  have HFR11 := hideIt (HFR10.out.below hb11)
  have z11 := hb11.size
  clear ho11 hb11
  go_wp2_with fail
  refine (eqVNodeSS_any w11.heap.size _ _ m L _ (HOx.out.rowsAny hm HLF.out) (HO11.out.rowsAny hm HLF.out) (Nat.le_refl _)).mono ?_
  rintro e w12 ⟨rfl, hb12⟩
  have HO12 := hideIt (HOx.out.below hb12)
  have H512 := hideIt (Below.nextM H511.out hb12 (by omega))
  have H412 := hideIt (Below.nextM H411.out hb12 (by omega))
  have HB12 := hideIt (Below.nextM HB11.out hb12 (by omega))
  have HFR12 := hideIt (HFR11.out.below hb12)
  have z12 := hb12.size
  clear hb12
  go_wp2_with fail
  refine (markStringS_any w4.heap.size w4.heap.size N N 1 _ w12 (fun _ => ⟨rfl, Nat.le_refl _, by omega, HW5.out.below H512.out t5⟩) (by omega) hN2 (by omega) (by omega)).mono ?_
  rintro e w13 ⟨rfl, _, _, hon13, hb13⟩
  have HFO : Hid (From w5.heap.size w12 w13) := (From.refl _ _).only hon13 (fun c hc => by omega)
  have HO13 := hideIt (HO12.out.from HFO.out)
  have H413 := hideIt (H412.out.trans hb13)
  have HB13 := hideIt (HB12.out.trans (hb13.mono (by omega)))
  have HFR13 := hideIt (HFR12.out.only hon13 (fun c hc => by omega))
  have z13 := hb13.size
  clear hon13 hb13
  go_wp2_with fail
  refine (markVNodeSS_from w5.heap.size (1 + N) _ m L rs6 KB6 KI6 lo6 w13 HO13.out hm HSM.out.2.1 HW.out (by omega) (by omega)).mono ?_
  rintro e w14 ⟨rfl, hb14, hf14⟩
  have H414 := hideIt (H413.out.trans (hb14.mono (by omega)))
  have HB14 := hideIt (HB13.out.trans (hb14.mono (by omega)))
  have HFR14 : Hid (From base7 w7 w14) := ⟨Nat.le_trans HFR13.out.1 hf14.1, fun c h1 h2 => (hf14.2 c (by have := HO6.out.top; omega) (by have := HFR13.out.1; omega)).trans (HFR13.out.2 c h1 h2)⟩
  have z14 := hb14.size
  clear hf14 hb14
  generalize off4 (1 + N) L m = M9
  have hM9 : ¬ ((M9 : Int) < 0) := by omega
  go_wp2_with fail
  refine (eqVNodeS_any w14.heap.size _ _ (mapNs l L m) _ ((HN7.out.from HFR14.out).nodes HR1.out HR2.out) ((HN0.out.below H414.out).nodes HR1.out HR2.out) (Nat.le_refl _)).mono ?_
  rintro e w15 ⟨rfl, hb15⟩
  have H415 := hideIt (Below.nextM H414.out hb15 (by omega))
  have HB15 := hideIt (Below.nextM HB14.out hb15 (by omega))
  have HN15 := hideIt (HN7.out.from (HFR14.out.below hb15))
  have z15 := hb15.size
  clear hb15
  have HMK := hideIt (HN15.out.mark HLL.out HR.out.1)
  have hLs : M ≤ 80 := by rw [← HLL.out]; exact HR.out.1.1
  go_wp2_with fail
  refine (markVNodeS_any base7 _ M c7 1 a7 _ _ _ _ w15 HMK.out (by omega) (by omega) (by omega) (by omega)).mono ?_
  rintro e w16 ⟨rfl, hh16, hon16, hb16⟩
  have H416 := hideIt (H415.out.trans (hb16.mono (by omega)))
  have HB16 := hideIt (HB15.out.trans (hb16.mono (by omega)))
  have HH16 := hideIt hh16
  have z16 := hb16.size
  clear hh16 hon16 hb16
  have HKR : Hid (∀ i, i < M → knOf (mapNs l L m) i ≤ 1048576 ∧ inOf (mapNs l L m) i ≤ 1048576) := fun i hi => by
    have := HR.out.1.2 i (by rw [HLL.out]; exact hi)
    unfold knOf inOf
    omega
  have HAD : Hid (0 < M → a7 = some ⟨blk (.slice a7 M c7), 0, none⟩) := fun hp => (HMK.out hp).1
  go_wp2_with fail
  refine (heldVNodeS_any _ M c7 1 a7 _ _ _ _ w16 HAD.out (by omega) HKR.out (by omega) (by omega) HH16.out).mono ?_
  rintro e w17 ⟨rfl, hb17⟩
  have H417 := hideIt (Below.nextM H416.out hb17 (by omega))
  have HB17 := hideIt (Below.nextM HB16.out hb17 (by omega))
  have H1617 := hideIt hb17
  have z17 := hb17.size
  clear hb17
  have HOFF : Hid (∃ Q, off (knOf (mapNs l L m)) (inOf (mapNs l L m)) 1 M = Q) := ⟨_, rfl⟩
  obtain ⟨M12, hM12⟩ := HOFF.out
  rw [hM12]
  have HM12 := hideIt hM12
  have hM0 : ¬ ((M12 : Int) < 0) := by omega
  clear hM12
  go_wp2_with fail
  refine (toKeys w.heap.size _ l N w17 (HSA.out.below HB17.out) (by omega) HNN.out).mono ?_
  rintro e w18 ⟨rfl, _, t18, hst18, hb18⟩
  have HST18 := hideIt hst18
  have H418 := hideIt (Below.nextM H417.out hb18 (by omega))
  have HB18 := hideIt (Below.nextM HB17.out hb18 (by omega))
  have H1618 := hideIt (Below.nextM H1617.out hb18 (by omega))
  have z18 := hb18.size
  clear hst18 hb18
  go_wp2_with fail
  refine (toVNodeSS_any w.heap.size _ m L _ (HN.out.below HB18.out) HSM.out.2.1 (by omega)).mono ?_
  rintro e w19 ⟨rs19, KB19, KI19, lo19, rfl, ho19, hb19⟩
  have HO19 := hideIt ho19
  have HST19 := hideIt ((HST18.out.below hb19).wide hb19.size)
  have H419 := hideIt (Below.nextM H418.out hb19 (by omega))
  have HB19 := hideIt (Below.nextM HB18.out hb19 (by omega))
  have H1619 := hideIt (Below.nextM H1618.out hb19 (by omega))
  have z19 := hb19.size
  clear ho19 hb19 t18
  go_wp2_with fail
  refine (implMapOf_any w19.heap.size _ _ l m L _ HST19.out (HO19.out.rowsAny hm HLF.out) (Nat.le_refl _) HF.out).mono ?_
  rintro e w20 ⟨r20, base20, KV20, IV20, rfl, hbase20, hbase20', hnest20, hb20⟩
  have HN20 := hideIt hnest20
  obtain ⟨a20, c20, hr20⟩ := own_slice hnest20.row
  rw [HLL.out] at hr20
  subst hr20
  have H420 := hideIt (Below.nextM H419.out hb20 (by omega))
  have HB20 := hideIt (Below.nextM HB19.out hb20 (by omega))
  have H1620 := hideIt (Below.nextM H1619.out hb20 (by omega))
  have z20 := hb20.size
  clear hnest20 hb20
  go_wp2_with fail
  refine (eqVNodeS_any w20.heap.size _ _ (mapNs l L m) _ (HN20.out.nodes HR1.out HR2.out) ((HN0.out.below H420.out).nodes HR1.out HR2.out) (Nat.le_refl _)).mono ?_
  rintro e w21 ⟨rfl, hb21⟩
  have HB21 := hideIt (Below.nextM HB20.out hb21 (by omega))
  have H1621 := hideIt (Below.nextM H1620.out hb21 (by omega))
  have z21 := hb21.size
  clear hb21
  go_wp2_with fail
  refine (heldVNodeS_any _ M c7 1 a7 _ _ _ _ w21 HAD.out (by omega) HKR.out (by omega) (by omega) (fun i hi => (HH16.out i hi).below H1621.out)).mono ?_
  rintro e w22 ⟨rfl, hb22⟩
  have HB22 := hideIt (Below.nextM HB21.out hb22 (by omega))
  clear hb22
  rw [HM12.out]
  go_wp2_with fail
  go_ret
  exact ⟨rfl, HB22.out⟩
end Go.Proofs.Ythoeockngjmipaa
