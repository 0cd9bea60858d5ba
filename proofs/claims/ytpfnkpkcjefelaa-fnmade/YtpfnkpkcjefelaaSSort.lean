/-
  spec.l1Sorted: keys with their values, by the keys.
-/
import Derived.Test.YtpfnkpkcjefelaaVAtK
import Derived.Test.YtpfnkpkcjefelaaStbA
import Derived.Test.YtpfnkpkcjefelaaSPart
import Derived.BigQuiet
namespace Go.Proofs.Ytpfnkpkcjefelaa
open Go.RowKit
set_option linter.unusedSimpArgs false
set_option linter.unusedVariables false

theorem strs_one (l : List ByteArray) : ∀ u ∈ l.map Value.string, u.oneCell' = true := by
  intro u hu
  obtain ⟨x, _, rfl⟩ := List.mem_map.1 hu
  rfl

def SortedAs (base : Nat) (w w' : World) (cs : Nat → Value) (e : Ending) : Option (List ByteArray × List Nat) → Prop
  | none => e = .returned (.tuple #[.slice none 0 0, .slice none 0 0, .bool false])
  | some (ns, ps) => ∃ nv lv, e = .returned (.tuple #[nv, lv, .bool true]) ∧ w'.ownsRow base 9 1 nv ns.length (ns.map .string) ∧ w'.ownsRow base 24 1 lv ps.length (ps.map cs)

set_option maxRecDepth 100000 in
set_option maxHeartbeats 6400000 in
theorem l1Sorted_any (B : Nat) (kv u : Value) (ks : List ByteArray) (cs : Nat → Value) (w : World) (h : StrsAt B w kv ks) (hu : CellsAt B w u ks.length cs) (hB : B ≤ w.heap.size) (hm : ks.length ≤ 1048576) :
    Calls Try.prog 73 #[kv, u] w fun e w' => SortedAs w.heap.size w w' cs e (sortIn ks ks.length) ∧ Below w.heap.size w w' := by
  obtain ⟨_, _, ak, ck, rfl, hck⟩ := h
  obtain ⟨au, cu, rfl, hcs, hcu⟩ := hu
  have HCK := hideIt hck
  have HCU := hideIt hcu
  have HCS := hideIt hcs
  clear hck hcu hcs
  obtain ⟨i1, hi1, hzz1, hs1, hy1⟩ := info_parts infoStr
  obtain ⟨i2, hi2, hzz2, hs2, hy2⟩ := info_parts infoRowV
  obtain ⟨m, hmm⟩ : ∃ m, ks.length = m := ⟨_, rfl⟩
  have HMM := hideIt hmm
  rw [hmm] at hm HCK HCU HCS ⊢
  clear hmm
  have HN0 : Hid (((w.alloc (.cells #[] 9)).alloc (.cells #[] 24)).ownsRow w.heap.size 9 1 (.slice (some ⟨w.heap.size, 0, none⟩) 0 0) 0 (([] : List ByteArray).map .string)) := (World.ownsRow_lit (base := w.heap.size) w #[] 0 (Nat.le_refl _) (by simp [maxLen]) rfl).alloc _
  have HL0 : Hid (((w.alloc (.cells #[] 9)).alloc (.cells #[] 24)).ownsRow w.heap.size 24 1 (.slice (some ⟨w.heap.size + 1, 0, none⟩) 0 0) 0 (([] : List Nat).map cs)) := by
    have := World.ownsRow_lit (base := w.heap.size) (e := 24) (size := 1) (w.alloc (.cells #[] 9)) #[] 0 (by simp) (by simp [maxLen]) rfl
    simpa [Hid] using this
  have HON : Hid (∀ l : List Nat, (∀ i ∈ l, i < m) → ∀ u ∈ l.map cs, u.oneCell' = true) := by
    intro l hl u hu
    obtain ⟨i, hi, rfl⟩ := List.mem_map.1 hu
    obtain ⟨a, n, c, e⟩ := HCS.out i (hl i hi)
    rw [e]; rfl
  go_enter Try.func73, Try.ntmps73
  go_wp2_with fail
  go_loopw [7, 8, 9] (fun nv lv i wr => ∃ (k gn gl cn cl : Nat) (ns : List ByteArray) (ps : List Nat), k ≤ m ∧ i = .int .i64 k ∧ nv = .slice (some ⟨gn, 0, none⟩) k cn ∧ lv = .slice (some ⟨gl, 0, none⟩) k cl ∧ k ≤ cn ∧ k ≤ cl ∧ gn < wr.heap.size ∧ gl < wr.heap.size ∧ sortIn ks k = some (ns, ps) ∧ wr.ownsRow w.heap.size 9 1 (.slice (some ⟨gn, 0, none⟩) k cn) k (ns.map .string) ∧ wr.ownsRow w.heap.size 24 1 (.slice (some ⟨gl, 0, none⟩) k cl) k (ps.map cs) ∧ Below w.heap.size w wr) (fun _ _ i _ => m - (intOf i).toNat)
  case atStart => exact ⟨0, w.heap.size, w.heap.size + 1, 0, 0, [], [], Nat.zero_le _, rfl, rfl, rfl, Nat.le_refl _, Nat.le_refl _, by simp; omega, by simp, rfl, HN0.out, HL0.out, ((Below.refl _ _).alloc (Nat.le_refl _) _).alloc (by simp) _⟩
  case round =>
    obtain ⟨k, gn, gl, cn, cl, ns, ps, hk, rfl, rfl, rfl, hcn, hcl, hgn, hgl, hso, hnr, hlr, hbl⟩ := hrel
    have HSO := hideIt hso
    have HN := hideIt hnr
    have HL := hideIt hlr
    have HLN := hideIt (sortIn_len hso)
    have HPM := hideIt (sortIn_mem hso)
    have zs := hbl.size
    clear HN0 HL0 hso hnr hlr
    obtain ⟨W0, hW0⟩ : ∃ W0, W0 = wr := ⟨_, rfl⟩
    subst hW0
    by_cases hlt : k < m
    · obtain ⟨bk, ok, rfl, hbk, hck⟩ := HCK.out (by omega)
      have ck0 := (below_cell (o := ok + k) hbl (show bk < w.heap.size by omega)).trans (hck k hlt)
      obtain ⟨key, hkey⟩ : ∃ key, keyAt ks k = key := ⟨_, rfl⟩
      have HKEY := hideIt hkey
      rw [hkey] at ck0
      clear hck hkey
      go_wp2_with fail
      go_loopw [10] (fun a wq => ∃ (j : Nat), j ≤ k ∧ a = .int .i64 j ∧ Hid (∀ t, t < j → lessB (keyAt ns t) key = true) ∧ Below W0.heap.size W0 wq) (fun a _ => k - (intOf a).toNat)
      case atStart => exact ⟨0, Nat.zero_le _, rfl, fun t ht => by omega, Below.refl _ _⟩
      case round =>
        obtain ⟨j, hjk, rfl, HLT, hbq⟩ := hrel
        have zq0 := hbq.size
        have dk0 := (below_cell hbq (by omega)).trans ck0
        by_cases hins : (j < k ∧ lessB (keyAt ns j) key = false ∧ ¬ (keyAt ns j).toList = key.toList) ∨ ¬ j < k
        case pos =>
          rcases hins with ⟨hj, hle, he⟩ | hj
          all_goals
            first
            | have hle' : Op.bytesLess (keyAt ns j).toList key.toList = false := hle
              have dn0 : wr.cell? ⟨gn, j, none⟩ = some (.string (keyAt ns j)) := by
                rw [below_cell hbq (by omega), HN.out.cellAt j (by omega)]
                exact keyAt_mapGet (by rw [HLN.out.1]; exact hj)
              have HPO : Hid (posK ns key = j) := posK_eq (by rw [HLN.out.1]; exact hjk) HLT.out (fun _ => hle)
              have HHK := hideIt (hasK_at HPO.out)
              clear hle
              go_wp2_with fail
              go_quiet (fail)
              have hbq1 := below_drewN hbq nq
              have en0 : (wr.drewN nq).cell? ⟨gn, j, none⟩ = some (.string (keyAt ns j)) := (below_cell (below_drewN (Below.refl wr.heap.size wr) nq) (by omega)).trans dn0
              have ek0 : (wr.drewN nq).cell? ⟨bk, ok + k, none⟩ = some (.string key) := (below_cell (below_drewN (Below.refl wr.heap.size wr) nq) (by omega)).trans dk0
              clear dn0 dk0
              generalize wr.drewN nq = W1 at hbq1 en0 ek0 ⊢
              clear nq
              have hz : ((keyAt ns j).toList == key.toList) = false := by simpa using he
              have HNO : Hid (hasK ns key = false) := by rw [Hid, HHK.out]; simp [he]
              clear he
              go_wp2_with fail
              go_quiet (fail)
              have hbQ := below_drewN hbq1 nq
              clear en0 ek0
              generalize W1.drewN nq = WQ at hbQ ⊢
              clear nq hbq1
            | have HPO : Hid (posK ns key = j) := posK_eq (by rw [HLN.out.1]; exact hjk) HLT.out (fun h => absurd h (by rw [HLN.out.1]; omega))
              have HNO : Hid (hasK ns key = false) := by rw [Hid, hasK_at HPO.out, HLN.out.1]; simp [hj]
              go_wp2_with fail
              go_quiet (fail)
              have hbq1 := below_drewN hbq nq
              generalize wr.drewN nq = W1 at hbq1 ⊢
              clear nq dk0
              go_wp2_with fail
              go_quiet (fail)
              have hbQ := below_drewN hbq1 nq
              generalize W1.drewN nq = WQ at hbQ ⊢
              clear nq hbq1
            -- the key and the row are put in their place
            have zq := hbQ.size
            have zw : w.heap.size ≤ WQ.heap.size := Nat.le_trans zs zq
            have hgnQ : gn < WQ.heap.size := by omega
            have hglQ : gl < WQ.heap.size := by omega
            have HNQ := hideIt (own_below HN.out hbQ (fun y hy => (HN.out.lt y hy).2))
            have HLQ := hideIt (own_below HL.out hbQ (fun y hy => (HL.out.lt y hy).2))
            have HBQ := hideIt (hbl.trans (hbQ.mono zs))
            obtain ⟨bu, ou, rfl, hbu, hcu⟩ := HCU.out (by omega)
            have HUK := hideIt ((below_cell HBQ.out (show bu < w.heap.size by omega)).trans (hcu k hlt))
            obtain ⟨ax, nx, cx, hcx⟩ := HCS.out k hlt
            have HCX := hideIt hcx
            rw [hcx] at HUK
            have HKK : Hid (WQ.cell? ⟨bk, ok + k, none⟩ = some (.string key)) := (below_cell hbQ (by omega)).trans ck0
            obtain ⟨ad1, hf1, ha1⟩ := strs_from gn k cn j hjk
            obtain ⟨ad2, hf2, ha2⟩ := rows_from gl k cl j hjk
            have hz1 := strs_to gn k cn j (by omega)
            have hz2 := rows_to gl k cl j (by omega)
            have HA1 := hideIt ha1
            have HA2 := hideIt ha2
            have HSI : Hid (sortIn ks (k + 1) = some (ns.take j ++ [keyAt ks k] ++ ns.drop j, ps.take j ++ [k] ++ ps.drop j)) := sortIn_put HSO.out (by rw [HKEY.out]; exact HPO.out) (by rw [HKEY.out]; exact HNO.out)
            have hkm : k ≤ 1048576 := by omega
            have hkj : j + 1 + (k - j) = k + 1 := by omega
            have HKJ := hideIt hkj
            clear hcu hcx ha1 ha2 hkj hbQ
            have HS1 : Hid (0 < j → ∃ ad', some (⟨gn, 0, none⟩ : Addr) = some ad' ∧ ∀ i x, ((ns.take j).map Value.string)[i]? = some x → (WQ.alloc (.cells #[] 9)).cell? (ad'.add i) = some x) := by
              intro _
              refine ⟨_, rfl, fun i x hi => ?_⟩
              have hij : i < j := by have := (List.getElem?_eq_some_iff.1 hi).1; simp at this; omega
              have ea : (⟨gn, 0, none⟩ : Addr).add i = ⟨gn, i, none⟩ := by unfold Addr.add; split <;> simp_all
              rw [ea, below_cell ((Below.refl WQ.heap.size WQ).alloc (Nat.le_refl _) _) hgnQ, HNQ.out.cellAt i (by omega)]
              rw [List.map_take, List.getElem?_take] at hi
              simpa [hij] using hi
            have HW1 : Hid ((WQ.alloc (.cells #[] 9)).ownsRow WQ.heap.size 9 1 (.slice (some ⟨WQ.heap.size, 0, none⟩) 0 0) 0 []) := by
              have := World.ownsRow_lit (base := WQ.heap.size) (e := 9) (size := 1) WQ #[] 0 (Nat.le_refl _) (by simp [maxLen]) rfl
              simpa [Hid] using this
            go_wp2_with (at_builtin; refine wpList_append_src rfl _ _ 38 rfl WQ.heap.size 9 i1 (.string ByteArray.empty) 1 16 Try.underlying38 hi1 hzz1 hs1 hy1 rfl (by decide) _ 0 [] rfl HW1.out (some ⟨gn, 0, none⟩) j cn ((ns.take j).map Value.string) rfl ?c1 HS1.out ?c2 ?c3 ?c4 ?c5 ?_)
            case c1 => simp [HLN.out.1]; omega
            case c2 => exact strs_one _
            case c3 => unfold maxLen; omega
            case c4 => omega
            case c5 => simp
            intro va wa howna hga hata
            (try simp only [Nat.zero_add, List.nil_append] at howna)
            have hBa : Below WQ.heap.size WQ wa := ((Below.refl WQ.heap.size WQ).alloc (Nat.le_refl _) _).grown hga (by simp) (fun r hr => by simp [Value.ownBlock] at hr; omega)
            have za := hBa.size
            have hka : wa.cell? ⟨bk, ok + k, none⟩ = some (.string key) := (below_cell hBa (by omega)).trans HKK.out
            have HBA := hideIt hBa
            have HOA := hideIt howna
            obtain ⟨xa, hxa⟩ : ∃ xa, va.ownBlock = some xa := by
              rcases hata with e | e
              · exact ⟨_, e⟩
              · exact ⟨_, e⟩
            obtain ⟨ca, ea, _⟩ := own_some howna hxa
            subst ea
            clear howna hga hata hxa hBa HW1 HS1
            go_wp2_with (at_builtin; refine wpList_append_own_at _ rfl _ _ 38 rfl WQ.heap.size 9 i1 (.string ByteArray.empty) 1 16 Try.underlying38 hi1 hzz1 hs1 hy1 rfl (by decide) _ _ _ rfl (HOA.out.alloc _) ⟨wa.heap.size, 0, none⟩ 1 1 [.string key] rfl rfl ?c1 ?c2 ?c3 ?c4 ?c5 ?_)
            case c1 => exact cell_one_new _ _ _
            case c2 => intro u hu; simp at hu; subst hu; rfl
            case c3 => unfold maxLen; omega
            case c4 => omega
            case c5 => simp; omega
            intro vb wb hownb hgb hnb hatb
            have hBb : Below WQ.heap.size WQ wb := (HBA.out.alloc za _).grown hgb (by simp; omega) (fun r hr => (HOA.out.lt r hr).1)
            have zb := hBb.size
            have HBB := hideIt hBb
            have HOB := hideIt hownb
            obtain ⟨xb, hxb⟩ : ∃ xb, vb.ownBlock = some xb := by
              rcases hatb with e | e
              · exact ⟨_, e⟩
              · exact ⟨_, e⟩
            obtain ⟨cb, eb, _⟩ := own_some hownb hxb
            subst eb
            clear hownb hgb hnb hatb hxb hBb HBA HOA hka
            have HS3 : Hid (0 < k - j → ∃ ad', some ad1 = some ad' ∧ ∀ i x, ((ns.drop j).map Value.string)[i]? = some x → wb.cell? (ad'.add i) = some x) := by
              intro hp
              refine ⟨_, rfl, fun i x hi => ?_⟩
              have hij : i < k - j := by have := (List.getElem?_eq_some_iff.1 hi).1; simp [HLN.out.1] at this; omega
              rw [HA1.out (by omega) hcn]
              have ea : (⟨gn, j, none⟩ : Addr).add i = ⟨gn, j + i, none⟩ := by unfold Addr.add; split <;> simp_all
              rw [ea, below_cell HBB.out hgnQ, HNQ.out.cellAt (j + i) (by omega)]
              rw [List.map_drop, List.getElem?_drop] at hi
              exact hi
            go_wp2_with (at_builtin; refine wpList_append_src rfl _ _ 38 rfl WQ.heap.size 9 i1 (.string ByteArray.empty) 1 16 Try.underlying38 hi1 hzz1 hs1 hy1 rfl (by decide) _ (j + 1) _ rfl HOB.out (some ad1) (k - j) (cn - j) ((ns.drop j).map Value.string) rfl ?c1 HS3.out ?c2 ?c3 ?c4 ?c5 ?_)
            case c1 => simp [HLN.out.1]
            case c2 => exact strs_one _
            case c3 => unfold maxLen; omega
            case c4 => omega
            case c5 => exact zb
            intro vc wc hownc hgc hatc
            have hBc : Below WQ.heap.size WQ wc := HBB.out.grown hgc zb (fun r hr => (HOB.out.lt r hr).1)
            have zc := hBc.size
            have HBC := hideIt hBc
            rw [HKJ.out] at hownc
            have HOC : Hid (wc.ownsRow WQ.heap.size 9 1 vc (k + 1) ((ns.take j ++ [key] ++ ns.drop j).map Value.string)) := by rw [Hid]; simpa [List.map_append, List.map_take, List.map_drop] using hownc
            obtain ⟨xc, hxc⟩ : ∃ xc, vc.ownBlock = some xc := by
              rcases hatc with e | e
              · exact ⟨_, e⟩
              · exact ⟨_, e⟩
            obtain ⟨cc, ec, hcc⟩ := own_some hownc hxc
            subst ec
            have hxcl : xc < wc.heap.size := (hownc.lt xc rfl).2
            clear hownc hgc hatc hxc hBc HBB HOB HS3
            have HW2 : Hid ((wc.alloc (.cells #[] 24)).ownsRow wc.heap.size 24 1 (.slice (some ⟨wc.heap.size, 0, none⟩) 0 0) 0 []) := by
              have := World.ownsRow_lit (base := wc.heap.size) (e := 24) (size := 1) wc #[] 0 (Nat.le_refl _) (by simp [maxLen]) rfl
              simpa [Hid] using this
            have HS4 : Hid (0 < j → ∃ ad', some (⟨gl, 0, none⟩ : Addr) = some ad' ∧ ∀ i x, ((ps.take j).map cs)[i]? = some x → (wc.alloc (.cells #[] 24)).cell? (ad'.add i) = some x) := by
              intro _
              refine ⟨_, rfl, fun i x hi => ?_⟩
              have hij : i < j := by have := (List.getElem?_eq_some_iff.1 hi).1; simp at this; omega
              have ea : (⟨gl, 0, none⟩ : Addr).add i = ⟨gl, i, none⟩ := by unfold Addr.add; split <;> simp_all
              rw [ea, below_cell (HBC.out.alloc zc _) hglQ, HLQ.out.cellAt i (by omega)]
              rw [List.map_take, List.getElem?_take] at hi
              simpa [hij] using hi
            go_wp2_with (at_builtin; refine wpList_append_src rfl _ _ 35 rfl wc.heap.size 24 i2 (.slice none 0 0) 1 24 Try.underlying35 hi2 hzz2 hs2 hy2 rfl (by decide) _ 0 [] rfl HW2.out (some ⟨gl, 0, none⟩) j cl ((ps.take j).map cs) rfl ?c1 HS4.out ?c2 ?c3 ?c4 ?c5 ?_)
            case c1 => simp [HLN.out.2]; omega
            case c2 => exact HON.out _ (fun i hi => Nat.lt_of_lt_of_le (HPM.out i (List.mem_of_mem_take hi)) hk)
            case c3 => unfold maxLen; omega
            case c4 => omega
            case c5 => simp
            intro vd wd hownd hgd hatd
            (try simp only [Nat.zero_add, List.nil_append] at hownd)
            have hBd : Below wc.heap.size wc wd := ((Below.refl wc.heap.size wc).alloc (Nat.le_refl _) _).grown hgd (by simp) (fun r hr => by simp [Value.ownBlock] at hr; omega)
            have zd := hBd.size
            have hud : wd.cell? ⟨bu, ou + k, none⟩ = some (.slice ax nx cx) := (below_cell hBd (by omega)).trans ((below_cell HBC.out (by omega)).trans HUK.out)
            have HBD := hideIt hBd
            have HOD := hideIt hownd
            obtain ⟨xd, hxd⟩ : ∃ xd, vd.ownBlock = some xd := by
              rcases hatd with e | e
              · exact ⟨_, e⟩
              · exact ⟨_, e⟩
            obtain ⟨cd, ed, _⟩ := own_some hownd hxd
            subst ed
            clear hownd hgd hatd hxd hBd HW2 HS4
            go_wp2_with (at_builtin; refine wpList_append_own_at _ rfl _ _ 35 rfl wc.heap.size 24 i2 (.slice none 0 0) 1 24 Try.underlying35 hi2 hzz2 hs2 hy2 rfl (by decide) _ _ _ rfl (HOD.out.alloc _) ⟨wd.heap.size, 0, none⟩ 1 1 [.slice ax nx cx] rfl rfl ?c1 ?c2 ?c3 ?c4 ?c5 ?_)
            case c1 => exact cell_one_new _ _ _
            case c2 => intro u hu; simp at hu; subst hu; rfl
            case c3 => unfold maxLen; omega
            case c4 => omega
            case c5 => simp; omega
            intro ve we howne hge hne hate
            have hBe : Below wc.heap.size wc we := (HBD.out.alloc zd _).grown hge (by simp; omega) (fun r hr => (HOD.out.lt r hr).1)
            have ze := hBe.size
            have HBE := hideIt hBe
            have HOE := hideIt howne
            obtain ⟨xe, hxe⟩ : ∃ xe, ve.ownBlock = some xe := by
              rcases hate with e | e
              · exact ⟨_, e⟩
              · exact ⟨_, e⟩
            obtain ⟨ce, ee, _⟩ := own_some howne hxe
            subst ee
            clear howne hge hne hate hxe hBe HBD HOD hud
            have HS6 : Hid (0 < k - j → ∃ ad', some ad2 = some ad' ∧ ∀ i x, ((ps.drop j).map cs)[i]? = some x → we.cell? (ad'.add i) = some x) := by
              intro hp
              refine ⟨_, rfl, fun i x hi => ?_⟩
              have hij : i < k - j := by have := (List.getElem?_eq_some_iff.1 hi).1; simp [HLN.out.2] at this; omega
              rw [HA2.out (by omega) hcl]
              have ea : (⟨gl, j, none⟩ : Addr).add i = ⟨gl, j + i, none⟩ := by unfold Addr.add; split <;> simp_all
              rw [ea, below_cell HBE.out (by omega), below_cell HBC.out hglQ, HLQ.out.cellAt (j + i) (by omega)]
              rw [List.map_drop, List.getElem?_drop] at hi
              exact hi
            go_wp2_with (at_builtin; refine wpList_append_src rfl _ _ 35 rfl wc.heap.size 24 i2 (.slice none 0 0) 1 24 Try.underlying35 hi2 hzz2 hs2 hy2 rfl (by decide) _ (j + 1) _ rfl HOE.out (some ad2) (k - j) (cl - j) ((ps.drop j).map cs) rfl ?c1 HS6.out ?c2 ?c3 ?c4 ?c5 ?_)
            case c1 => simp [HLN.out.2]
            case c2 => exact HON.out _ (fun i hi => Nat.lt_of_lt_of_le (HPM.out i (List.mem_of_mem_drop hi)) hk)
            case c3 => unfold maxLen; omega
            case c4 => omega
            case c5 => exact ze
            intro vf wf hownf hgf hatf
            have hBf : Below wc.heap.size wc wf := HBE.out.grown hgf ze (fun r hr => (HOE.out.lt r hr).1)
            have zf := hBf.size
            rw [HKJ.out] at hownf
            have HOF : Hid (wf.ownsRow wc.heap.size 24 1 vf (k + 1) ((ps.take j ++ [k] ++ ps.drop j).map cs)) := by rw [Hid]; simpa [List.map_append, List.map_take, List.map_drop, HCX.out] using hownf
            obtain ⟨xf, hxf⟩ : ∃ xf, vf.ownBlock = some xf := by
              rcases hatf with e | e
              · exact ⟨_, e⟩
              · exact ⟨_, e⟩
            obtain ⟨cf, ef, hcf⟩ := own_some hownf hxf
            subst ef
            have hxfl : xf < wf.heap.size := (hownf.lt xf rfl).2
            have HOC2 : Hid (wf.ownsRow w.heap.size 9 1 (.slice (some ⟨xc, 0, none⟩) (k + 1) cc) (k + 1) ((ns.take j ++ [key] ++ ns.drop j).map Value.string)) := own_mono (own_below HOC.out hBf (fun y hy => (HOC.out.lt y hy).2)) zw
            have HOF2 := hideIt (own_mono HOF.out (show w.heap.size ≤ wc.heap.size by omega))
            have HBF := hideIt (HBQ.out.trans ((HBC.out.trans (hBf.mono zc)).mono zw))
            have hSI := HSI.out
            rw [HKEY.out] at hSI
            have HSI2 := hideIt hSI
            clear hownf hgf hatf hxf hBf HBE HOE HS6 hSI
            go_wp2_with fail
            go_roundw
            case rel => exact ⟨k + 1, xc, xf, cc, cf, _, _, by omega, by go_num, rfl, rfl, hcc, hcf, by omega, hxfl, HSI2.out, HOC2.out, HOF2.out, HBF.out⟩
            case measure => simp [intOf]; omega
        case neg =>
          have hj : j < k := Classical.byContradiction fun e => hins (.inr e)
          have dn0 : wr.cell? ⟨gn, j, none⟩ = some (.string (keyAt ns j)) := by
            rw [below_cell hbq (by omega), HN.out.cellAt j (by omega)]
            exact keyAt_mapGet (by rw [HLN.out.1]; exact hj)
          cases hle : lessB (keyAt ns j) key
          · have hle' : Op.bytesLess (keyAt ns j).toList key.toList = false := hle
            have HPO : Hid (posK ns key = j) := posK_eq (by rw [HLN.out.1]; exact hjk) HLT.out (fun _ => hle)
            have HHK := hideIt (hasK_at HPO.out)
            clear hle
            go_wp2_with fail
            go_quiet (fail)
            have hbq1 := below_drewN hbq nq
            have en0 : (wr.drewN nq).cell? ⟨gn, j, none⟩ = some (.string (keyAt ns j)) := (below_cell (below_drewN (Below.refl wr.heap.size wr) nq) (by omega)).trans dn0
            have ek0 : (wr.drewN nq).cell? ⟨bk, ok + k, none⟩ = some (.string key) := (below_cell (below_drewN (Below.refl wr.heap.size wr) nq) (by omega)).trans dk0
            clear dn0 dk0
            generalize wr.drewN nq = W1 at hbq1 en0 ek0 ⊢
            clear nq
            by_cases he : (keyAt ns j).toList = key.toList
            · have hz : ((keyAt ns j).toList == key.toList) = true := by simp [he]
              have HNO : Hid (hasK ns key = true) := by rw [Hid, HHK.out, HLN.out.1]; simp [hj, he]
              clear he
              go_wp2_with fail
              go_quiet (fail)
              go_wp2_with fail
              go_ret3
              exact ⟨by rw [sortIn_none (sortIn_twice HSO.out (by rw [HKEY.out]; exact HNO.out)) (show k + 1 ≤ m by omega)]; rfl, hbl.trans ((below_drewN hbq1 nq).mono zs)⟩
            · exact absurd (.inl ⟨hj, by assumption, he⟩) hins
          · have hle' : Op.bytesLess (keyAt ns j).toList key.toList = true := hle
            have HLT2 : Hid (∀ t, t < j + 1 → lessB (keyAt ns t) key = true) := fun t ht => by
              by_cases e : t = j
              · subst e; exact hle
              · exact HLT.out t (by omega)
            clear hle
            go_wp2_with fail
            go_quiet (fail)
            go_wp2_with fail
            go_roundw
            case rel => exact ⟨j + 1, by omega, by go_num, HLT2.out, below_drewN hbq nq⟩
            case measure => simp [intOf]; omega
    · obtain rfl : k = m := by omega
      have HLN2 := hideIt HLN.out
      go_wp2_with fail
      go_ret3
      exact ⟨by rw [HSO.out]; exact ⟨_, _, rfl, by rw [HLN.out.1]; exact HN.out, by rw [HLN.out.2]; exact HL.out⟩, hbl⟩
end Go.Proofs.Ytpfnkpkcjefelaa
