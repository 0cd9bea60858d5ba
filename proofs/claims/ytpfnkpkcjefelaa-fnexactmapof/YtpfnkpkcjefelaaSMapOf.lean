/-
  spec.MapOf: the map's nodes, the keys in order.
-/
import Derived.Test.YtpfnkpkcjefelaaMapF
import Derived.Test.YtpfnkpkcjefelaaSSort
import Derived.Deep.Slices
namespace Go.Proofs.Ytpfnkpkcjefelaa
open Go.RowKit
set_option linter.unusedSimpArgs false
set_option linter.unusedVariables false

/-- The rows' own values. -/
theorem RowsAt.cells {B : Nat} {w : World} {u : Value} {m : Nat} {L : Nat → List VN} (h : RowsAt B w u m L) : ∃ cs : Nat → Value, CellsAt B w u m cs ∧ ∀ i, i < m → NodesAt B w (cs i) (L i) := by
  obtain ⟨_, a, cap, rfl, hx⟩ := h
  by_cases hp : 0 < m
  · obtain ⟨b, rfl, hb, hc⟩ := hx hp
    refine ⟨fun i => if h : i < m then Classical.choose (hc i h) else undef, ⟨_, cap, rfl, fun i hi => ?_, fun _ => ⟨b, 0, rfl, hb, fun i hi => ?_⟩⟩, fun i hi => ?_⟩
    · simp only [dif_pos hi]
      obtain ⟨_, a, c, e, _⟩ := (Classical.choose_spec (hc i hi)).2
      exact ⟨_, _, _, e⟩
    · simp only [dif_pos hi]
      rw [Nat.zero_add]
      exact (Classical.choose_spec (hc i hi)).1
    · simp only [dif_pos hi]
      exact (Classical.choose_spec (hc i hi)).2
  · exact ⟨fun _ => undef, ⟨a, cap, rfl, fun i hi => absurd hi (by omega), fun h => absurd h hp⟩, fun i hi => absurd hi (by omega)⟩

/-- The rows in another order. -/
theorem rows_perm {base B : Nat} {w : World} {v : Value} {ps : List Nat} {cs : Nat → Value} {L : Nat → List VN} {m : Nat} (h : w.ownsRow base 24 1 v ps.length (ps.map cs)) (hl : ps.length = m) (hm : m ≤ 1048576) (hB : B ≤ w.heap.size) (hps : ∀ x ∈ ps, x < m) (hc : ∀ i, i < m → NodesAt B w (cs i) (L i)) : RowsAt w.heap.size w v m (fun j => L (ps.getD j 0)) := by
  obtain ⟨a, c, e⟩ := own_slice h
  subst e
  rw [hl] at h ⊢
  refine ⟨hm, a, c, rfl, fun hp => ?_⟩
  obtain ⟨g, c', e, _, hg⟩ := h.form hp
  cases e
  refine ⟨g, rfl, hg, fun i hi => ⟨cs (ps.getD i 0), ?_, ?_⟩⟩
  · rw [h.cellAt i (by omega)]
    rw [List.getElem?_map, List.getElem?_eq_getElem (by omega), List.getD_eq_getElem?_getD, List.getElem?_eq_getElem (by omega)]
    rfl
  · refine (hc _ ?_).wide hB
    apply hps
    rw [List.getD_eq_getElem?_getD, List.getElem?_eq_getElem (by omega)]
    exact List.getElem_mem _

set_option maxRecDepth 100000 in
set_option maxHeartbeats 3200000 in
theorem specMapOf_any (B : Nat) (kv u : Value) (l : List ByteArray) (m : Nat) (L : Nat → List VN) (w : World) (hk : StrsAt B w kv l) (hu : RowsAt B w u m L) (hB : B ≤ w.heap.size) (hf : ∀ i, i < m → ∀ j, j < (L i).length → Fits (nodeAt (L i) j)) :
    Calls Try.prog 31 #[kv, u] w fun e w' => ∃ r base KV IV, e = .returned (.tuple #[r, .bool (mapB l L m)]) ∧ w.heap.size ≤ base ∧ Nest base w' r (mapNs l L m) KV IV ∧ Below w.heap.size w w' := by
  have HK := hideIt hk
  have HU := hideIt hu
  obtain ⟨cs, hcs, hcn⟩ := hu.cells
  have HCS := hideIt hcs
  have HCN := hideIt hcn
  obtain ⟨hkn, _, ak, ck, rfl, _⟩ := hk
  obtain ⟨_, au, cu, rfl, _⟩ := hu
  clear hcs hcn
  have HMB : Hid (mapB l L m = (allB L m && decide (m ≤ 80) && decide (l.length = m) && (match sortNs l L m with | none => false | some vs => okB vs))) := rfl
  have HMN : Hid (mapNs l L m = if mapB l L m = true then (sortNs l L m).getD [] else []) := rfl
  obtain ⟨N, hN⟩ : ∃ N, l.length = N := ⟨_, rfl⟩
  have HN := hideIt hN
  rw [hN] at hkn HK ⊢
  clear hN
  go_enter Try.func31, Try.ntmps31
  go_wp2_with fail
  refine (l1All_any B _ m L _ HU.out hB).mono ?_
  rintro e w1 ⟨rfl, hb1⟩
  have z1 := hb1.size
  cases ok1 : (allB L m && decide (m ≤ 80))
  · have HNO : Hid (mapB l L m = false) := by rw [Hid, HMB.out, ok1]; rfl
    clear ok1
    go_wp2_with fail
    go_ret2
    exact ⟨.slice none 0 0, w.heap.size, fun _ => undef, fun _ => undef, by rw [HNO.out]; rfl, Nat.le_refl _, by rw [HMN.out, HNO.out]; exact Nest.nil _ _ _ _, hb1⟩
  have hall : allB L m = true ∧ m ≤ 80 := by simpa using ok1
  have HOK := hideIt (allB_yes hall.1)
  have hm := hall.2
  have HA1 := hideIt ok1
  clear hall ok1
  by_cases hNm : N = m
  case neg =>
    have hne : ((N : Int) != (m : Int)) = true := by rw [bne_iff_ne]; omega
    have HNO : Hid (mapB l L m = false) := by rw [Hid, HMB.out, HN.out]; simp [hNm]
    clear hNm
    go_wp2_with fail
    go_ret2
    exact ⟨.slice none 0 0, w.heap.size, fun _ => undef, fun _ => undef, by rw [HNO.out]; rfl, Nat.le_refl _, by rw [HMN.out, HNO.out]; exact Nest.nil _ _ _ _, hb1⟩
  case pos =>
  subst hNm
  have hne : ((N : Int) != (N : Int)) = false := by simp
  have HB1 := hideIt hb1
  have HCS1 : Hid (CellsAt B w1 (.slice au N cu) l.length cs) := by
    rw [Hid, HN.out]
    obtain ⟨a, c, e, h1, h2⟩ := HCS.out
    exact ⟨a, c, e, h1, fun hp => by
      obtain ⟨b, o, e2, hb, hc⟩ := h2 hp
      exact ⟨b, o, e2, hb, fun i hi => (below_cell (HB1.out.mono hB) hb).trans (hc i hi)⟩⟩
  clear hb1
  go_wp2_with fail
  refine (l1Sorted_any B _ _ l cs w1 (by have := HK.out.below (HB1.out.mono hB); exact this) HCS1.out (by omega) (by rw [HN.out]; omega)).mono ?_
  rintro e w2 ⟨hs, hb2⟩
  have z2 := hb2.size
  have HB2 := hideIt (HB1.out.trans (hb2.mono z1))
  have HCN2 : Hid (∀ i, i < N → NodesAt B w2 (cs i) (L i)) := fun i hi => (HCN.out i hi).below (HB2.out.mono hB)
  clear hb2
  cases hso : sortIn l l.length with
  | none =>
    rw [hso] at hs
    obtain rfl := hs
    have HNO : Hid (mapB l L N = false) := by
      have : sortNs l L N = none := by unfold sortNs; rw [hso]
      rw [Hid, HMB.out, this]; simp
    clear hso
    go_wp2_with fail
    refine (l1Make_any B 6 _ _ [] 0 L w2 ⟨by simp, fun i hi => absurd hi (by simp), none, 0, rfl, fun h => absurd h (by simp)⟩ ⟨by omega, none, 0, rfl, fun h => absurd h (by omega)⟩ (by omega) (by omega) (by simp) (by simp [catNs]) (fun i hi => absurd hi (by omega))).mono ?_
    rintro e w3 ⟨r, KV, IV, rfl, hn3, hb3⟩
    have HB3 := hideIt (HB2.out.trans (hb3.mono (by omega)))
    obtain ⟨ar, cr, er⟩ := own_slice hn3.row
    obtain ⟨M, hM⟩ : ∃ M, (makeNs 6 [] L 0).length = M := ⟨_, rfl⟩
    rw [hM] at er
    subst er
    clear hn3 hb3 hM
    go_wp2_with fail
    go_ret2
    exact ⟨.slice none 0 0, w.heap.size, fun _ => undef, fun _ => undef, by rw [HNO.out]; rfl, Nat.le_refl _, by rw [HMN.out, HNO.out]; exact Nest.nil _ _ _ _, HB3.out⟩
  | some q =>
    obtain ⟨ns, ps⟩ := q
    rw [hso] at hs
    obtain ⟨nv, lv, rfl, hnv, hlv⟩ := hs
    have hln := sortIn_len hso
    rw [HN.out] at hln
    have HSN : Hid (sortNs l L N = some (makeNs 6 ns (fun j => L (ps.getD j 0)) N)) := by rw [Hid]; unfold sortNs; rw [hso]
    have HPM : Hid (∀ x ∈ ps, x < N) := fun x hx => by have := sortIn_mem hso x hx; rw [HN.out] at this; exact this
    have HMP := hideIt (sortIn_map hso)
    have HPJ : Hid (∀ i, i < N → ps.getD i 0 < N) := fun i hi => by
      apply HPM.out
      rw [List.getD_eq_getElem?_getD, List.getElem?_eq_getElem (by omega)]
      exact List.getElem_mem _
    have HNK : Hid (∀ i, i < ns.length → (keyAt ns i).size ≤ 140737488355328) := fun i hi => by
      have e2 : keyAt ns i = keyAt l (ps.getD i 0) := by
        rw [keyAt_get hi, List.getD_eq_getElem?_getD, List.getElem?_eq_getElem (show i < ps.length by omega)]
        have := HMP.out
        subst this
        simp
      rw [e2]
      exact HK.out.2.1 _ (by rw [HN.out]; exact HPJ.out i (by omega))
    have HST := hideIt (own_strs hnv (by omega) HNK.out)
    have HRW := hideIt (rows_perm hlv hln.2 (by omega) (show B ≤ w2.heap.size by omega) HPM.out HCN2.out)
    have HOK2 : Hid (∀ i, i < N → okB ((fun j => L (ps.getD j 0)) i) = true) := fun i hi => HOK.out _ (HPJ.out i hi)
    have HNI := hideIt (make_nice hm HOK2.out (fun i hi j hj => hf _ (HPJ.out i hi) j hj) (kind := 6) (by omega) (by omega) (keys := ns) (by omega) HNK.out)
    have HLE := hideIt (catNs_le HOK2.out N (Nat.le_refl _))
    obtain ⟨anv, cnv, env⟩ := own_slice hnv
    obtain ⟨alv, clv, elv⟩ := own_slice hlv
    rw [hln.1] at env
    rw [hln.2] at elv
    subst env elv
    have hl1 := hln.1
    have HL1 := hideIt hl1
    clear hnv hlv hso hln hl1
    go_wp2_with fail
    refine (l1Make_any w2.heap.size 6 _ _ ns N (fun j => L (ps.getD j 0)) w2 HST.out HRW.out (Nat.le_refl _) (by omega) (by rw [HL1.out]; omega) (by have := HLE.out; omega) (near_of HOK2.out)).mono ?_
    rintro e w3 ⟨r, KV, IV, rfl, hn3, hb3⟩
    have HN3 := hideIt hn3
    obtain ⟨ar, cr, er⟩ := own_slice hn3.row
    obtain ⟨vsO, hvs⟩ : ∃ vsO, makeNs 6 ns (fun j => L (ps.getD j 0)) N = vsO := ⟨_, rfl⟩
    rw [hvs] at er HN3 HNI HSN
    obtain ⟨M, hM⟩ : ∃ M, vsO.length = M := ⟨_, rfl⟩
    rw [hM] at er
    subst er
    have z3 := hb3.size
    have HB3 := hideIt (HB2.out.trans (hb3.mono (by omega)))
    clear hn3 hb3 hM hvs
    go_wp2_with fail
    refine (specOk_any w3.heap.size _ vsO _ (HN3.out.nodes (by have := HNI.out.1; omega) (fun i hi => (HNI.out.2 i hi).1)) (Nat.le_refl _)).mono ?_
    rintro e w4 ⟨rfl, hb4⟩
    have HN4 := hideIt (HN3.out.below hb4)
    have HB4 := hideIt (HB3.out.trans (hb4.mono (by omega)))
    clear hb4
    cases ok2 : okB vsO
    · have HNO : Hid (mapB l L N = false) := by rw [Hid, HMB.out, HSN.out]; simp [ok2]
      clear ok2
      go_wp2_with fail
      go_ret2
      exact ⟨.slice none 0 0, w.heap.size, fun _ => undef, fun _ => undef, by rw [HNO.out]; rfl, Nat.le_refl _, by rw [HMN.out, HNO.out]; exact Nest.nil _ _ _ _, HB4.out⟩
    · have HYE : Hid (mapB l L N = true) := by rw [Hid, HMB.out, HSN.out, HA1.out, HN.out]; simp [ok2]
      clear ok2
      go_wp2_with fail
      go_ret2
      exact ⟨.slice ar M cr, w2.heap.size, KV, IV, by rw [HYE.out]; rfl, by omega, by rw [HMN.out, HYE.out, HSN.out]; exact HN4.out, HB4.out⟩
end Go.Proofs.Ytpfnkpkcjefelaa
