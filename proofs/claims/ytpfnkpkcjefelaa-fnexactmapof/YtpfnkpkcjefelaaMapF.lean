/-
  The map of keys and values: the program's arrangement is the specification's. Plain mathematics.
-/
import Derived.Test.YtpfnkpkcjefelaaStbM
import Derived.Test.YtpfnkpkcjefelaaRNodes
import Derived.Test.YtpfnkpkcjefelaaPartOk
import Derived.Test.YtpfnkpkcjefelaaStbN
namespace Go.Proofs.Ytpfnkpkcjefelaa
open Go.RowKit
set_option linter.unusedSimpArgs false
set_option linter.unusedVariables false

def permL (L : Nat → List VN) (f : Nat → Int) (j : Nat) : List VN := L (f j).toNat
def keysF (l : List ByteArray) (f : Nat → Int) (m : Nat) : List ByteArray := (List.range m).map fun j => keyAt l (f j).toNat

def sortNs (l : List ByteArray) (L : Nat → List VN) (m : Nat) : Option (List VN) := match sortIn l l.length with
  | none => none
  | some (ns, ps) => some (makeNs 6 ns (fun j => L (ps.getD j 0)) m)
def mapB (l : List ByteArray) (L : Nat → List VN) (m : Nat) : Bool := allB L m && decide (m ≤ 80) && decide (l.length = m) && (match sortNs l L m with | none => false | some vs => okB vs)
def mapNs (l : List ByteArray) (L : Nat → List VN) (m : Nat) : List VN := if mapB l L m = true then (sortNs l L m).getD [] else []

theorem catNs_same {L L' : Nat → List VN} : ∀ m, (∀ i, i < m → L i = L' i) → catNs L m = catNs L' m := by
  intro m
  induction m with
  | zero => intro _; rfl
  | succ m ih => intro h; rw [catNs, catNs, ih (fun i hi => h i (by omega)), h m (by omega)]
theorem catKs_same {L L' : Nat → List VN} : ∀ m, (∀ i, i < m → L i = L' i) → catKs L m = catKs L' m := by
  intro m
  induction m with
  | zero => intro _; rfl
  | succ m ih => intro h; rw [catKs, catKs, ih (fun i hi => h i (by omega)), catNs_same (m + 1) h]
theorem makeNs_same {L L' : Nat → List VN} {m : Nat} (h : ∀ i, i < m → L i = L' i) (kind : Int) (keys : List ByteArray) : makeNs kind keys L m = makeNs kind keys L' m := by
  unfold makeNs; rw [catNs_same m h, catKs_same m h]

theorem keysF_at {l : List ByteArray} {f : Nat → Int} {m j : Nat} (h : j < m) : keyAt (keysF l f m) j = keyAt l (f j).toNat := by simp [keysF, keyAt, h]

theorem map_rises {l : List ByteArray} {L : Nat → List VN} {f : Nat → Int} {m : Nat} (h : okB (makeNs 6 (keysF l f m) L m) = true) : ∀ p, p + 1 < m → lessB (keyAt l (f p).toNat) (keyAt l (f (p + 1)).toNat) = true := by
  intro p hp
  have hn := ((okB_parts h).2.1 (catNs L m).length (by unfold makeNs; simp)).1
  unfold makeNs at hn
  rw [nodeAt_snoc_end] at hn
  unfold nodeB namedB at hn
  simp at hn
  have hr := hn.2.2
  unfold riseB at hr
  rw [List.all_eq_true] at hr
  have hk : (keysF l f m).length = m := by simp [keysF]
  have := hr (p + 1) (List.mem_range.2 (by omega))
  unfold riseAt at this
  simp only [Bool.and_eq_true, Bool.or_eq_true, decide_eq_true_eq] at this
  rcases this.2 with e | e
  · omega
  · rw [Nat.add_sub_cancel, keysF_at (by omega), keysF_at hp] at e
    exact e

theorem map_same {l : List ByteArray} {L : Nat → List VN} {m : Nat} {f : Nat → Int} (ha : (allB L m && decide (m ≤ 80)) = true) (hl : l.length = m) (hf : Blk (RK l) (fun p => (p : Int)) f 0 l.length) :
    mapB l L m = okB (makeNs 6 (keysF l f m) (permL L f) m) ∧ mapNs l L m = rightNs (makeNs 6 (keysF l f m) (permL L f) m) := by
  have e : mapB l L m = okB (makeNs 6 (keysF l f m) (permL L f) m) ∧ (okB (makeNs 6 (keysF l f m) (permL L f) m) = true → (sortNs l L m).getD [] = makeNs 6 (keysF l f m) (permL L f) m) := by
    unfold mapB
    rw [ha, hl]
    cases hs : sortIn l l.length with
    | none =>
      have hno : okB (makeNs 6 (keysF l f m) (permL L f) m) = false := by
        cases h : okB (makeNs 6 (keysF l f m) (permL L f) m)
        · rfl
        · obtain ⟨ns, ps, e⟩ := places_rise hf (fun p hp => map_rises h p (by omega))
          rw [hs] at e; cases e
      have hsn : sortNs l L m = none := by unfold sortNs; rw [hs]
      rw [hsn, hno]
      exact ⟨by simp, fun h => by cases h⟩
    | some q =>
      obtain ⟨ns, ps⟩ := q
      have hp := places_are hs hf
      have hlen := (sortIn_len hs).2
      have hk : keysF l f m = ns := by
        rw [sortIn_map hs, ← hl]
        have := congrArg (List.map fun x : Int => keyAt l x.toNat) hp
        rw [List.map_map, List.map_map] at this
        unfold keysF
        refine (Eq.trans ?_ this).trans ?_
        · rfl
        · apply List.map_congr_left; intro n _; simp
      have hL : ∀ i, i < m → (fun j => L (ps.getD j 0)) i = permL L f i := fun i hi => by
        have h1 : ((List.range l.length).map f)[i]? = some (f i) := by rw [List.getElem?_map, List.getElem?_range (by omega)]; rfl
        rw [hp, List.getElem?_map] at h1
        rw [List.getElem?_eq_getElem (by omega)] at h1
        simp at h1
        unfold permL
        simp only
        rw [List.getD_eq_getElem?_getD, List.getElem?_eq_getElem (by omega), ← h1]
        simp
      have hsn : sortNs l L m = some (makeNs 6 (keysF l f m) (permL L f) m) := by
        unfold sortNs; rw [hs, hk]; simp only; rw [makeNs_same hL]
      rw [hsn]
      exact ⟨by simp, fun _ => rfl⟩
  refine ⟨e.1, ?_⟩
  unfold mapNs rightNs
  rw [e.1]
  split
  · rename_i h; exact e.2 h
  · rfl
end Go.Proofs.Ytpfnkpkcjefelaa

/-
  impl.MapOf: as the specification's.
-/
namespace Go.Proofs.Ytpfnkpkcjefelaa
open Go.RowKit
set_option linter.unusedSimpArgs false
set_option linter.unusedVariables false

theorem Vals.its {B base : Nat} {w : World} {v : Value} {m : Nat} {L : Nat → List VN} {V : Nat → Value} {lo hi : Nat → Nat} (h : Vals B base w v m L V lo hi) (hB : B ≤ base) (hm : m ≤ 80) (hok : ∀ i, i < m → okB (L i) = true) :
    ItsAt w v m V ∧ ∀ j, j < m → TreeAt w.heap.size w 80 (rootT (L j)) (V j) := by
  have hit := h.items hB hm hok
  rw [kidsL_len] at hit
  obtain ⟨_, a, cap, e, hx⟩ := hit
  subst e
  have key : ∀ b, a = some ⟨b, 0, none⟩ → 0 < m → ∀ j, j < m → w.cell? ⟨b, j, none⟩ = some (V j) := fun b hb hp j hj => by
    obtain ⟨g, c, e, _, _⟩ := h.row.form hp
    rw [hb] at e
    cases e
    have := h.row
    rw [hb] at this
    rw [this.cellAt j (by omega)]
    simp [hj]
  refine ⟨⟨a, cap, rfl, fun hp => ?_⟩, fun j hj => ?_⟩
  · obtain ⟨b, rfl, hb, hc⟩ := hx hp
    refine ⟨b, rfl, hb, fun j hj => ⟨key b rfl hp j hj, ?_⟩⟩
    obtain ⟨t, x, h1, _⟩ := hc j hj
    rw [key b rfl hp j hj] at h1
    injection h1 with h1
    exact ⟨t, x, h1⟩
  · obtain ⟨b, rfl, hb, hc⟩ := hx (by omega)
    obtain ⟨t, x, h1, h2⟩ := hc j hj
    rw [key b rfl (by omega) j hj] at h1
    injection h1 with h1
    rw [kidsL_at L hj] at h2
    rw [h1]; exact h2

/-- The map that came out, as a tree. -/
theorem map_tree {w1 w2 : World} {l : List ByteArray} {L : Nat → List VN} {V : Nat → Value} {f : Nat → Int} {m : Nat} {k2 i2 : Value} (hm : m ≤ 80) (hl : l.length = m) (hks : ∀ i, i < l.length → (keyAt l i).size ≤ 140737488355328)
    (hv : ∀ j, j < m → (∃ t x, V j = .iface t x) ∧ TreeAt w1.heap.size w1 80 (rootT (L j)) (V j)) (hf : Blk (RK l) (fun p => (p : Int)) f 0 m) (hk : w2.ownsRow w1.heap.size 9 1 k2 m (keysTo l f m)) (hi : w2.ownsRow w1.heap.size 73 1 i2 m (itemsTo V f m)) (hb : Below w1.heap.size w1 w2) :
    TreeAt w2.heap.size w2 81 (.mk 6 0 ByteArray.empty (keysF l f m) (kidsL (permL L f) m)) (.iface 95 (.agg #[k2, i2])) := by
  have hp : ∀ j, j < m → (f j).toNat < m := fun j hj => by
    obtain ⟨q, q1, q2, q3⟩ := hf.1 j (Nat.zero_le _) hj
    simp only at q3
    omega
  have hkl : (keysF l f m).length = m := by simp [keysF]
  refine Or.inr (Or.inr (Or.inr (Or.inr (Or.inr ⟨rfl, rfl, rfl, k2, i2, rfl, ?_, ?_⟩))))
  · refine own_strs (base := w1.heap.size) ?_ (by omega) (fun i hi => ?_)
    · rw [hkl]
      have : (keysF l f m).map Value.string = keysTo l f m := by simp [keysF, keysTo]
      rw [this]; exact hk
    · rw [hkl] at hi
      rw [keysF_at hi]
      exact hks _ (by have := hp i hi; omega)
  · rw [kidsL_len]
    obtain ⟨a, c, e⟩ := own_slice hi
    subst e
    refine ⟨by omega, a, c, rfl, fun h0 => ?_⟩
    obtain ⟨g, c', e, _, hg⟩ := hi.form h0
    cases e
    refine ⟨g, rfl, hg, fun j hj => ?_⟩
    obtain ⟨⟨t, x, e1⟩, ht⟩ := hv _ (hp j hj)
    refine ⟨t, x, ?_, ?_⟩
    · rw [hi.cellAt j (by omega)]
      simp [itemsTo, hj, e1]
    · show TreeAt w2.heap.size w2 80 (kidT (kidsL (permL L f) m) j) (.iface t x)
      rw [kidsL_at _ hj]
      rw [e1] at ht
      exact TreeAt.keep (fun c hc => hb.block c hc) hb.size ht

set_option maxRecDepth 100000 in
set_option maxHeartbeats 3200000 in
theorem implMapOf_any (B : Nat) (kv u : Value) (l : List ByteArray) (m : Nat) (L : Nat → List VN) (w : World) (hk : StrsAt B w kv l) (hu : RowsAt B w u m L) (hB : B ≤ w.heap.size) (hf : ∀ i, i < m → ∀ j, j < (L i).length → Fits (nodeAt (L i) j)) :
    Calls Try.prog 27 #[kv, u] w fun e w' => ∃ r base KV IV, e = .returned (.tuple #[r, .bool (mapB l L m)]) ∧ w.heap.size ≤ base ∧ base ≤ w'.heap.size ∧ Nest base w' r (mapNs l L m) KV IV ∧ Below w.heap.size w w' := by
  have HK := hideIt hk
  have HU := hideIt hu
  obtain ⟨hkn, _, ak, ck, rfl, _⟩ := hk
  obtain ⟨_, au, cu, rfl, _⟩ := hu
  have HMB : Hid (mapB l L m = (allB L m && decide (m ≤ 80) && decide (l.length = m) && (match sortNs l L m with | none => false | some vs => okB vs))) := rfl
  have HMN : Hid (mapNs l L m = if mapB l L m = true then (sortNs l L m).getD [] else []) := rfl
  obtain ⟨N, hN⟩ : ∃ N, l.length = N := ⟨_, rfl⟩
  have HN := hideIt hN
  rw [hN] at hkn HK ⊢
  clear hN
  go_enter Try.func27, Try.ntmps27
  go_wp2_with fail
  refine (valuesOf_any B _ m L _ HU.out hB).mono ?_
  rintro e w1 ⟨v, V, lo, hi, rfl, hyes, hno, hb1⟩
  have z1 := hb1.size
  cases ok1 : (allB L m && decide (m ≤ 80))
  · obtain rfl := hno ok1
    have HNO : Hid (mapB l L m = false) := by rw [Hid, HMB.out, ok1]; rfl
    clear hyes hno ok1
    go_wp2_with fail
    go_ret2
    exact ⟨.slice none 0 0, w.heap.size, fun _ => undef, fun _ => undef, by rw [HNO.out]; rfl, Nat.le_refl _, z1, by rw [HMN.out, HNO.out]; exact Nest.nil _ _ _ _, hb1⟩
  · have hv := hyes ok1
    have hall : allB L m = true ∧ m ≤ 80 := by simpa using ok1
    have hm := hall.2
    have HOK := hideIt (allB_yes hall.1)
    have HIT := hideIt (hv.its hB hm HOK.out)
    obtain ⟨av, cv, ev⟩ := own_slice hv.row
    subst ev
    have HA1 := hideIt ok1
    clear hyes hno hall hv ok1
    by_cases hNm : N = m
    case neg =>
      have hne : ((N : Int) != (m : Int)) = true := by rw [bne_iff_ne]; omega
      have HNO : Hid (mapB l L m = false) := by rw [Hid, HMB.out, HN.out]; simp [hNm]
      clear hNm
      go_wp2_with fail
      go_ret2
      exact ⟨.slice none 0 0, w.heap.size, fun _ => undef, fun _ => undef, by rw [HNO.out]; rfl, Nat.le_refl _, z1, by rw [HMN.out, HNO.out]; exact Nest.nil _ _ _ _, hb1⟩
    case pos =>
    subst hNm
    have hne : ((N : Int) != (N : Int)) = false := by simp
    have HITS : Hid (ItsAt w1 (.slice av N cv) l.length V) := by rw [Hid, HN.out]; exact HIT.out.1
    have HB1 := hideIt hb1
    clear hb1
    go_wp2_with fail
    refine (sortedMap_any B _ _ l V w1 (by have := HK.out.below (HB1.out.mono hB); exact this) HITS.out (by omega) (by rw [HN.out]; omega)).mono ?_
    rintro e w2 ⟨f, k2, i2, rfl, hblk, hk2, hi2, hb2⟩
    rw [HN.out] at hk2 hi2
    have HSAME := hideIt (map_same HA1.out HN.out hblk)
    rw [HN.out] at hblk
    have z2 := hb2.size
    have HTR := hideIt (map_tree hm HN.out HK.out.2.1 (fun j hj => ⟨by
      obtain ⟨a, c, e, hx⟩ := HIT.out.1
      obtain ⟨b, _, _, hc⟩ := hx (by omega)
      exact (hc j hj).2, HIT.out.2 j hj⟩) hblk hk2 hi2 hb2)
    have HOK2 : Hid (∀ i, i < N → okB (permL L f i) = true) := fun i hi => by
      obtain ⟨q, q1, q2, q3⟩ := hblk.1 i (Nat.zero_le _) hi
      exact HOK.out _ (by simp only at q3; omega)
    have HF2 : Hid (∀ i, i < N → ∀ j, j < (permL L f i).length → Fits (nodeAt (permL L f i) j)) := fun i hi j hj => by
      obtain ⟨q, q1, q2, q3⟩ := hblk.1 i (Nat.zero_le _) hi
      exact hf _ (by simp only at q3; omega) j hj
    have HNI := hideIt (make_nice hm HOK2.out HF2.out (kind := 6) (by omega) (by omega) (keys := keysF l f N) (by simp [keysF]; omega) (fun i hi => by
      have hi' : i < N := by simpa [keysF] using hi
      rw [keysF_at hi']
      obtain ⟨q, q1, q2, q3⟩ := hblk.1 i (Nat.zero_le _) hi'
      exact HK.out.2.1 _ (by rw [HN.out]; simp only at q3; omega)))
    have HLL := hideIt (lay_list 6 (keysF l f N) (permL L f) N HOK2.out)
    obtain ⟨ak2, ck2, ek2⟩ := own_slice hk2
    obtain ⟨ai2, ci2, ei2⟩ := own_slice hi2
    subst ek2 ei2
    have HB2 := hideIt (HB1.out.trans (hb2.mono z1))
    clear hblk hk2 hi2 hb2
    go_wp2_with fail
    refine (rightNodes_any 81 _ _ (makeNs 6 (keysF l f N) (permL L f) N) _ HTR.out HLL.out (by have := HNI.out.1; omega) (fun i hi => (HNI.out.2 i hi).1)).mono ?_
    rintro e w3 ⟨r, base, KV, IV, rfl, hb0, hb01, hn3, hb3⟩
    have HN3 := hideIt hn3
    obtain ⟨ar, cr, er⟩ := own_slice hn3.row
    obtain ⟨M, hM⟩ : ∃ M, (rightNs (makeNs 6 (keysF l f N) (permL L f) N)).length = M := ⟨_, rfl⟩
    rw [hM] at er
    subst er
    have HB3 := hideIt (HB2.out.trans (hb3.mono (by omega)))
    clear hn3 hb3 hM
    go_wp2_with fail
    go_ret2
    exact ⟨.slice ar M cr, base, KV, IV, by rw [HSAME.out.1]; rfl, by omega, by omega, by rw [HSAME.out.2]; exact HN3.out, HB3.out⟩
end Go.Proofs.Ytpfnkpkcjefelaa

/-
  The nodes of a map that is made are few, and fit: plain mathematics.
-/
namespace Go.Proofs.Ytpfnkpkcjefelaa
open Go.RowKit
set_option linter.unusedSimpArgs false
set_option linter.unusedVariables false

theorem map_few {l : List ByteArray} {L : Nat → List VN} {m : Nat} (hs : ∀ i, i < l.length → (keyAt l i).size ≤ 140737488355328) (hf : ∀ i, i < m → ∀ j, j < (L i).length → Fits (nodeAt (L i) j)) : Few (mapNs l L m) ∧ ∀ i, i < (mapNs l L m).length → Fits (nodeAt (mapNs l L m) i) := by
  have none0 : Few ([] : List VN) ∧ ∀ i, i < ([] : List VN).length → Fits (nodeAt [] i) := ⟨⟨by simp, fun i hi => absurd hi (by simp)⟩, fun i hi => absurd hi (by simp)⟩
  cases e : mapB l L m
  · have : mapNs l L m = [] := by unfold mapNs; rw [e]; rfl
    rw [this]
    exact none0
  · have e2 : mapNs l L m = (sortNs l L m).getD [] := by unfold mapNs; rw [e]; rfl
    cases hso : sortIn l l.length with
    | none =>
      have : sortNs l L m = none := by unfold sortNs; rw [hso]
      rw [e2, this]
      exact none0
    | some q =>
      obtain ⟨ns, ps⟩ := q
      have hsn : sortNs l L m = some (makeNs 6 ns (fun j => L (ps.getD j 0)) m) := by unfold sortNs; rw [hso]
      unfold mapB at e
      rw [hsn] at e
      simp only [Bool.and_eq_true, decide_eq_true_eq] at e
      obtain ⟨⟨⟨h1, h2⟩, h4⟩, h3⟩ := e
      have hln := sortIn_len hso
      have hpj : ∀ i, i < m → ps.getD i 0 < m := fun i hi => by
        have : ps.getD i 0 ∈ ps := by
          rw [List.getD_eq_getElem?_getD, List.getElem?_eq_getElem (by omega)]
          exact List.getElem_mem _
        have := sortIn_mem hso _ this
        omega
      have hks : ∀ i, i < ns.length → (keyAt ns i).size ≤ 140737488355328 := fun i hi => by
        have hmp := sortIn_map hso
        have e2 : keyAt ns i = keyAt l (ps.getD i 0) := by
          rw [keyAt_get hi, List.getD_eq_getElem?_getD, List.getElem?_eq_getElem (show i < ps.length by omega)]
          simp [hmp]
        rw [e2]
        exact hs _ (by have := hpj i (by omega); omega)
      have hn := make_nice (L := fun j => L (ps.getD j 0)) h2 (fun i hi => allB_yes h1 _ (hpj i hi)) (fun i hi => hf _ (hpj i hi)) (kind := 6) (by omega) (by omega) (keys := ns) (by omega) hks
      rw [e2, hsn]
      exact ⟨⟨(okB_parts h3).1.2, fun i hi => ⟨(hn.2 i hi).2.1, (hn.2 i hi).2.2.1⟩⟩, fun i hi => (hn.2 i hi).1⟩
end Go.Proofs.Ytpfnkpkcjefelaa
