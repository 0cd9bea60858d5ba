/-
  impl.rightNodes: the nodes of a value, if these are right.
-/
import Derived.Test.YtagcgnhpdmhegaaGreatDoorWn6
import Derived.Test.YtagcgnhpdmhegaaGreatDoorSMake
import Derived.Test.YtagcgnhpdmhegaaGreatDoorLowN
import Derived.Test.YtagcgnhpdmhegaaGreatDoorMarkM
import Derived.Test.YtagcgnhpdmhegaaGreatDoorPkT
import Derived.Test.YtagcgnhpdmhegaaGreatDoorSpc3
import Derived.Test.YtagcgnhpdmhegaaGreatDoorWn1
import Derived.Test.YtagcgnhpdmhegaaGreatDoorRd
namespace Go.Proofs.YtagcgnhpdmhegaaGreatDoor
open Go.RowKit
set_option linter.unusedSimpArgs false
set_option linter.unusedVariables false

theorem TreeAt.iface {B : Nat} {w : World} {f : Nat} {t : VT} {v : Value} (h : TreeAt B w f t v) : ∃ ty x, v = .iface ty x := by
  cases f with
  | zero => exact h.elim
  | succ f =>
    obtain ⟨kind, n, s, keys, kids⟩ := t
    rcases h with ⟨_, _, _, _, _, rfl⟩ | ⟨_, _, _, _, rfl⟩ | ⟨_, _, _, _, rfl⟩ | ⟨_, _, _, _, rfl⟩ | ⟨_, _, _, _, it, rfl, _⟩ | ⟨_, _, _, ks, it, rfl, _⟩ <;> exact ⟨_, _, rfl⟩

def rightNs (ns : List VN) : List VN := if okB ns = true then ns else []

set_option maxRecDepth 100000 in
set_option maxHeartbeats 3200000 in
theorem rightNodes_any (f : Nat) (t : VT) (x : Value) (ns : List VN) (w : World) (ht : TreeAt w.heap.size w f t x) (hns : layT f t 0 = ns) (hn : ns.length ≤ 100000) (hf : ∀ i, i < ns.length → Fits (nodeAt ns i)) :
    Calls Tryz.prog 26 #[x] w fun e w' => ∃ r base KV IV, e = .returned (.tuple #[r, .bool (okB ns)]) ∧ w.heap.size ≤ base ∧ base ≤ w'.heap.size ∧ Nest base w' r (rightNs ns) KV IV ∧ Below w.heap.size w w' := by
  obtain ⟨ty, xv, rfl⟩ := ht.iface
  have HT := hideIt ht
  have HNS := hideIt hns
  have HF := hideIt hf
  have HRN : Hid (rightNs ns = if okB ns = true then ns else []) := rfl
  clear ht hns hf
  go_enter Tryz.func26, Tryz.ntmps26
  go_wp2_with fail
  refine (withNodes_any w.heap.size w.heap.size (Nat.le_refl _) f t (.iface ty xv) (.slice none 0 0) [] (fun _ => undef) (fun _ => undef) w (Nest.nil _ _ _ _) HT.out (Nat.le_refl _) (by rw [List.length_nil, HNS.out]; omega)).mono ?_
  rintro e w1 ⟨r, K, I, rfl, hl1⟩
  have hn1 : Nest w.heap.size w1 r ns K I := by have := hl1.1; rw [List.nil_append, List.length_nil, HNS.out] at this; exact this
  have hb1 : Below w.heap.size w w1 := (Below.refl _ _).grown hl1.2.1 (Nat.le_refl _) (fun k hk => by simp [Value.ownBlock] at hk)
  have z1 := hb1.size
  have HN1 := hideIt hn1
  have HB1 := hideIt hb1
  obtain ⟨ar, cr, er⟩ := own_slice hn1.row
  obtain ⟨N, hN⟩ : ∃ N, ns.length = N := ⟨_, rfl⟩
  rw [hN] at er
  subst er
  clear hn1 hb1 hN hl1
  go_wp2_with fail
  refine (implOk_any w1.heap.size _ ns _ (HN1.out.nodes (by omega) HF.out) (Nat.le_refl _)).mono ?_
  rintro e w2 ⟨rfl, hb2⟩
  have z2 := hb2.size
  have HN2 := hideIt (HN1.out.below hb2)
  have HB2 := hideIt (HB1.out.trans (hb2.mono z1))
  clear hb2
  cases ok1 : okB ns
  · go_wp2_with fail
    go_ret2
    exact ⟨.slice none 0 0, w.heap.size, fun _ => undef, fun _ => undef, by rw [ok1]; rfl, Nat.le_refl _, by omega, by rw [HRN.out, ok1]; exact Nest.nil _ _ _ _, HB2.out⟩
  · go_wp2_with fail
    go_ret2
    exact ⟨.slice ar N cr, w.heap.size, K, I, by rw [ok1]; rfl, Nat.le_refl _, by omega, by rw [HRN.out, ok1]; exact HN2.out, HB2.out⟩
end Go.Proofs.YtagcgnhpdmhegaaGreatDoor

/-
  A list's nodes: what the specification lays and what the program lays are the same. Plain mathematics.
-/
namespace Go.Proofs.YtagcgnhpdmhegaaGreatDoor
open Go.RowKit
set_option linter.unusedSimpArgs false
set_option linter.unusedVariables false

theorem root_first {vs : List VN} (hok : okB vs = true) : ∃ h, tr (kidsOf vs) (vs.length - 1) = some (0, h) := by
  unfold okB rootB at hok
  simp only [Bool.and_eq_true] at hok
  have h := hok.2
  cases e : tr (kidsOf vs) (vs.length - 1) with
  | none => simp [e] at h
  | some p => obtain ⟨a, b⟩ := p; simp [e] at h; obtain ⟨rfl, _⟩ := h; exact ⟨b, rfl⟩

def rootT (vs : List VN) : VT := treeOf vs 80 (vs.length - 1)

theorem run_all (vs : List VN) (d : Int) : run vs d 0 vs.length = vs.map (shiftN d) := by
  unfold run
  apply List.ext_getElem?
  intro j
  by_cases hj : j < vs.length
  · simp [List.getElem?_range', hj, nodeAt]
  · simp [hj]

theorem lay_root {vs : List VN} (hok : okB vs = true) (sh : Nat) : layT 80 (rootT vs) sh = vs.map (shiftN (sh : Int)) := by
  obtain ⟨p1, _, _, _⟩ := okB_parts hok
  obtain ⟨h, htr⟩ := root_first hok
  unfold rootT
  rw [← lay_tree, lay_run vs 80 (vs.length - 1) sh 0 h (by omega) htr, ← run_all]
  have e : vs.length - 1 + 1 - 0 = vs.length := by omega
  rw [e]
  simp

def kidsL (L : Nat → List VN) (m : Nat) : List VT := (List.range m).map fun i => rootT (L i)
theorem kidsL_len (L : Nat → List VN) (m : Nat) : (kidsL L m).length = m := by simp [kidsL]
theorem kidsL_at (L : Nat → List VN) {m j : Nat} (h : j < m) : kidT (kidsL L m) j = rootT (L j) := by simp [kidsL, kidT, h]

theorem cat_lay (L : Nat → List VN) (m : Nat) (hok : ∀ i, i < m → okB (L i) = true) : ∀ k, k ≤ m → accT 80 0 (kidsL L m) k = catNs L k ∧ ksT 80 0 (kidsL L m) k = catKs L k := by
  intro k
  induction k with
  | zero => intro _; exact ⟨accT_zero _ _ _, ksT_zero _ _ _⟩
  | succ k ih =>
    intro hk
    obtain ⟨h1, h2⟩ := ih (by omega)
    have hlt : k < (kidsL L m).length := by rw [kidsL_len]; omega
    have e : accT 80 0 (kidsL L m) (k + 1) = catNs L (k + 1) := by
      rw [accT_succ 80 0 hlt, h1, kidsL_at L (by omega), lay_root (hok k (by omega)), Nat.zero_add]
      rfl
    refine ⟨e, ?_⟩
    rw [ksT_succ 80 0 hlt, h2, e, Nat.zero_add]
    rfl

theorem lay_list (kind : Int) (keys : List ByteArray) (L : Nat → List VN) (m : Nat) (hok : ∀ i, i < m → okB (L i) = true) : layT 81 (.mk kind 0 ByteArray.empty keys (kidsL L m)) 0 = makeNs kind keys L m := by
  rw [layT_eq, kidsL_len]
  obtain ⟨h1, h2⟩ := cat_lay L m hok m (Nat.le_refl _)
  rw [h1, h2]
  rfl

theorem catNs_le {L : Nat → List VN} {m : Nat} (hok : ∀ i, i < m → okB (L i) = true) : ∀ k, k ≤ m → (catNs L k).length ≤ k * 80 := by
  intro k
  induction k with
  | zero => intro _; simp [catNs]
  | succ k ih =>
    intro hk
    have h1 := ih (by omega)
    have h2 := (okB_parts (hok k (by omega))).1
    rw [catNs_len]
    omega

theorem nodeAt_left {a b : List VN} {i : Nat} (h : i < a.length) : nodeAt (a ++ b) i = nodeAt a i := by
  unfold nodeAt; rw [List.getD_eq_getElem?_getD, List.getD_eq_getElem?_getD, List.getElem?_append_left h]
theorem nodeAt_right {a b : List VN} {i : Nat} (h : a.length ≤ i) : nodeAt (a ++ b) i = nodeAt b (i - a.length) := by
  unfold nodeAt; rw [List.getD_eq_getElem?_getD, List.getD_eq_getElem?_getD, List.getElem?_append_right h]
theorem nodeAt_map {vs : List VN} {d : Int} {i : Nat} (h : i < vs.length) : nodeAt (vs.map (shiftN d)) i = shiftN d (nodeAt vs i) := by
  unfold nodeAt; simp [h]

/-- What the parts' nodes have, all nodes have. -/
def Nice (x : VN) : Prop := Fits x ∧ x.keys.length ≤ 80 ∧ x.kids.length ≤ 80 ∧ ∀ j, j < x.kids.length → -10000 ≤ intAt x.kids j ∧ intAt x.kids j ≤ 10000

theorem cat_nice {L : Nat → List VN} {m : Nat} (hm : m ≤ 80) (hok : ∀ i, i < m → okB (L i) = true) (hf : ∀ i, i < m → ∀ j, j < (L i).length → Fits (nodeAt (L i) j)) : ∀ k, k ≤ m → ∀ i, i < (catNs L k).length → Nice (nodeAt (catNs L k) i) := by
  intro k
  induction k with
  | zero => intro _ i hi; simp [catNs] at hi
  | succ k ih =>
    intro hk i hi
    have hle := catNs_le hok k (by omega)
    rw [catNs]
    by_cases e : i < (catNs L k).length
    · rw [nodeAt_left e]; exact ih (by omega) i e
    · rw [nodeAt_right (by omega)]
      rw [catNs_len] at hi
      rw [nodeAt_map (by omega)]
      have hj : i - (catNs L k).length < (L k).length := by omega
      generalize i - (catNs L k).length = j at hj
      have f := hf k (by omega) j hj
      have kf := keys_few (hok k (by omega)) j hj
      have p1 := (okB_parts (hok k (by omega))).1
      have hb : ∀ q, q < (shiftN ((catNs L k).length : Int) (nodeAt (L k) j)).kids.length → -10000 ≤ intAt (shiftN ((catNs L k).length : Int) (nodeAt (L k) j)).kids q ∧ intAt (shiftN ((catNs L k).length : Int) (nodeAt (L k) j)).kids q ≤ 10000 := by
        intro q hq
        have hq' : q < (nodeAt (L k) j).kids.length := by simpa [shiftN] using hq
        have hr := kidsIn_get kf.1 hq'
        have ei : intAt (shiftN ((catNs L k).length : Int) (nodeAt (L k) j)).kids q = intAt (nodeAt (L k) j).kids q + ((catNs L k).length : Int) := by
          rw [intAt_get hq, intAt_get hq']; simp [shiftN]
        rw [ei]
        omega
      exact ⟨⟨f.keysN, f.keysS, by simpa [shiftN] using f.kidsN, fun q hq => by have := hb q hq; omega, f.size, f.klo, f.khi, f.nlo, f.nhi⟩, kf.2.2, by simpa [shiftN] using kf.2.1, hb⟩

theorem catKs_get (L : Nat → List VN) : ∀ (m j : Nat), j < m → intAt (catKs L m) j = ((catNs L (j + 1)).length : Int) - 1 := by
  intro m
  induction m with
  | zero => intro j hj; omega
  | succ m ih =>
    intro j hj
    have hl : j < (catKs L (m + 1)).length := by rw [catKs_len]; exact hj
    rw [intAt_get hl]
    by_cases e : j < m
    · have := ih j e
      rw [intAt_get (by rw [catKs_len]; exact e)] at this
      simp only [catKs]
      rw [List.getElem_append_left (by rw [catKs_len]; exact e)]
      exact this
    · obtain rfl : j = m := by omega
      simp only [catKs]
      rw [List.getElem_append_right (by rw [catKs_len]; exact Nat.le_refl _)]
      simp [catKs_len]

theorem make_nice {L : Nat → List VN} {m : Nat} (hm : m ≤ 80) (hok : ∀ i, i < m → okB (L i) = true) (hf : ∀ i, i < m → ∀ j, j < (L i).length → Fits (nodeAt (L i) j)) {kind : Int} (h1 : 1 ≤ kind) (h6 : kind ≤ 6) {keys : List ByteArray} (hk : keys.length ≤ 80) (hks : ∀ i, i < keys.length → (keyAt keys i).size ≤ 140737488355328) :
    (makeNs kind keys L m).length ≤ 6401 ∧ ∀ i, i < (makeNs kind keys L m).length → Nice (nodeAt (makeNs kind keys L m) i) := by
  have hle := catNs_le hok m (Nat.le_refl _)
  refine ⟨by unfold makeNs; simp; omega, fun i hi => ?_⟩
  unfold makeNs at hi ⊢
  by_cases e : i < (catNs L m).length
  · rw [nodeAt_left e]; exact cat_nice hm hok hf m (Nat.le_refl _) i e
  · have e0 : i - (catNs L m).length = 0 := by simp at hi; omega
    rw [nodeAt_right (by omega), e0]
    have hb : ∀ j, j < (catKs L m).length → -10000 ≤ intAt (catKs L m) j ∧ intAt (catKs L m) j ≤ 10000 := by
      intro j hj
      rw [catKs_len] at hj
      rw [catKs_get L m j hj]
      have := catNs_le hok (j + 1) (by omega)
      omega
    exact ⟨⟨by show keys.length ≤ _; omega, hks, by show (catKs L m).length ≤ _; rw [catKs_len]; omega, fun j hj => by have := hb j hj; show -9223372036854775808 ≤ intAt (catKs L m) j ∧ intAt (catKs L m) j ≤ 9223372036854775807; omega, by show ByteArray.empty.size ≤ _; decide, by show -9223372036854775808 ≤ kind; omega, by show kind ≤ _; omega, by show (-9223372036854775808 : Int) ≤ 0; decide, by show (0 : Int) ≤ 9223372036854775807; decide⟩, hk, by show (catKs L m).length ≤ 80; rw [catKs_len]; exact hm, hb⟩
end Go.Proofs.YtagcgnhpdmhegaaGreatDoor

/-
  spec.ListOf.
-/
namespace Go.Proofs.YtagcgnhpdmhegaaGreatDoor
open Go.RowKit
set_option linter.unusedSimpArgs false
set_option linter.unusedVariables false

def allB (L : Nat → List VN) (m : Nat) : Bool := (List.range m).all fun i => okB (L i)
theorem allB_yes {L : Nat → List VN} {m : Nat} (h : allB L m = true) : ∀ i, i < m → okB (L i) = true := fun i hi => by
  unfold allB at h; rw [List.all_eq_true] at h; exact h i (List.mem_range.2 hi)
theorem allB_of {L : Nat → List VN} {m : Nat} (h : ∀ i, i < m → okB (L i) = true) : allB L m = true := by
  unfold allB; rw [List.all_eq_true]; exact fun i hi => h i (List.mem_range.1 hi)
theorem allB_no {L : Nat → List VN} {m i : Nat} (hi : i < m) (h : okB (L i) = false) : allB L m = false := by
  cases e : allB L m
  · rfl
  · have := allB_yes e i hi; rw [h] at this; cases this

theorem RowsAt.below {B : Nat} {w w' : World} {v : Value} {m : Nat} {L : Nat → List VN} (h : RowsAt B w v m L) (hb : Below B w w') : RowsAt B w' v m L := by
  obtain ⟨h1, a, c, e, h2⟩ := h
  refine ⟨h1, a, c, e, fun hp => ?_⟩
  obtain ⟨b, ea, hbB, h3⟩ := h2 hp
  refine ⟨b, ea, hbB, fun i hi => ?_⟩
  obtain ⟨r, e2, hn⟩ := h3 i hi
  exact ⟨r, (below_cell hb hbB).trans e2, hn.below hb⟩

def listB (L : Nat → List VN) (m : Nat) : Bool := allB L m && decide (m ≤ 80) && okB (makeNs 5 [] L m)
def listNs (L : Nat → List VN) (m : Nat) : List VN := if listB L m = true then makeNs 5 [] L m else []

theorem near_of {L : Nat → List VN} {m : Nat} (hok : ∀ i, i < m → okB (L i) = true) : ∀ i, i < m → 0 < (L i).length ∧ ∀ j, j < (L i).length → Near (nodeAt (L i) j) := by
  intro i hi
  obtain ⟨p1, _, _, _⟩ := okB_parts (hok i hi)
  refine ⟨by omega, fun j hj => ?_⟩
  have kf := keys_few (hok i hi) j hj
  exact ⟨by omega, by omega, fun q hq => by have := kidsIn_get kf.1 hq; omega⟩

end Go.Proofs.YtagcgnhpdmhegaaGreatDoor

/-
  The map of keys and values: the program's arrangement is the specification's. Plain mathematics.
-/
namespace Go.Proofs.YtagcgnhpdmhegaaGreatDoor
open Go.RowKit
set_option linter.unusedSimpArgs false
set_option linter.unusedVariables false

def permL (L : Nat → List VN) (f : Nat → Int) (j : Nat) : List VN := L (f j).toNat
def keysF (l : List ByteArray) (f : Nat → Int) (m : Nat) : List ByteArray := (List.range m).map fun j => keyAt l (f j).toNat

def sortNs (l : List ByteArray) (L : Nat → List VN) (m : Nat) : Option (List VN) := match sortIn l l.length with
  | none => none
  | some (ns, ps) => some (makeNs 6 ns (fun j => L (ps.getD j 0)) m)
def mapB (l : List ByteArray) (L : Nat → List VN) (m : Nat) : Bool := allB L m && decide (m ≤ 80) && decide (l.length = m) && (match sortNs l L m with | none => false | some vs => okB vs)
def mapNs (l : List ByteArray) (L : Nat → List VN) (m : Nat) : List VN := if mapB l L m = true then (sortNs l L m).getD [] else []

theorem catNs_same {L L' : Nat → List VN} : ∀ m, (∀ i, i < m → L i = L' i) → catNs L m = catNs L' m := by
  intro m
  induction m with
  | zero => intro _; rfl
  | succ m ih => intro h; rw [catNs, catNs, ih (fun i hi => h i (by omega)), h m (by omega)]
theorem catKs_same {L L' : Nat → List VN} : ∀ m, (∀ i, i < m → L i = L' i) → catKs L m = catKs L' m := by
  intro m
  induction m with
  | zero => intro _; rfl
  | succ m ih => intro h; rw [catKs, catKs, ih (fun i hi => h i (by omega)), catNs_same (m + 1) h]
theorem makeNs_same {L L' : Nat → List VN} {m : Nat} (h : ∀ i, i < m → L i = L' i) (kind : Int) (keys : List ByteArray) : makeNs kind keys L m = makeNs kind keys L' m := by
  unfold makeNs; rw [catNs_same m h, catKs_same m h]

theorem keysF_at {l : List ByteArray} {f : Nat → Int} {m j : Nat} (h : j < m) : keyAt (keysF l f m) j = keyAt l (f j).toNat := by simp [keysF, keyAt, h]

theorem map_rises {l : List ByteArray} {L : Nat → List VN} {f : Nat → Int} {m : Nat} (h : okB (makeNs 6 (keysF l f m) L m) = true) : ∀ p, p + 1 < m → lessB (keyAt l (f p).toNat) (keyAt l (f (p + 1)).toNat) = true := by
  intro p hp
  have hn := ((okB_parts h).2.1 (catNs L m).length (by unfold makeNs; simp)).1
  unfold makeNs at hn
  rw [nodeAt_snoc_end] at hn
  unfold nodeB namedB at hn
  simp at hn
  have hr := hn.2.2
  unfold riseB at hr
  rw [List.all_eq_true] at hr
  have hk : (keysF l f m).length = m := by simp [keysF]
  have := hr (p + 1) (List.mem_range.2 (by omega))
  unfold riseAt at this
  simp only [Bool.and_eq_true, Bool.or_eq_true, decide_eq_true_eq] at this
  rcases this.2 with e | e
  · omega
  · rw [Nat.add_sub_cancel, keysF_at (by omega), keysF_at hp] at e
    exact e

theorem map_same {l : List ByteArray} {L : Nat → List VN} {m : Nat} {f : Nat → Int} (ha : (allB L m && decide (m ≤ 80)) = true) (hl : l.length = m) (hf : Blk (RK l) (fun p => (p : Int)) f 0 l.length) :
    mapB l L m = okB (makeNs 6 (keysF l f m) (permL L f) m) ∧ mapNs l L m = rightNs (makeNs 6 (keysF l f m) (permL L f) m) := by
  have e : mapB l L m = okB (makeNs 6 (keysF l f m) (permL L f) m) ∧ (okB (makeNs 6 (keysF l f m) (permL L f) m) = true → (sortNs l L m).getD [] = makeNs 6 (keysF l f m) (permL L f) m) := by
    unfold mapB
    rw [ha, hl]
    cases hs : sortIn l l.length with
    | none =>
      have hno : okB (makeNs 6 (keysF l f m) (permL L f) m) = false := by
        cases h : okB (makeNs 6 (keysF l f m) (permL L f) m)
        · rfl
        · obtain ⟨ns, ps, e⟩ := places_rise hf (fun p hp => map_rises h p (by omega))
          rw [hs] at e; cases e
      have hsn : sortNs l L m = none := by unfold sortNs; rw [hs]
      rw [hsn, hno]
      exact ⟨by simp, fun h => by cases h⟩
    | some q =>
      obtain ⟨ns, ps⟩ := q
      have hp := places_are hs hf
      have hlen := (sortIn_len hs).2
      have hk : keysF l f m = ns := by
        rw [sortIn_map hs, ← hl]
        have := congrArg (List.map fun x : Int => keyAt l x.toNat) hp
        rw [List.map_map, List.map_map] at this
        unfold keysF
        refine (Eq.trans ?_ this).trans ?_
        · rfl
        · apply List.map_congr_left; intro n _; simp
      have hL : ∀ i, i < m → (fun j => L (ps.getD j 0)) i = permL L f i := fun i hi => by
        have h1 : ((List.range l.length).map f)[i]? = some (f i) := by rw [List.getElem?_map, List.getElem?_range (by omega)]; rfl
        rw [hp, List.getElem?_map] at h1
        rw [List.getElem?_eq_getElem (by omega)] at h1
        simp at h1
        unfold permL
        simp only
        rw [List.getD_eq_getElem?_getD, List.getElem?_eq_getElem (by omega), ← h1]
        simp
      have hsn : sortNs l L m = some (makeNs 6 (keysF l f m) (permL L f) m) := by
        unfold sortNs; rw [hs, hk]; simp only; rw [makeNs_same hL]
      rw [hsn]
      exact ⟨by simp, fun _ => rfl⟩
  refine ⟨e.1, ?_⟩
  unfold mapNs rightNs
  rw [e.1]
  split
  · rename_i h; exact e.2 h
  · rfl
end Go.Proofs.YtagcgnhpdmhegaaGreatDoor

/-
  Plain: when the nodes that are laid for a tree are a right value: by the tree alone.
-/
namespace Go.Proofs.YtagcgnhpdmhegaaGreatDoor
open Go.RowKit
set_option linter.unusedSimpArgs false
set_option linter.unusedVariables false

/-- The tree ends within so many steps. -/
def FullT : Nat → VT → Prop
  | 0, _ => False
  | f + 1, .mk _ _ _ _ kids => ∀ j, j < kids.length → FullT f (kidT kids j)
/-- Every node is right by itself. -/
def nodeT (kind n : Int) (s : ByteArray) (keys : List ByteArray) (m : Nat) : Bool := nodeB ⟨kind, n, s, keys, List.replicate m 0⟩
def goodT : Nat → VT → Prop
  | 0, _ => False
  | f + 1, .mk kind n s keys kids => nodeT kind n s keys kids.length = true ∧ ∀ j, j < kids.length → goodT f (kidT kids j)
def hiK (F : VT → Nat) (kids : List VT) : Nat → Nat
  | 0 => 0
  | k + 1 => max (hiK F kids k) (F (kidT kids k))
/-- How deep a tree is. -/
def hiT : Nat → VT → Nat
  | 0, _ => 0
  | f + 1, .mk _ _ _ _ kids => hiK (hiT f) kids kids.length + 1
theorem goodT.full : ∀ {f : Nat} {t : VT}, goodT f t → FullT f t
  | 0, _, h => h.elim
  | f + 1, .mk _ _ _ _ _, h => fun j hj => (h.2 j hj).full
theorem nodeT_eq (x : VN) : nodeB x = nodeT x.kind x.n x.s x.keys x.kids.length := by
  unfold nodeT nodeB unnamedB namedB
  simp
theorem FullT.more : ∀ {f g : Nat} {t : VT}, f ≤ g → FullT f t → FullT g t
  | 0, _, _, _, h => h.elim
  | f + 1, 0, _, hg, _ => by omega
  | f + 1, g + 1, .mk _ _ _ _ _, hg, h => fun j hj => (h j hj).more (by omega)

theorem accT_pre (f sh : Nat) (kids : List VT) {k m : Nat} (h : k ≤ m) (hm : m ≤ kids.length) : ∃ t, accT f sh kids m = accT f sh kids k ++ t := by
  induction m with
  | zero => obtain rfl : k = 0 := by omega
            exact ⟨[], by simp⟩
  | succ m ih =>
    by_cases e : k = m + 1
    · subst e; exact ⟨[], by simp⟩
    · obtain ⟨t, ht⟩ := ih (by omega) (by omega)
      exact ⟨t ++ _, by rw [accT_succ f sh (by omega), ht, List.append_assoc]⟩
theorem layT_len {f : Nat} {t : VT} (h : FullT f t) (sh : Nat) : 1 ≤ (layT f t sh).length := by
  cases f with
  | zero => exact h.elim
  | succ f => obtain ⟨kind, n, s, keys, kids⟩ := t; rw [layT_eq]; simp

theorem tr_lay : ∀ {f : Nat} {t : VT}, FullT f t → ∀ (vs : List VN) (sh : Nat), (∀ j, j < (layT f t sh).length → kidsOf vs (sh + j) = (nodeAt (layT f t sh) j).kids) → tr (kidsOf vs) (sh + (layT f t sh).length - 1) = some (sh, hiT f t) := by
  intro f
  induction f with
  | zero => intro t h; exact h.elim
  | succ f ih =>
    intro t h vs sh hk
    obtain ⟨kind, n, s, keys, kids⟩ := t
    rw [layT_eq] at hk ⊢
    rw [List.length_append, List.length_cons, List.length_nil] at hk ⊢
    have hroot := hk (accT f sh kids kids.length).length (by omega)
    rw [nodeAt_right (Nat.le_refl _), Nat.sub_self] at hroot
    have hroot' : kidsOf vs (sh + (accT f sh kids kids.length).length) = ksT f sh kids kids.length := hroot
    rw [show sh + ((accT f sh kids kids.length).length + (0 + 1)) - 1 = sh + (accT f sh kids kids.length).length by omega, tr_eq, hroot']
    have hf : ∀ k, k ≤ kids.length → ∀ h0, (ksT f sh kids k).reverse.foldl (stepKid (tr (kidsOf vs))) (some (sh + (accT f sh kids k).length, h0)) = some (sh, max h0 (hiK (hiT f) kids k)) := by
      intro k
      induction k with
      | zero => intro _ h0; rw [ksT_zero, accT_zero]; simp [hiK]
      | succ k ihk =>
        intro hkl h0
        rw [ksT_succ f sh (by omega), List.reverse_append, List.reverse_cons, List.reverse_nil, List.nil_append, List.cons_append, List.nil_append, List.foldl_cons]
        have hlen : (accT f sh kids (k + 1)).length = (accT f sh kids k).length + (layT f (kidT kids k) (sh + (accT f sh kids k).length)).length := by rw [accT_succ f sh (by omega), List.length_append]
        have hpos := layT_len (h k (by omega)) (sh + (accT f sh kids k).length)
        have htr := ih (h k (by omega)) vs (sh + (accT f sh kids k).length) (fun j hj => by
          obtain ⟨t1, ht1⟩ := accT_pre f sh kids (show k + 1 ≤ kids.length by omega) (Nat.le_refl _)
          have hl1 := congrArg List.length ht1
          rw [List.length_append] at hl1
          have := hk ((accT f sh kids k).length + j) (by omega)
          rw [nodeAt_left (by omega), ht1, nodeAt_left (by omega), accT_succ f sh (by omega), nodeAt_right (by omega)] at this
          rw [Nat.add_assoc, this, Nat.add_sub_cancel_left])
        have hst : stepKid (tr (kidsOf vs)) (some (sh + (accT f sh kids (k + 1)).length, h0)) (((sh + (accT f sh kids (k + 1)).length : Nat) : Int) - 1) = some (sh + (accT f sh kids k).length, max h0 (hiT f (kidT kids k))) := by
          unfold stepKid
          simp only
          rw [if_pos ⟨by omega, trivial⟩]
          rw [show sh + (accT f sh kids (k + 1)).length - 1 = sh + (accT f sh kids k).length + (layT f (kidT kids k) (sh + (accT f sh kids k).length)).length - 1 by omega, htr]
          rfl
        rw [hst, ihk (by omega), hiK]
        congr 2
        omega
    rw [hf _ (Nat.le_refl _) 0]
    simp [hiT]

theorem acc_nodes (f sh : Nat) (kids : List VT) (P : VN → Prop) : ∀ k, k ≤ kids.length → ((∀ j, j < (accT f sh kids k).length → P (nodeAt (accT f sh kids k) j)) ↔ ∀ i, i < k → ∀ j, j < (layT f (kidT kids i) (sh + (accT f sh kids i).length)).length → P (nodeAt (layT f (kidT kids i) (sh + (accT f sh kids i).length)) j)) := by
  intro k
  induction k with
  | zero => intro _; rw [accT_zero]; simp
  | succ k ih =>
    intro hk
    have ih' := ih (by omega)
    rw [accT_succ f sh (by omega), List.length_append]
    constructor
    · intro h i hi j hj
      by_cases e : i = k
      · subst e
        have := h ((accT f sh kids i).length + j) (by omega)
        rw [nodeAt_right (by omega), Nat.add_sub_cancel_left] at this
        exact this
      · exact ih'.1 (fun j hj => by have := h j (by omega); rw [nodeAt_left hj] at this; exact this) i (by omega) j hj
    · intro h j hj
      by_cases e : j < (accT f sh kids k).length
      · rw [nodeAt_left e]
        exact ih'.2 (fun i hi => h i (by omega)) j e
      · rw [nodeAt_right (by omega)]
        exact h k (by omega) _ (by omega)
theorem nodes_lay : ∀ {f : Nat} {t : VT}, FullT f t → ∀ sh, ((∀ j, j < (layT f t sh).length → nodeB (nodeAt (layT f t sh) j) = true) ↔ goodT f t) := by
  intro f
  induction f with
  | zero => intro t h; exact h.elim
  | succ f ih =>
    intro t h sh
    obtain ⟨kind, n, s, keys, kids⟩ := t
    rw [layT_eq, List.length_append, List.length_cons, List.length_nil]
    have hr : nodeB (nodeAt (accT f sh kids kids.length ++ [{ kind := kind, n := n, s := s, keys := keys, kids := ksT f sh kids kids.length }]) (accT f sh kids kids.length).length) = nodeT kind n s keys kids.length := by
      rw [nodeAt_right (Nat.le_refl _), Nat.sub_self]
      have := nodeT_eq { kind := kind, n := n, s := s, keys := keys, kids := ksT f sh kids kids.length }
      rw [ksT_len f sh kids (Nat.le_refl _)] at this
      exact this
    have ha := acc_nodes f sh kids (fun x => nodeB x = true) kids.length (Nat.le_refl _)
    constructor
    · intro hj
      refine ⟨by rw [← hr]; exact hj _ (by omega), fun i hi => ?_⟩
      refine (ih (h i hi) (sh + (accT f sh kids i).length)).1 ?_
      exact ha.1 (fun j hj' => by have := hj j (by omega); rw [nodeAt_left hj'] at this; exact this) i hi
    · rintro ⟨g1, g2⟩ j hj
      by_cases e : j < (accT f sh kids kids.length).length
      · rw [nodeAt_left e]
        exact ha.2 (fun i hi => (ih (h i hi) _).2 (g2 i hi)) j e
      · obtain rfl : j = (accT f sh kids kids.length).length := by omega
        rw [hr]; exact g1
/-- The nodes of a tree are right just where the tree is. -/
theorem ok_lay {f : Nat} {t : VT} (h : FullT f t) : okB (layT f t 0) = true ↔ (layT f t 0).length ≤ 80 ∧ goodT f t ∧ hiT f t ≤ 8 := by
  have hpos := layT_len h 0
  have htr := tr_lay h (layT f t 0) 0 (fun j hj => by rw [Nat.zero_add]; rfl)
  rw [Nat.zero_add] at htr
  have hn := nodes_lay h 0
  rw [← okB_eq]
  unfold tabB
  have hall : ((List.range (layT f t 0).length).all fun i => (tr (kidsOf (layT f t 0)) i).isSome) = true := by
    simp only [List.all_eq_true, List.mem_range]
    intro i hi
    obtain ⟨q, hq⟩ := tr_span _ _ htr i (by simp) (by omega)
    rw [hq]; rfl
  rw [hall]
  unfold rootB sizeB
  rw [htr]
  simp only [Bool.and_eq_true, decide_eq_true_eq, List.all_eq_true, List.mem_range, true_and]
  rw [hn]
  constructor
  · rintro ⟨⟨⟨_, a⟩, b⟩, c⟩; exact ⟨a, b, c⟩
  · rintro ⟨a, b, c⟩; exact ⟨⟨⟨hpos, a⟩, b⟩, c⟩
end Go.Proofs.YtagcgnhpdmhegaaGreatDoor

/-
  Plain: the nodes of a list and of a map out of those of their parts; what is wrong in a part is wrong in the whole.
-/
namespace Go.Proofs.YtagcgnhpdmhegaaGreatDoor
open Go.RowKit
set_option linter.unusedSimpArgs false
set_option linter.unusedVariables false

theorem shift_add (a b : Int) (x : VN) : shiftN a (shiftN b x) = shiftN (a + b) x := by
  unfold shiftN
  simp only [List.map_map]
  congr 1
  apply List.map_congr_left
  intro y _
  simp only [Function.comp]
  omega
theorem shift_zero (x : VN) : shiftN 0 x = x := by
  unfold shiftN
  cases x
  simp
/-- Laid further on: shifted. -/
theorem layT_shift : ∀ (f : Nat) (t : VT) (sh : Nat), layT f t sh = (layT f t 0).map (shiftN (sh : Int)) := by
  intro f
  induction f with
  | zero => intro t sh; rfl
  | succ f ih =>
    intro t sh
    obtain ⟨kind, n, s, keys, kids⟩ := t
    have hk : ∀ k, k ≤ kids.length → accT f sh kids k = (accT f 0 kids k).map (shiftN (sh : Int)) ∧ ksT f sh kids k = (ksT f 0 kids k).map (· + (sh : Int)) := by
      intro k
      induction k with
      | zero => intro _; rw [accT_zero, accT_zero, ksT_zero, ksT_zero]; exact ⟨rfl, rfl⟩
      | succ k ihk =>
        intro hk
        obtain ⟨h1, h2⟩ := ihk (by omega)
        have hl : (accT f sh kids k).length = (accT f 0 kids k).length := by rw [h1, List.length_map]
        have ha : accT f sh kids (k + 1) = (accT f 0 kids (k + 1)).map (shiftN (sh : Int)) := by
          rw [accT_succ f sh (by omega), accT_succ f 0 (by omega), List.map_append, h1, List.length_map, ih _ (sh + (accT f 0 kids k).length), ih _ (0 + (accT f 0 kids k).length), List.map_map]
          congr 1
          apply List.map_congr_left
          intro x _
          simp only [Function.comp, shift_add]
          congr 1
          omega
        refine ⟨ha, ?_⟩
        rw [ksT_succ f sh (by omega), ksT_succ f 0 (by omega), List.map_append, h2, ha, List.length_map]
        congr 1
        simp only [List.map_cons, List.map_nil, List.cons.injEq, and_true]
        omega
    obtain ⟨h1, h2⟩ := hk _ (Nat.le_refl _)
    rw [layT_eq, layT_eq, List.map_append, h1, h2]
    rfl
theorem acc_cat (f : Nat) (kids : List VT) : ∀ k, k ≤ kids.length → accT f 0 kids k = catNs (fun i => layT f (kidT kids i) 0) k ∧ ksT f 0 kids k = catKs (fun i => layT f (kidT kids i) 0) k := by
  intro k
  induction k with
  | zero => intro _; exact ⟨accT_zero _ _ _, ksT_zero _ _ _⟩
  | succ k ih =>
    intro hk
    obtain ⟨h1, h2⟩ := ih (by omega)
    have ha : accT f 0 kids (k + 1) = catNs (fun i => layT f (kidT kids i) 0) (k + 1) := by
      rw [accT_succ f 0 (by omega), catNs, h1, Nat.zero_add, layT_shift f _ (catNs _ k).length]
    refine ⟨ha, ?_⟩
    rw [ksT_succ f 0 (by omega), catKs, h2, ha, Nat.zero_add]
/-- The nodes of a list or a map of trees. -/
theorem lay_make (f : Nat) (kind : Int) (keys : List ByteArray) (kids : List VT) : layT (f + 1) (.mk kind 0 ByteArray.empty keys kids) 0 = makeNs kind keys (fun i => layT f (kidT kids i) 0) kids.length := by
  obtain ⟨h1, h2⟩ := acc_cat f kids _ (Nat.le_refl _)
  rw [layT_eq, h1, h2]
  rfl
theorem layT_more : ∀ {f g : Nat} {t : VT}, FullT f t → f ≤ g → ∀ sh, layT g t sh = layT f t sh := by
  intro f
  induction f with
  | zero => intro g t h; exact h.elim
  | succ f ih =>
    intro g t h hfg sh
    obtain ⟨g, rfl⟩ : ∃ g', g = g' + 1 := ⟨g - 1, by omega⟩
    obtain ⟨kind, n, s, keys, kids⟩ := t
    have hk : ∀ k, k ≤ kids.length → accT g sh kids k = accT f sh kids k ∧ ksT g sh kids k = ksT f sh kids k := by
      intro k
      induction k with
      | zero => intro _; rw [accT_zero, accT_zero, ksT_zero, ksT_zero]; exact ⟨rfl, rfl⟩
      | succ k ihk =>
        intro hk
        obtain ⟨h1, h2⟩ := ihk (by omega)
        have ha : accT g sh kids (k + 1) = accT f sh kids (k + 1) := by rw [accT_succ g sh (by omega), accT_succ f sh (by omega), h1, ih (h k (by omega)) (by omega)]
        exact ⟨ha, by rw [ksT_succ g sh (by omega), ksT_succ f sh (by omega), h2, ha]⟩
    obtain ⟨h1, h2⟩ := hk _ (Nat.le_refl _)
    rw [layT_eq, layT_eq, h1, h2]
theorem hiK_le {F : VT → Nat} {kids : List VT} : ∀ {m j : Nat}, j < m → F (kidT kids j) ≤ hiK F kids m := by
  intro m
  induction m with
  | zero => intro j h; omega
  | succ m ih =>
    intro j h
    rw [hiK]
    by_cases e : j = m
    · subst e; omega
    · have := ih (j := j) (by omega); omega
theorem hiK_bound {F : VT → Nat} {kids : List VT} {h : Nat} : ∀ {m : Nat}, (∀ j, j < m → F (kidT kids j) ≤ h) → hiK F kids m ≤ h := by
  intro m
  induction m with
  | zero => intro _; simp [hiK]
  | succ m ih =>
    intro hj
    rw [hiK]
    have := ih (fun j h => hj j (by omega))
    have := hj m (by omega)
    omega
/-- A part is no deeper, and has no more nodes. -/
theorem kid_hi {f : Nat} {kind n : Int} {s : ByteArray} {keys : List ByteArray} {kids : List VT} {j : Nat} (hj : j < kids.length) : hiT f (kidT kids j) + 1 ≤ hiT (f + 1) (.mk kind n s keys kids) := by
  rw [hiT]
  have := hiK_le (F := hiT f) (kids := kids) hj
  omega
theorem cat_part (L : Nat → List VN) {i m : Nat} (h : i < m) : (L i).length ≤ (catNs L m).length := by
  have h1 := catNs_mono L (show i + 1 ≤ m by omega)
  rw [catNs_len] at h1
  omega
/-- A wrong node of a part is one of the whole. -/
theorem cat_wrong {L : Nat → List VN} {i m j : Nat} (h : i < m) (hj : j < (L i).length) (hb : nodeB (nodeAt (L i) j) = false) : ∃ q, q < (catNs L m).length ∧ nodeB (nodeAt (catNs L m) q) = false := by
  induction m with
  | zero => omega
  | succ m ih =>
    by_cases e : i = m
    · subst e
      refine ⟨(catNs L i).length + j, by rw [catNs_len]; omega, ?_⟩
      rw [catNs, nodeAt_right (by omega), Nat.add_sub_cancel_left, nodeAt_map hj, nodeB_shift]
      exact hb
    · obtain ⟨q, h1, h2⟩ := ih (by omega)
      exact ⟨q, by rw [catNs_len]; omega, by rw [catNs, nodeAt_left h1]; exact h2⟩
theorem make_wrong {kind : Int} {keys : List ByteArray} {L : Nat → List VN} {i m j : Nat} (h : i < m) (hj : j < (L i).length) (hb : nodeB (nodeAt (L i) j) = false) : ∃ q, q < (makeNs kind keys L m).length ∧ nodeB (nodeAt (makeNs kind keys L m) q) = false := by
  obtain ⟨q, h1, h2⟩ := cat_wrong h hj hb
  exact ⟨q, by unfold makeNs; rw [List.length_append]; omega, by unfold makeNs; rw [nodeAt_left h1]; exact h2⟩
theorem not_ok {ns : List VN} {j : Nat} (hj : j < ns.length) (hb : nodeB (nodeAt ns j) = false) : okB ns = false := by
  cases h : okB ns
  · rfl
  · unfold okB at h
    simp only [Bool.and_eq_true, List.all_eq_true, List.mem_range] at h
    rw [(h.1.2 j hj).1] at hb
    cases hb
theorem make_len (kind : Int) (keys : List ByteArray) (L : Nat → List VN) (m : Nat) : (makeNs kind keys L m).length = (catNs L m).length + 1 := by unfold makeNs; simp
end Go.Proofs.YtagcgnhpdmhegaaGreatDoor
