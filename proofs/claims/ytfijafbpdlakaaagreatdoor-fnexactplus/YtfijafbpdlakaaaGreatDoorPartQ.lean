/-
  spec.ListOf.
-/
import Derived.Test.YtfijafbpdlakaaaGreatDoorListP
import Derived.Test.YtfijafbpdlakaaaGreatDoorVal
import Derived.Test.YtfijafbpdlakaaaGreatDoorSAdd
import Derived.Test.YtfijafbpdlakaaaGreatDoorKi
import Derived.Test.YtfijafbpdlakaaaGreatDoorGotP
import Derived.Test.YtfijafbpdlakaaaGreatDoorVAt
namespace Go.Proofs.YtfijafbpdlakaaaGreatDoor
open Go.RowKit
set_option linter.unusedSimpArgs false
set_option linter.unusedVariables false

def allB (L : Nat → List VN) (m : Nat) : Bool := (List.range m).all fun i => okB (L i)
theorem allB_yes {L : Nat → List VN} {m : Nat} (h : allB L m = true) : ∀ i, i < m → okB (L i) = true := fun i hi => by
  unfold allB at h; rw [List.all_eq_true] at h; exact h i (List.mem_range.2 hi)
theorem allB_of {L : Nat → List VN} {m : Nat} (h : ∀ i, i < m → okB (L i) = true) : allB L m = true := by
  unfold allB; rw [List.all_eq_true]; exact fun i hi => h i (List.mem_range.1 hi)
theorem allB_no {L : Nat → List VN} {m i : Nat} (hi : i < m) (h : okB (L i) = false) : allB L m = false := by
  cases e : allB L m
  · rfl
  · have := allB_yes e i hi; rw [h] at this; cases this

theorem RowsAt.below {B : Nat} {w w' : World} {v : Value} {m : Nat} {L : Nat → List VN} (h : RowsAt B w v m L) (hb : Below B w w') : RowsAt B w' v m L := by
  obtain ⟨h1, a, c, e, h2⟩ := h
  refine ⟨h1, a, c, e, fun hp => ?_⟩
  obtain ⟨b, ea, hbB, h3⟩ := h2 hp
  refine ⟨b, ea, hbB, fun i hi => ?_⟩
  obtain ⟨r, e2, hn⟩ := h3 i hi
  exact ⟨r, (below_cell hb hbB).trans e2, hn.below hb⟩

def listB (L : Nat → List VN) (m : Nat) : Bool := allB L m && decide (m ≤ 80) && okB (makeNs 5 [] L m)
def listNs (L : Nat → List VN) (m : Nat) : List VN := if listB L m = true then makeNs 5 [] L m else []

theorem near_of {L : Nat → List VN} {m : Nat} (hok : ∀ i, i < m → okB (L i) = true) : ∀ i, i < m → 0 < (L i).length ∧ ∀ j, j < (L i).length → Near (nodeAt (L i) j) := by
  intro i hi
  obtain ⟨p1, _, _, _⟩ := okB_parts (hok i hi)
  refine ⟨by omega, fun j hj => ?_⟩
  have kf := keys_few (hok i hi) j hj
  exact ⟨by omega, by omega, fun q hq => by have := kidsIn_get kf.1 hq; omega⟩

end Go.Proofs.YtfijafbpdlakaaaGreatDoor

/-
  The map of keys and values: the program's arrangement is the specification's. Plain mathematics.
-/
namespace Go.Proofs.YtfijafbpdlakaaaGreatDoor
open Go.RowKit
set_option linter.unusedSimpArgs false
set_option linter.unusedVariables false

def permL (L : Nat → List VN) (f : Nat → Int) (j : Nat) : List VN := L (f j).toNat
def keysF (l : List ByteArray) (f : Nat → Int) (m : Nat) : List ByteArray := (List.range m).map fun j => keyAt l (f j).toNat

def sortNs (l : List ByteArray) (L : Nat → List VN) (m : Nat) : Option (List VN) := match sortIn l l.length with
  | none => none
  | some (ns, ps) => some (makeNs 6 ns (fun j => L (ps.getD j 0)) m)
def mapB (l : List ByteArray) (L : Nat → List VN) (m : Nat) : Bool := allB L m && decide (m ≤ 80) && decide (l.length = m) && (match sortNs l L m with | none => false | some vs => okB vs)
def mapNs (l : List ByteArray) (L : Nat → List VN) (m : Nat) : List VN := if mapB l L m = true then (sortNs l L m).getD [] else []

theorem catNs_same {L L' : Nat → List VN} : ∀ m, (∀ i, i < m → L i = L' i) → catNs L m = catNs L' m := by
  intro m
  induction m with
  | zero => intro _; rfl
  | succ m ih => intro h; rw [catNs, catNs, ih (fun i hi => h i (by omega)), h m (by omega)]
theorem catKs_same {L L' : Nat → List VN} : ∀ m, (∀ i, i < m → L i = L' i) → catKs L m = catKs L' m := by
  intro m
  induction m with
  | zero => intro _; rfl
  | succ m ih => intro h; rw [catKs, catKs, ih (fun i hi => h i (by omega)), catNs_same (m + 1) h]
theorem makeNs_same {L L' : Nat → List VN} {m : Nat} (h : ∀ i, i < m → L i = L' i) (kind : Int) (keys : List ByteArray) : makeNs kind keys L m = makeNs kind keys L' m := by
  unfold makeNs; rw [catNs_same m h, catKs_same m h]

theorem keysF_at {l : List ByteArray} {f : Nat → Int} {m j : Nat} (h : j < m) : keyAt (keysF l f m) j = keyAt l (f j).toNat := by simp [keysF, keyAt, h]

theorem map_rises {l : List ByteArray} {L : Nat → List VN} {f : Nat → Int} {m : Nat} (h : okB (makeNs 6 (keysF l f m) L m) = true) : ∀ p, p + 1 < m → lessB (keyAt l (f p).toNat) (keyAt l (f (p + 1)).toNat) = true := by
  intro p hp
  have hn := ((okB_parts h).2.1 (catNs L m).length (by unfold makeNs; simp)).1
  unfold makeNs at hn
  rw [nodeAt_snoc_end] at hn
  unfold nodeB namedB at hn
  simp at hn
  have hr := hn.2.2
  unfold riseB at hr
  rw [List.all_eq_true] at hr
  have hk : (keysF l f m).length = m := by simp [keysF]
  have := hr (p + 1) (List.mem_range.2 (by omega))
  unfold riseAt at this
  simp only [Bool.and_eq_true, Bool.or_eq_true, decide_eq_true_eq] at this
  rcases this.2 with e | e
  · omega
  · rw [Nat.add_sub_cancel, keysF_at (by omega), keysF_at hp] at e
    exact e

theorem map_same {l : List ByteArray} {L : Nat → List VN} {m : Nat} {f : Nat → Int} (ha : (allB L m && decide (m ≤ 80)) = true) (hl : l.length = m) (hf : Blk (RK l) (fun p => (p : Int)) f 0 l.length) :
    mapB l L m = okB (makeNs 6 (keysF l f m) (permL L f) m) ∧ mapNs l L m = rightNs (makeNs 6 (keysF l f m) (permL L f) m) := by
  have e : mapB l L m = okB (makeNs 6 (keysF l f m) (permL L f) m) ∧ (okB (makeNs 6 (keysF l f m) (permL L f) m) = true → (sortNs l L m).getD [] = makeNs 6 (keysF l f m) (permL L f) m) := by
    unfold mapB
    rw [ha, hl]
    cases hs : sortIn l l.length with
    | none =>
      have hno : okB (makeNs 6 (keysF l f m) (permL L f) m) = false := by
        cases h : okB (makeNs 6 (keysF l f m) (permL L f) m)
        · rfl
        · obtain ⟨ns, ps, e⟩ := places_rise hf (fun p hp => map_rises h p (by omega))
          rw [hs] at e; cases e
      have hsn : sortNs l L m = none := by unfold sortNs; rw [hs]
      rw [hsn, hno]
      exact ⟨by simp, fun h => by cases h⟩
    | some q =>
      obtain ⟨ns, ps⟩ := q
      have hp := places_are hs hf
      have hlen := (sortIn_len hs).2
      have hk : keysF l f m = ns := by
        rw [sortIn_map hs, ← hl]
        have := congrArg (List.map fun x : Int => keyAt l x.toNat) hp
        rw [List.map_map, List.map_map] at this
        unfold keysF
        refine (Eq.trans ?_ this).trans ?_
        · rfl
        · apply List.map_congr_left; intro n _; simp
      have hL : ∀ i, i < m → (fun j => L (ps.getD j 0)) i = permL L f i := fun i hi => by
        have h1 : ((List.range l.length).map f)[i]? = some (f i) := by rw [List.getElem?_map, List.getElem?_range (by omega)]; rfl
        rw [hp, List.getElem?_map] at h1
        rw [List.getElem?_eq_getElem (by omega)] at h1
        simp at h1
        unfold permL
        simp only
        rw [List.getD_eq_getElem?_getD, List.getElem?_eq_getElem (by omega), ← h1]
        simp
      have hsn : sortNs l L m = some (makeNs 6 (keysF l f m) (permL L f) m) := by
        unfold sortNs; rw [hs, hk]; simp only; rw [makeNs_same hL]
      rw [hsn]
      exact ⟨by simp, fun _ => rfl⟩
  refine ⟨e.1, ?_⟩
  unfold mapNs rightNs
  rw [e.1]
  split
  · rename_i h; exact e.2 h
  · rfl
end Go.Proofs.YtfijafbpdlakaaaGreatDoor

/-
  spec.PartsOf: the rows of the parts' nodes.
-/
namespace Go.Proofs.YtfijafbpdlakaaaGreatDoor
open Go.RowKit
set_option linter.unusedSimpArgs false
set_option linter.unusedVariables false

theorem infoRow : (Tryz.prog.info? 24).map (fun i => (i.zero, i.size, i.bytes)) = some (some (.slice none 0 0), 1, 24) := by kernel_rfl

/-- The root's kids, and their nodes. -/
def rootKids (vs : List VN) : List Int := (nodeAt vs (vs.length - 1)).kids
def PL (vs : List VN) (i : Nat) : List VN := partOf vs (intAt (rootKids vs) i).toNat
def partsN (vs : List VN) : Nat := if okB vs = true then (rootKids vs).length else 0

theorem root_kid {vs : List VN} (hok : okB vs = true) {k : Nat} (hk : k < (rootKids vs).length) : ∃ q : Nat, intAt (rootKids vs) k = (q : Int) ∧ q + 1 < vs.length := by
  obtain ⟨p1, p2, _, _⟩ := okB_parts hok
  have := kidsIn_get (p2 (vs.length - 1) (by omega)).2 hk
  refine ⟨(intAt (rootKids vs) k).toNat, ?_, ?_⟩
  · unfold rootKids; omega
  · unfold rootKids; omega

theorem PL_few {vs : List VN} (hf : ∀ i, i < vs.length → Fits (nodeAt vs i)) : partsN vs ≤ 80 ∧ ∀ i, i < partsN vs → Few (PL vs i) ∧ ∀ j, j < (PL vs i).length → Fits (nodeAt (PL vs i) j) := by
  unfold partsN
  by_cases hok : okB vs = true
  · rw [if_pos hok]
    obtain ⟨p1, _, _, p4⟩ := okB_parts hok
    refine ⟨by have := p4 (vs.length - 1) (by omega); unfold rootKids; omega, fun i hi => ?_⟩
    obtain ⟨q, hq, hql⟩ := root_kid hok hi
    have e : PL vs i = partOf vs q := by unfold PL; rw [hq]; simp
    rw [e]
    have hp := part_fits hok hf (m := q) (by omega)
    exact ⟨⟨(lay_part hok (Nat.lt_succ_self q) (by omega)).2, fun j hj => (hp j hj).2⟩, fun j hj => (hp j hj).1⟩
  · rw [if_neg hok]
    exact ⟨by omega, fun i hi => absurd hi (by omega)⟩

set_option maxRecDepth 100000 in
set_option maxHeartbeats 3200000 in
theorem l1Parts_any (B : Nat) (v : Value) (vs : List VN) (w : World) (h : NodesAt B w v vs) (hB : B ≤ w.heap.size) (hok : okB vs = true) :
    Calls Tryz.prog 58 #[v] w fun e w' => ∃ r rs KV IV lo, e = .returned r ∧ Rows2 w.heap.size w' r (rootKids vs).length (PL vs) rs KV IV lo ∧ Below w.heap.size w w' := by
  have HV := hideIt h
  obtain ⟨hlen, av, cap, rfl, hcell⟩ := h
  obtain ⟨p1, _, p3, _⟩ := okB_parts hok
  obtain ⟨b0, o0, rfl, hb0, hc⟩ := hcell (by omega)
  obtain ⟨ka, ki, hn1⟩ := hc (vs.length - 1) (by omega)
  have HN1 := hideIt hn1
  have HP3 := hideIt p3
  have HKF := hideIt (keys_few hok)
  have HRK := hideIt (fun k hk => root_kid (k := k) hok hk)
  obtain ⟨i0, hi0, hz0, hs0, hy0⟩ := info_parts infoRow
  obtain ⟨_, hkb, aI, cI, eI, hki⟩ := hn1.inn.kids
  subst eI
  have hb1 : Below w.heap.size w (w.alloc (.cells #[] 24)) := (Below.refl _ _).alloc (Nat.le_refl _) _
  have c4 := (below_cell (o := o0 + (vs.length - 1) * 5 + 4) hb1 (show b0 < w.heap.size by omega)).trans hn1.c4
  have HKI := hideIt hki
  have p0 : ((vs.length : Int) - 1).toNat = vs.length - 1 := by omega
  have HR0 := hideIt (Rows2.start (base := w.heap.size) (World.ownsRow_lit w #[] 0 (Nat.le_refl _) (by simp [maxLen]) rfl) (by simp) (PL vs))
  have HB1 := hideIt hb1
  have hkl : (rootKids vs).length = (nodeAt vs (vs.length - 1)).kids.length := rfl
  have HKL := hideIt hkl
  have hk80 : (nodeAt vs (vs.length - 1)).kids.length ≤ 80 := (HKF.out (vs.length - 1) (by omega)).2.1
  obtain ⟨M, hM⟩ : ∃ M, (nodeAt vs (vs.length - 1)).kids.length = M := ⟨_, rfl⟩
  have HM := hideIt hM
  rw [hM] at c4 hk80
  clear hcell hc hn1 hki p3 hb1 hkl hM
  go_enter Tryz.func58, Tryz.ntmps58
  go_wp2_with fail
  go_loopw [3, 5] (fun o i wr => ∃ (k : Nat) (rs : Nat → Value) (KV IV : Nat → Nat → Value) (lo : Nat → Nat), k ≤ M ∧ i = .int .i64 k ∧ Rows2 w.heap.size wr o k (PL vs) rs KV IV lo ∧ Below w.heap.size w wr) (fun _ i _ => M - (intOf i).toNat)
  case atStart => exact ⟨0, _, _, _, _, Nat.zero_le _, rfl, HR0.out, HB1.out⟩
  case round =>
    obtain ⟨k, rs, KV, IV, lo, hk, rfl, hrows, hbl⟩ := hrel
    have HR := hideIt hrows
    have zs := hbl.size
    obtain ⟨ao, co, eo⟩ := own_slice hrows.row
    subst eo
    clear hrows
    by_cases hlt : k < M
    · obtain ⟨q, hq, hql⟩ := HRK.out k (by rw [HKL.out, HM.out]; exact hlt)
      obtain ⟨bk, ok, rfl, hbk, hck⟩ := HKI.out (by rw [HM.out]; omega)
      have hcq : wr.cell? ⟨bk, ok + k, none⟩ = some (.int .i64 (q : Int)) := by
        have := hck k (by rw [HM.out]; exact hlt)
        rw [← hq]
        exact (below_cell hbl (by omega)).trans this
      obtain ⟨⟨a0, h0⟩, htr⟩ := HP3.out q (by omega)
      have HTR := hideIt htr
      have HPL : Hid (run vs (-(a0 : Int)) a0 (q + 1 - a0) = PL vs k) := by rw [Hid]; unfold PL; rw [hq, Int.toNat_natCast, partOf, htr]; simp [trF]
      clear htr hq hck
      go_wp2_with fail
      refine (l1Part_any B _ vs q a0 h0 wr (HV.out.below (hbl.mono hB)) (by omega) p1.2 HKF.out (by omega) HTR.out).mono ?_
      rintro e w3 ⟨r, K, I, rfl, hn3, hb3⟩
      rw [HPL.out] at hn3
      have HN3 := hideIt hn3
      obtain ⟨ar, cr, er⟩ := own_slice hn3.row
      obtain ⟨Lk, hLk⟩ : ∃ Lk, (PL vs k).length = Lk := ⟨_, rfl⟩
      rw [hLk] at er
      subst er
      have HB3 := hideIt hb3
      have z3 := hb3.size
      have HROW := hideIt (HR.out.below hb3).row
      clear hn3 hb3 hLk
      go_wp2_with (at_builtin; refine wpList_append_own_at _ rfl _ _ 36 rfl w.heap.size 24 i0 (.slice none 0 0) 1 24 Tryz.underlying36 hi0 hz0 hs0 hy0 rfl (by decide) _ _ _ rfl (HROW.out.alloc _) ⟨w3.heap.size, 0, none⟩ 1 1 [.slice ar Lk cr] rfl rfl ?c1 ?c2 ?c3 ?c4 ?c5 ?_)
      case c1 => exact cell_one_new _ _ _
      case c2 => intro u hu; simp at hu; subst hu; rfl
      case c3 => unfold maxLen; omega
      case c4 => omega
      case c5 => simp; omega
      intro v' w5 hown hgrow _ _
      have HR5 := hideIt (HR.out.snoc HB3.out HN3.out hown hgrow)
      have HB5 : Hid (Below w.heap.size w w5) := ((hbl.trans (HB3.out.mono zs)).alloc (by omega) _).grown hgrow (by simp; omega) (fun x hx => (HROW.out.lt x hx).1)
      clear hown hgrow
      go_wp2_with fail
      go_roundw
      case rel => exact ⟨k + 1, _, _, _, _, by omega, by go_num, HR5.out, HB5.out⟩
      case measure => simp [intOf]; omega
    · obtain rfl : k = M := by omega
      go_wp2_with fail
      go_ret
      exact ⟨_, _, _, _, _, rfl, by rw [HKL.out, HM.out]; exact HR.out, hbl⟩

end Go.Proofs.YtfijafbpdlakaaaGreatDoor

/-
  A list is of its parts, a map of its keys and its parts: plain mathematics.
-/
namespace Go.Proofs.YtfijafbpdlakaaaGreatDoor
open Go.RowKit
set_option linter.unusedSimpArgs false
set_option linter.unusedVariables false

theorem shiftN_zero (x : VN) : shiftN 0 x = x := by cases x; simp [shiftN]
theorem shiftN_shiftN (a b : Int) (x : VN) : shiftN a (shiftN b x) = shiftN (a + b) x := by
  cases x
  simp only [shiftN, List.map_map]
  congr 1
  apply List.map_congr_left
  intro k _
  simp only [Function.comp]
  omega

/-- A part's nodes, laid from sh on. -/
theorem lay_at {vs : List VN} (hok : okB vs = true) {f m : Nat} (hf : m < f) (hm : m < vs.length) (sh : Nat) : layT f (treeOf vs f m) sh = (partOf vs m).map (shiftN (sh : Int)) := by
  obtain ⟨p1, _, p3, _⟩ := okB_parts hok
  obtain ⟨⟨a0, h0⟩, htr⟩ := p3 m hm
  have e : partOf vs m = run vs (-(a0 : Int)) a0 (m + 1 - a0) := by rw [partOf, htr]; simp [trF]
  rw [← lay_tree, lay_run vs f m sh a0 h0 hf htr, e]
  unfold run
  rw [List.map_map]
  apply List.map_congr_left
  intro k _
  simp only [Function.comp]
  rw [shiftN_shiftN]
  rfl

theorem lay_whole {vs : List VN} (hok : okB vs = true) : layT 81 (treeOf vs 81 (vs.length - 1)) 0 = vs := by
  obtain ⟨p1, _, _, _⟩ := okB_parts hok
  obtain ⟨h, htr⟩ := root_first hok
  rw [← lay_tree, lay_run vs 81 (vs.length - 1) 0 0 h (by omega) htr]
  have e : vs.length - 1 + 1 - 0 = vs.length := by omega
  rw [e]
  have e2 : (((0 : Nat) : Int) - ((0 : Nat) : Int)) = 0 := by omega
  rw [e2, run_all]
  have : (shiftN 0) = id := by funext x; exact shiftN_zero x
  rw [this, List.map_id]

def partTs (vs : List VN) : List VT := (rootKids vs).map fun k => treeOf vs 80 k.toNat

theorem cat_parts {vs : List VN} (hok : okB vs = true) : ∀ k, k ≤ (rootKids vs).length → accT 80 0 (partTs vs) k = catNs (PL vs) k ∧ ksT 80 0 (partTs vs) k = catKs (PL vs) k := by
  have hlen : (partTs vs).length = (rootKids vs).length := by simp [partTs]
  have p1 := (okB_parts hok).1
  intro k
  induction k with
  | zero => intro _; exact ⟨accT_zero _ _ _, ksT_zero _ _ _⟩
  | succ k ih =>
    intro hk
    obtain ⟨h1, h2⟩ := ih (by omega)
    have hlt : k < (partTs vs).length := by omega
    obtain ⟨q, hq, hql⟩ := root_kid hok (k := k) (by omega)
    have hkt : kidT (partTs vs) k = treeOf vs 80 q := by unfold partTs; rw [kidT_map (by omega), hq]; simp
    have hpl : PL vs k = partOf vs q := by unfold PL; rw [hq]; simp
    have e : accT 80 0 (partTs vs) (k + 1) = catNs (PL vs) (k + 1) := by
      rw [accT_succ 80 0 hlt, h1, hkt, lay_at hok (by omega) (by omega), Nat.zero_add, catNs, hpl]
    refine ⟨e, ?_⟩
    rw [ksT_succ 80 0 hlt, h2, e, Nat.zero_add]
    rfl

/-- A list or a map is made of its parts again. -/
theorem make_parts {vs : List VN} (hok : okB vs = true) (hk : (nodeAt vs (vs.length - 1)).kind = 5 ∨ (nodeAt vs (vs.length - 1)).kind = 6) : makeNs (nodeAt vs (vs.length - 1)).kind (nodeAt vs (vs.length - 1)).keys (PL vs) (rootKids vs).length = vs := by
  have hw := lay_whole hok
  rw [treeOf, layT_eq] at hw
  have hlen : (partTs vs).length = (rootKids vs).length := by simp [partTs]
  obtain ⟨c1, c2⟩ := cat_parts hok _ (Nat.le_refl _)
  have e1 : ((nodeAt vs (vs.length - 1)).kids.map fun k => treeOf vs 80 k.toNat) = partTs vs := rfl
  rw [e1, hlen, c1, c2] at hw
  have p1 := (okB_parts hok).1
  have hn := ((okB_parts hok).2.1 (vs.length - 1) (by omega)).1
  have hz : (nodeAt vs (vs.length - 1)).n = 0 ∧ (nodeAt vs (vs.length - 1)).s = ByteArray.empty := by
    unfold nodeB unnamedB at hn
    have es : ∀ s : ByteArray, s.toList = [] → s = ByteArray.empty := fun s h => by
      cases s with | mk d => rw [ByteArray.toList_eq] at h; simp at h; subst h; rfl
    simp only [Bool.and_eq_true, Bool.not_eq_true', Bool.and_eq_false_iff, decide_eq_false_iff_not, Decidable.not_not, Nat.not_lt, Nat.le_zero, List.length_eq_zero_iff] at hn
    obtain ⟨⟨⟨⟨n1, n2⟩, n3⟩, n4⟩, _⟩ := hn
    exact ⟨by omega, es _ (by rcases n2 with h | h; omega; exact h)⟩
  rw [hz.1, hz.2] at hw
  exact hw

theorem parts_ok {vs : List VN} (hok : okB vs = true) : allB (PL vs) (rootKids vs).length = true ∧ (rootKids vs).length ≤ 80 := by
  have p := okB_parts hok
  refine ⟨allB_of fun i hi => ?_, (keys_few hok (vs.length - 1) (by have := p.1; omega)).2.1⟩
  obtain ⟨q, hq, hql⟩ := root_kid hok hi
  have e : PL vs i = partOf vs q := by unfold PL; rw [hq]; simp
  rw [e]
  exact part_okB hok (by omega)

/-- A list is of its parts. -/
theorem list_parts {vs : List VN} (hok : okB vs = true) (hk : (nodeAt vs (vs.length - 1)).kind = 5) : listB (PL vs) (rootKids vs).length = true ∧ listNs (PL vs) (rootKids vs).length = vs := by
  have hm := make_parts hok (Or.inl hk)
  have p1 := (okB_parts hok).1
  have hn := ((okB_parts hok).2.1 (vs.length - 1) (by omega)).1
  have hz : (nodeAt vs (vs.length - 1)).keys = [] := by
    unfold nodeB unnamedB at hn
    simp only [Bool.and_eq_true, Bool.not_eq_true', Bool.and_eq_false_iff, decide_eq_false_iff_not, Decidable.not_not, Nat.not_lt, Nat.le_zero, List.length_eq_zero_iff] at hn
    obtain ⟨⟨⟨⟨n1, n2⟩, n3⟩, n4⟩, _⟩ := hn
    rcases n3 with h | h
    · omega
    · exact h
  rw [hk, hz] at hm
  obtain ⟨a1, a2⟩ := parts_ok hok
  have e : listB (PL vs) (rootKids vs).length = true := by unfold listB; rw [a1, hm, hok]; simp [a2]
  exact ⟨e, by unfold listNs; rw [if_pos e, hm]⟩

theorem rise_steps {l : List ByteArray} (h : riseB l = true) : ∀ p, p + 1 < l.length → lessB (keyAt l p) (keyAt l (p + 1)) = true := by
  intro p hp
  unfold riseB at h
  rw [List.all_eq_true] at h
  have := h (p + 1) (List.mem_range.2 hp)
  unfold riseAt at this
  simp only [Bool.and_eq_true, Bool.or_eq_true, decide_eq_true_eq] at this
  rcases this.2 with e | e
  · omega
  · rw [Nat.add_sub_cancel] at e; exact e

theorem rise_blk {l : List ByteArray} (h : riseB l = true) : Blk (RK l) (fun p => (p : Int)) (fun p => (p : Int)) 0 l.length := by
  refine ⟨fun p _ hp => ⟨p, Nat.zero_le _, hp, rfl⟩, ?_⟩
  have hall : ∀ d p, p + d + 1 < l.length → RK l (p : Int) ((p + d + 1 : Nat) : Int) := by
    intro d
    induction d with
    | zero => intro p hp; exact cfK_less (rise_steps h p hp)
    | succ d ih =>
      intro p hp
      exact (rk_tot l).tr _ _ _ (ih p (by omega)) (cfK_less (rise_steps h (p + d + 1) (by omega)))
  intro p q _ hpq hq
  have := hall (q - p - 1) p (by omega)
  have e : p + (q - p - 1) + 1 = q := by omega
  rw [e] at this
  exact this

/-- A map is of its keys and its parts. -/
theorem map_parts {vs : List VN} (hok : okB vs = true) (hk : (nodeAt vs (vs.length - 1)).kind = 6) : mapB (nodeAt vs (vs.length - 1)).keys (PL vs) (rootKids vs).length = true ∧ mapNs (nodeAt vs (vs.length - 1)).keys (PL vs) (rootKids vs).length = vs := by
  have hm := make_parts hok (Or.inr hk)
  have p1 := (okB_parts hok).1
  have hn := ((okB_parts hok).2.1 (vs.length - 1) (by omega)).1
  have hz : (nodeAt vs (vs.length - 1)).keys.length = (rootKids vs).length ∧ riseB (nodeAt vs (vs.length - 1)).keys = true := by
    unfold nodeB namedB at hn
    simp [hk] at hn
    exact hn.2
  rw [hk] at hm
  obtain ⟨a1, a2⟩ := parts_ok hok
  obtain ⟨m1, m2⟩ := map_same (l := (nodeAt vs (vs.length - 1)).keys) (L := PL vs) (m := (rootKids vs).length) (f := fun p => (p : Int)) (by rw [a1]; simp [a2]) hz.1 (rise_blk hz.2)
  have e1 : keysF (nodeAt vs (vs.length - 1)).keys (fun p => (p : Int)) (rootKids vs).length = (nodeAt vs (vs.length - 1)).keys := by
    rw [← hz.1]
    apply List.ext_getElem?
    intro j
    by_cases hj : j < (nodeAt vs (vs.length - 1)).keys.length
    · simp [keysF, hj, keyAt]
    · simp [keysF, hj]
  have e2 : permL (PL vs) (fun p => (p : Int)) = PL vs := by funext j; simp [permL]
  rw [e1, e2, hm] at m1 m2
  rw [hok] at m1
  refine ⟨m1, ?_⟩
  rw [m2]
  unfold rightNs
  simp [hok]
end Go.Proofs.YtfijafbpdlakaaaGreatDoor
