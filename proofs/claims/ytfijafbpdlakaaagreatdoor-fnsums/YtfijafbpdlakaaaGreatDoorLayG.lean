/-
  slices.Grow at a row of values, laid by program.
-/
import Derived.Shelf.SlGeneric
import Derived.Shelf.Spec.SlicesGrow
import Derived.Test.YtfijafbpdlakaaaGreatDoorProg
import Derived.Test.YtfijafbpdlakaaaGreatDoorIMinA
import Derived.Test.YtfijafbpdlakaaaGreatDoorSpc2
import Derived.Test.YtfijafbpdlakaaaGreatDoorIPls0
import Derived.Test.YtfijafbpdlakaaaGreatDoorOrd
namespace Go.Proofs
open Go.Shelf
def Tryz.growV_ren : Go.Shelf.Ren := ⟨fun | 4 => 76 | n => n, fun | 22 => 57 | 25 => 54 | 3 => 3 | 4 => 4 | 9 => 9 | 20 => 20 | 0 => 0 | n => n, fun | n => n⟩
theorem Tryz.growV : Go.Proofs.Lays8.n4 Tryz.prog Tryz.growV_ren := {
  mixed := by kernel_rfl
  f4 := ⟨Tryz.f76.name, by decide, Tryz.func76.trans (congrArg some (by kernel_rfl))⟩
  t0 := Tryz.underlying0
  a0 := Tryz.isAgg0
  z0 := Tryz.sizeOf0
  v0 := Tryz.zeroValue0
  t3 := Tryz.underlying3
  a3 := Tryz.isAgg3
  z3 := Tryz.sizeOf3
  v3 := Tryz.zeroValue3
  t4 := Tryz.underlying4
  a4 := Tryz.isAgg4
  z4 := Tryz.sizeOf4
  v4 := Tryz.zeroValue4
  t9 := Tryz.underlying9
  a9 := Tryz.isAgg9
  z9 := Tryz.sizeOf9
  v9 := Tryz.zeroValue9
  t20 := Tryz.underlying20
  a20 := Tryz.isAgg20
  z20 := Tryz.sizeOf20
  v20 := Tryz.zeroValue20
  t22 := Tryz.underlying57
  a22 := Tryz.isAgg57
  z22 := Tryz.sizeOf57
  v22 := Tryz.zeroValue57 }
end Go.Proofs

/-
  slices.Concat at two rows of values.
-/
namespace Go.Proofs.YtfijafbpdlakaaaGreatDoor
open Go.RowKit
set_option linter.unusedSimpArgs false
set_option linter.unusedVariables false

set_option maxRecDepth 100000 in
theorem grow_any (n : Nat) (w : World) (hn : n ≤ 4000) :
    Calls Tryz.prog 76 #[.slice none 0 0, .int .i64 n] w fun e w' => ∃ r, e = .returned r ∧ w'.ownsRow w.heap.size 54 1 r 0 [] ∧ Below w.heap.size w w' := by
  obtain ⟨i0, hi0, hz0, hs0, hy0⟩ := info_parts infoVal
  rcases Nat.eq_zero_or_pos n with e0 | e0
  · subst e0
    have h : Calls Tryz.prog 76 #[.slice none 0 0, .int .i64 (0 : Nat)] w _ := Any8.slices_Grow_room Tryz.growV none 0 0 0 w (Nat.le_refl _) (by omega) (by omega) (by omega)
    refine h.mono ?_
    rintro e w' ⟨rfl, rfl⟩
    exact ⟨_, rfl, World.ownsRow_nil _ _ _ _, Below.refl _ _⟩
  · have h : Calls Tryz.prog 76 #[.slice none 0 0, .int .i64 n] w _ := Any8.slices_Grow_grow Tryz.growV i0 .nilIface hi0 hz0 (by omega) none 0 0 n [] w (Nat.le_refl _) (by omega) (by rw [hy0]; omega) (by omega) (by simp) (fun _ => rfl) (fun a h => by cases h)
    refine h.mono ?_
    rintro e w' ⟨rfl, rfl⟩
    have hge := grownCap_ge w (0 + n) 0 54
    have hle := grownCap_le_maxLen w (0 + n) 0 54 (by unfold maxLen; omega)
    refine ⟨_, rfl, World.ownsRow_made (base := w.heap.size) (e := 54) (size := 1) w.drew _ _ (Nat.le_refl _) hle ?_, ((Below.refl w.heap.size w).drew).alloc (Nat.le_refl _) _⟩
    have h1 : (Value.nilIface).cells.size = 1 := rfl
    have hge' : 0 + n ≤ grownCap w (0 + n) 0 (Tryz.growV_ren.t 25) := hge
    rw [Array.size_append, Array.size_append, size_zeroCells, size_zeroCells, h1]
    simp
    simp at hge'
    omega

theorem vals_src {w w' : World} {b : Option Addr} {m cap : Nat} {V : Nat → Value} (h : ValsAt w (.slice b m cap) m V) (hb : Below w.heap.size w w') : 0 < m → ∃ ad, b = some ad ∧ ∀ j u, ((List.range m).map V)[j]? = some u → w'.cell? (ad.add j) = some u := by
  intro hp
  obtain ⟨a, c, e, hc, hi⟩ := h
  cases e
  obtain ⟨g, rfl, hg, hcc⟩ := hc hp
  refine ⟨_, rfl, fun j u hj => ?_⟩
  have hj' : j < m := by have := (List.getElem?_eq_some_iff.1 hj).1; simpa using this
  rw [show (⟨g, 0, none⟩ : Addr).add j = ⟨g, j, none⟩ by simp [Addr.add]; omega, below_cell hb hg, hcc j hj']
  simpa [hj'] using hj

theorem vals_one {w : World} {it : Value} {m : Nat} {V : Nat → Value} (h : ValsAt w it m V) : ∀ u ∈ (List.range m).map V, u.oneCell' = true := by
  intro u hu
  obtain ⟨j, hj, rfl⟩ := List.mem_map.1 hu
  obtain ⟨a, c, e, hc, hi⟩ := h
  obtain ⟨t, x, ex⟩ := hi j (by simpa using hj)
  rw [ex]; rfl

set_option maxRecDepth 100000 in
set_option maxHeartbeats 3200000 in
theorem concat_any (b : Nat) (it it' : Value) (m m' : Nat) (V V' : Nat → Value) (w : World) (hv : ValsAt w it m V) (hv' : ValsAt w it' m' V') (hm : m ≤ 1000) (hm' : m' ≤ 1000) (c0 : w.cell? ⟨b, 0, none⟩ = some it) (c1 : w.cell? ⟨b, 1, none⟩ = some it') (hb : b < w.heap.size) :
    Calls Tryz.prog 54 #[.slice (some ⟨b, 0, none⟩) 2 2] w fun e w' => ∃ r, e = .returned r ∧ w'.ownsRow w.heap.size 54 1 r (m + m') ((List.range m).map V ++ (List.range m').map V') ∧ Below w.heap.size w w' := by
  have HV := hideIt hv
  have HV' := hideIt hv'
  have C0 := hideIt c0
  have C1 := hideIt c1
  obtain ⟨i0, hi0, hz0, hs0, hy0⟩ := info_parts infoVal
  obtain ⟨a1, k1, rfl, _, _⟩ := hv
  obtain ⟨a2, k2, rfl, _, _⟩ := hv'
  go_enter Tryz.func54, Tryz.ntmps54
  go_wp2_with fail
  go_loop [3, 5, 11] (fun sz _ i => (i = .int .i64 0 ∧ sz = .int .i64 0) ∨ (i = .int .i64 1 ∧ sz = .int .i64 (m : Nat)) ∨ (i = .int .i64 2 ∧ sz = .int .i64 ((m : Int) + (m' : Int)))) (fun _ _ i => 2 - (intOf i).toNat)
  case atStart => exact Or.inl ⟨rfl, rfl⟩
  case round =>
    rcases hrel with ⟨rfl, rfl⟩ | ⟨rfl, rfl⟩ | ⟨rfl, rfl⟩
    · go_wp2_with fail
      exact ⟨Or.inr (Or.inl ⟨rfl, rfl⟩), by simp [intOf]⟩
    · have h0 : ¬ ((m : Int) + (m' : Int) < 0) := by omega
      go_wp2_with fail
      exact ⟨Or.inr (Or.inr ⟨rfl, rfl⟩), by simp [intOf]⟩
    · have HG := hideIt (grow_any (m + m') w (by omega))
      rw [show (((m + m' : Nat) : Nat) : Int) = (m : Int) + (m' : Int) by omega] at HG
      clear c0 c1
      go_wp2_with fail
      refine HG.out.mono ?_
      rintro e w1 ⟨r, rfl, hown, hb1⟩
      have HO := hideIt hown
      have HB1 := hideIt hb1
      obtain ⟨ar, cr, er⟩ := own_slice hown
      subst er
      clear hown hb1
      go_wp2_with fail
      go_loopw [6, 8, 27] (fun o _ i wr => Hid (Below w.heap.size w wr) ∧ ((i = .int .i64 0 ∧ Hid (wr.ownsRow w.heap.size 54 1 o 0 [])) ∨ (i = .int .i64 1 ∧ Hid (wr.ownsRow w.heap.size 54 1 o m ((List.range m).map V))) ∨ (i = .int .i64 2 ∧ Hid (wr.ownsRow w.heap.size 54 1 o (m + m') ((List.range m).map V ++ (List.range m').map V'))))) (fun _ _ i _ => 2 - (intOf i).toNat)
      case atStart => exact ⟨HB1, Or.inl ⟨rfl, HO⟩⟩
      case round =>
        obtain ⟨HB, hrel⟩ := hrel
        have zs := HB.out.size
        rcases hrel with ⟨rfl, HR⟩ | ⟨rfl, HR⟩ | ⟨rfl, HR⟩
        · obtain ⟨ao, co, eo⟩ := own_slice HR.out
          subst eo
          have x0 : wr.cell? ⟨b, 0, none⟩ = some (.slice a1 m k1) := (below_cell HB.out hb).trans C0.out
          have HSRC := hideIt (vals_src HV.out HB.out)
          go_wp2_with (at_builtin; refine wpList_append_src rfl _ _ 57 rfl w.heap.size 54 i0 .nilIface 1 16 Tryz.underlying57 hi0 hz0 hs0 hy0 rfl (by decide) _ 0 [] rfl HR.out a1 m k1 ((List.range m).map V) rfl (by simp) HSRC.out (vals_one HV.out) ?c3 ?c4 ?c5 ?_)
          case c3 => unfold maxLen; omega
          case c4 => omega
          case c5 => exact zs
          intro v' w5 hown hgrow _
          have HR5 : Hid (w5.ownsRow w.heap.size 54 1 v' m ((List.range m).map V)) := by simpa [Hid] using hown
          have HB5 : Hid (Below w.heap.size w w5) := HB.out.grown hgrow zs (fun y hy => (HR.out.lt y hy).1)
          obtain ⟨av, cv, ev⟩ := own_slice HR5.out
          subst ev
          clear hown hgrow
          go_wp2_with fail
          go_roundw
          case rel => exact ⟨HB5, Or.inr (Or.inl ⟨rfl, HR5⟩)⟩
          case measure => simp [intOf]
        · obtain ⟨ao, co, eo⟩ := own_slice HR.out
          subst eo
          have x1 : wr.cell? ⟨b, 1, none⟩ = some (.slice a2 m' k2) := (below_cell HB.out hb).trans C1.out
          have HSRC := hideIt (vals_src HV'.out HB.out)
          go_wp2_with (at_builtin; refine wpList_append_src rfl _ _ 57 rfl w.heap.size 54 i0 .nilIface 1 16 Tryz.underlying57 hi0 hz0 hs0 hy0 rfl (by decide) _ m _ rfl HR.out a2 m' k2 ((List.range m').map V') rfl (by simp) HSRC.out (vals_one HV'.out) ?c3 ?c4 ?c5 ?_)
          case c3 => unfold maxLen; omega
          case c4 => omega
          case c5 => exact zs
          intro v' w5 hown hgrow _
          have HR5 := hideIt hown
          have HB5 : Hid (Below w.heap.size w w5) := HB.out.grown hgrow zs (fun y hy => (HR.out.lt y hy).1)
          obtain ⟨av, cv, ev⟩ := own_slice hown
          subst ev
          clear hown hgrow
          go_wp2_with fail
          go_roundw
          case rel => exact ⟨HB5, Or.inr (Or.inr ⟨rfl, HR5⟩)⟩
          case measure => simp [intOf]
        · obtain ⟨ao, co, eo⟩ := own_slice HR.out
          subst eo
          go_wp2_with fail
          go_ret
          exact ⟨_, rfl, HR.out, HB.out⟩
end Go.Proofs.YtfijafbpdlakaaaGreatDoor

/-
  A row of trees, laid as nodes; a row of values, read as trees.
-/
namespace Go.Proofs.YtfijafbpdlakaaaGreatDoor
open Go.RowKit
set_option linter.unusedSimpArgs false
set_option linter.unusedVariables false

theorem lay_gen {F : Nat} {kind : Int} {keys : List ByteArray} {ts : List VT} {L : Nat → List VN} (h : ∀ k, k < ts.length → ∃ vs q, okB vs = true ∧ q < F ∧ q < vs.length ∧ kidT ts k = treeOf vs F q ∧ L k = partOf vs q) :
    layT (F + 1) (.mk kind 0 ByteArray.empty keys ts) 0 = makeNs kind keys L ts.length := by
  have hcat : ∀ k, k ≤ ts.length → accT F 0 ts k = catNs L k ∧ ksT F 0 ts k = catKs L k := by
    intro k
    induction k with
    | zero => intro _; exact ⟨accT_zero _ _ _, ksT_zero _ _ _⟩
    | succ k ih =>
      intro hk
      obtain ⟨h1, h2⟩ := ih (by omega)
      obtain ⟨vs, q, hok, hq, hql, hkt, hpl⟩ := h k (by omega)
      have e : accT F 0 ts (k + 1) = catNs L (k + 1) := by
        rw [accT_succ F 0 (by omega), h1, hkt, lay_at hok (by omega) (by omega), Nat.zero_add, catNs, hpl]
      refine ⟨e, ?_⟩
      rw [ksT_succ F 0 (by omega), h2, e, Nat.zero_add]
      rfl
  rw [layT_eq]
  obtain ⟨c1, c2⟩ := hcat _ (Nat.le_refl _)
  rw [c1, c2]
  rfl

/-- A row that the call owns, whose values are trees. -/
theorem row_trees {w : World} {base : Nat} {r : Value} {V : Nat → Value} {F n : Nat} {ts : List VT} (hn : ts.length = n) (hb : n ≤ 1000) (hr : w.ownsRow base 54 1 r n ((List.range n).map V)) (hV : ∀ j, j < n → TreeAt w.heap.size w F (kidT ts j) (V j)) :
    TItems w.heap.size w r ts.length (fun j u => TreeAt w.heap.size w F (kidT ts j) u) := by
  rw [hn]
  obtain ⟨a, c, e⟩ := own_slice hr
  subst e
  refine ⟨by omega, a, c, rfl, fun hp => ?_⟩
  obtain ⟨g, cap, e, _, hlt⟩ := hr.form hp
  cases e
  refine ⟨g, rfl, hlt, fun j hj => ?_⟩
  obtain ⟨t, x, ex⟩ := (hV j hj).iface
  refine ⟨t, x, ?_, ?_⟩
  · rw [hr.cellAt j (by omega), List.getElem?_map, List.getElem?_range hj]
    simp only [Option.map_some, ex]
  · rw [← ex]; exact hV j hj

theorem range_both (V V' : Nat → Value) (m m' : Nat) : (List.range m).map V ++ (List.range m').map V' = (List.range (m + m')).map (fun j => if j < m then V j else V' (j - m)) := by
  apply List.ext_getElem
  · simp
  · intro i h1 h2
    have hi : i < m + m' := by simpa using h2
    rw [List.getElem_append]
    split
    · rename_i h; have : i < m := by simpa using h
      simp [this]
    · rename_i h; have : ¬ i < m := by simpa using h
      simp [this]

/-! ### Two lists, one behind the other -/
def bothTs (us vs : List VN) (F : Nat) : List VT := (rootKids us).map (fun k => treeOf us F k.toNat) ++ (rootKids vs).map (fun k => treeOf vs F k.toNat)

theorem both_len (us vs : List VN) (F : Nat) : (bothTs us vs F).length = (rootKids us).length + (rootKids vs).length := by simp [bothTs]

theorem both_at1 (us vs : List VN) (F : Nat) {j : Nat} (h : j < (rootKids us).length) : kidT (bothTs us vs F) j = treeOf us F (intAt (rootKids us) j).toNat := by
  unfold bothTs kidT intAt
  rw [List.getD_eq_getElem?_getD, List.getElem?_append_left (by simpa using h), List.getElem?_map, List.getD_eq_getElem?_getD, List.getElem?_eq_getElem h]
  rfl

theorem both_at2 (us vs : List VN) (F : Nat) {j : Nat} (h : ¬ j < (rootKids us).length) (h2 : j - (rootKids us).length < (rootKids vs).length) : kidT (bothTs us vs F) j = treeOf vs F (intAt (rootKids vs) (j - (rootKids us).length)).toNat := by
  unfold bothTs kidT intAt
  rw [List.getD_eq_getElem?_getD, List.getElem?_append_right (by simp; omega), List.getElem?_map, List.getD_eq_getElem?_getD, List.length_map, List.getElem?_eq_getElem h2]
  rfl

theorem lay_both {us vs : List VN} (h1 : okB us = true) (h2 : okB vs = true) {F : Nat} (hF1 : us.length ≤ F) (hF2 : vs.length ≤ F) : layT (F + 1) (.mk 5 0 ByteArray.empty [] (bothTs us vs F)) 0 = bothNs us vs := by
  unfold bothNs
  rw [← both_len us vs F]
  apply lay_gen
  intro k hk
  rw [both_len] at hk
  by_cases hlt : k < (rootKids us).length
  · obtain ⟨q, hq, hql⟩ := root_kid h1 hlt
    refine ⟨us, q, h1, by omega, by omega, ?_, ?_⟩
    · rw [both_at1 us vs F hlt, hq]; simp
    · unfold bothL PL; rw [if_pos hlt, hq]; simp
  · obtain ⟨q, hq, hql⟩ := root_kid h2 (show k - (rootKids us).length < (rootKids vs).length by omega)
    refine ⟨vs, q, h2, by omega, by omega, ?_, ?_⟩
    · rw [both_at2 us vs F hlt (by omega), hq]; simp
    · unfold bothL PL; rw [if_neg hlt, hq]; simp

/-! ### The nodes of two rows fit -/
def Nice2 (x : VN) : Prop := Fits x ∧ x.keys.length ≤ 200 ∧ x.kids.length ≤ 200 ∧ ∀ j, j < x.kids.length → -20000 ≤ intAt x.kids j ∧ intAt x.kids j ≤ 20000

theorem cat_nice2 {L : Nat → List VN} {m : Nat} (hm : m ≤ 200) (hok : ∀ i, i < m → okB (L i) = true) (hf : ∀ i, i < m → ∀ j, j < (L i).length → Fits (nodeAt (L i) j)) : ∀ k, k ≤ m → ∀ i, i < (catNs L k).length → Nice2 (nodeAt (catNs L k) i) := by
  intro k
  induction k with
  | zero => intro _ i hi; simp [catNs] at hi
  | succ k ih =>
    intro hk i hi
    have hle := catNs_le hok k (by omega)
    rw [catNs]
    by_cases e : i < (catNs L k).length
    · rw [nodeAt_left e]; exact ih (by omega) i e
    · rw [nodeAt_right (by omega)]
      rw [catNs_len] at hi
      rw [nodeAt_map (by omega)]
      have hj : i - (catNs L k).length < (L k).length := by omega
      generalize i - (catNs L k).length = j at hj
      have f := hf k (by omega) j hj
      have kf := keys_few (hok k (by omega)) j hj
      have p1 := (okB_parts (hok k (by omega))).1
      have hb : ∀ q, q < (shiftN ((catNs L k).length : Int) (nodeAt (L k) j)).kids.length → -20000 ≤ intAt (shiftN ((catNs L k).length : Int) (nodeAt (L k) j)).kids q ∧ intAt (shiftN ((catNs L k).length : Int) (nodeAt (L k) j)).kids q ≤ 20000 := by
        intro q hq
        have hq' : q < (nodeAt (L k) j).kids.length := by simpa [shiftN] using hq
        have hr := kidsIn_get kf.1 hq'
        have ei : intAt (shiftN ((catNs L k).length : Int) (nodeAt (L k) j)).kids q = intAt (nodeAt (L k) j).kids q + ((catNs L k).length : Int) := by
          rw [intAt_get hq, intAt_get hq']; simp [shiftN]
        rw [ei]
        omega
      exact ⟨⟨f.keysN, f.keysS, by simpa [shiftN] using f.kidsN, fun q hq => by have := hb q hq; omega, f.size, f.klo, f.khi, f.nlo, f.nhi⟩, Nat.le_trans kf.2.2 (by omega), by have := kf.2.1; simp [shiftN]; omega, hb⟩

theorem make_nice2 {L : Nat → List VN} {m : Nat} (hm : m ≤ 200) (hok : ∀ i, i < m → okB (L i) = true) (hf : ∀ i, i < m → ∀ j, j < (L i).length → Fits (nodeAt (L i) j)) {kind : Int} (h1 : 1 ≤ kind) (h6 : kind ≤ 6) {keys : List ByteArray} (hk : keys.length ≤ 200) (hks : ∀ i, i < keys.length → (keyAt keys i).size ≤ 140737488355328) :
    (makeNs kind keys L m).length ≤ 16001 ∧ ∀ i, i < (makeNs kind keys L m).length → Nice2 (nodeAt (makeNs kind keys L m) i) := by
  have hle := catNs_le hok m (Nat.le_refl _)
  refine ⟨by unfold makeNs; simp; omega, fun i hi => ?_⟩
  unfold makeNs at hi ⊢
  by_cases e : i < (catNs L m).length
  · rw [nodeAt_left e]; exact cat_nice2 hm hok hf m (Nat.le_refl _) i e
  · have e0 : i - (catNs L m).length = 0 := by simp at hi; omega
    rw [nodeAt_right (by omega), e0]
    have hb : ∀ j, j < (catKs L m).length → -20000 ≤ intAt (catKs L m) j ∧ intAt (catKs L m) j ≤ 20000 := by
      intro j hj
      rw [catKs_len] at hj
      rw [catKs_get L m j hj]
      have := catNs_le hok (j + 1) (by omega)
      omega
    exact ⟨⟨by show keys.length ≤ _; omega, hks, by show (catKs L m).length ≤ _; rw [catKs_len]; omega, fun j hj => by have := hb j hj; show -9223372036854775808 ≤ intAt (catKs L m) j ∧ intAt (catKs L m) j ≤ 9223372036854775807; omega, by show ByteArray.empty.size ≤ _; decide, by show -9223372036854775808 ≤ kind; omega, by show kind ≤ _; omega, by show (-9223372036854775808 : Int) ≤ 0; decide, by show (0 : Int) ≤ 9223372036854775807; decide⟩, hk, by show (catKs L m).length ≤ 200; rw [catKs_len]; exact hm, hb⟩

theorem both_ok {us vs : List VN} (h1 : okB us = true) (h2 : okB vs = true) : ∀ j, j < (rootKids us).length + (rootKids vs).length → okB (bothL us vs j) = true := by
  intro j hj
  unfold bothL
  split
  · rename_i h; exact allB_yes (parts_ok h1).1 _ h
  · rename_i h; exact allB_yes (parts_ok h2).1 _ (by omega)

theorem both_fits {us vs : List VN} (h1 : okB us = true) (h2 : okB vs = true) (hf : ∀ i, i < us.length → Fits (nodeAt us i)) (hf' : ∀ i, i < vs.length → Fits (nodeAt vs i)) : (bothNs us vs).length ≤ 16001 ∧ ∀ i, i < (bothNs us vs).length → Nice2 (nodeAt (bothNs us vs) i) := by
  have p1 := PL_few hf
  have p2 := PL_few hf'
  have e1 : partsN us = (rootKids us).length := by unfold partsN; rw [if_pos h1]
  have e2 : partsN vs = (rootKids vs).length := by unfold partsN; rw [if_pos h2]
  rw [e1] at p1
  rw [e2] at p2
  refine make_nice2 (by omega) (both_ok h1 h2) (fun i hi => ?_) (by omega) (by omega) (by simp) (fun i hi => absurd hi (by simp))
  unfold bothL
  split
  · rename_i h; exact (p1.2 i h).2
  · rename_i h; exact (p2.2 _ (by omega)).2
end Go.Proofs.YtfijafbpdlakaaaGreatDoor
