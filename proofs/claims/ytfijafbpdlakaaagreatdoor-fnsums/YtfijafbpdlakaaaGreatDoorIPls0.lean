/-
  impl.minus at two numbers.
-/
import Derived.Test.YtfijafbpdlakaaaGreatDoorOrd
import Derived.Test.YtfijafbpdlakaaaGreatDoorCmpE
import Derived.Deep.RegionWith
import Derived.Test.YtfijafbpdlakaaaGreatDoorStepN
import Derived.Test.YtfijafbpdlakaaaGreatDoorPartQ
import Derived.Test.YtfijafbpdlakaaaGreatDoorSame
namespace Go.Proofs.YtfijafbpdlakaaaGreatDoor
open Go.RowKit
set_option linter.unusedSimpArgs false
set_option linter.unusedVariables false

theorem tree_num (B : Nat) (w : World) (n : Int) : TreeAt B w 1 (.mk 3 n ByteArray.empty [] []) (.iface 86 (.agg #[.int .i64 n])) := Or.inr (Or.inr (Or.inl ⟨rfl, rfl, rfl, rfl, rfl⟩))

set_option maxRecDepth 100000 in
set_option maxHeartbeats 3200000 in
theorem minus_diff (us vs : List VN) (h1 : okB us = true) (h2 : okB vs = true) (lo B lo' B' : Nat) (hlo : lo ≤ B) (hlo' : lo' ≤ B') (x y : Value) (w : World) (hx : ValIs lo B w us us.length (us.length - 1) x) (hy : ValIs lo' B' w vs vs.length (vs.length - 1) y) (hB : B ≤ w.heap.size) (hB' : B' ≤ w.heap.size) (hE : Errs2 w) (hk3 : (rootN us).kind = 3) (hk3' : (rootN vs).kind = 3) :
    Calls Tryz.prog 27 #[x, y] w fun e w' => MergeAns (minC us vs) (minNs us vs) e w' ∧ Below w.heap.size w w' := by
  obtain ⟨tx, vx, Fx, rfl, kx⟩ := kindIs hx
  obtain ⟨ty, vy, Fy, rfl, ky⟩ := kindIs hy
  have HKX := hideIt kx
  have HKY := hideIt ky
  have HE := hideIt hE
  have m1 := kx.meth
  have e1 := kx.enter
  have m2 := ky.meth
  have e2 := ky.enter
  clear kx ky hE
  have heq : ((nodeAt us (us.length - 1)).kind != (nodeAt vs (vs.length - 1)).kind) = false := by
    have : (nodeAt us (us.length - 1)).kind = (nodeAt vs (vs.length - 1)).kind := hk3.trans hk3'.symm
    simpa using this
  have ti1 := ta_int_int
  have tbi := tb_int
  have fli := fld_int
  obtain ⟨p1, _, _, _⟩ := okB_parts h1
  obtain ⟨p2, _, _, _⟩ := okB_parts h2
  obtain ⟨f, hf⟩ : ∃ f, us.length = f + 1 := ⟨us.length - 1, by omega⟩
  obtain ⟨f', hf'⟩ : ∃ f', vs.length = f' + 1 := ⟨vs.length - 1, by omega⟩
  have n1 := root_n h1 hk3
  have n2 := root_n h2 hk3'
  have HM := hideIt (min_diff h1 h2 ⟨hk3, hk3'⟩)
  have HDN : Hid (diffNs us vs = leafN 3 ((rootN us).n - (rootN vs).n) ByteArray.empty) := rfl
  obtain ⟨nx, hnx⟩ : ∃ nx, (rootN us).n = nx := ⟨_, rfl⟩
  obtain ⟨ny, hny⟩ : ∃ ny, (rootN vs).n = ny := ⟨_, rfl⟩
  rw [hnx] at n1 HDN
  rw [hny] at n2 HDN
  have ex : vx = .agg #[.int .i64 nx] ∧ tx = 86 := by
    have hx2 := hx
    rw [hf, show f + 1 - 1 = f by omega] at hx2
    have hr : nodeAt us f = rootN us := by unfold rootN; rw [hf]; rfl
    unfold ValIs at hx2
    rw [hr, hnx] at hx2
    rcases hx2 with ⟨k, e⟩ | ⟨k, e⟩ | ⟨k, e⟩ | ⟨k, e⟩ | ⟨k, it, e, hi⟩ | ⟨k, ks, it, e, hs, hi⟩
    case inr.inr.inl => cases e; exact ⟨rfl, rfl⟩
    all_goals exact absurd k (by omega)
  have ey : vy = .agg #[.int .i64 ny] ∧ ty = 86 := by
    have hy2 := hy
    rw [hf', show f' + 1 - 1 = f' by omega] at hy2
    have hr : nodeAt vs f' = rootN vs := by unfold rootN; rw [hf']; rfl
    unfold ValIs at hy2
    rw [hr, hny] at hy2
    rcases hy2 with ⟨k, e⟩ | ⟨k, e⟩ | ⟨k, e⟩ | ⟨k, e⟩ | ⟨k, it, e, hi⟩ | ⟨k, ks, it, e, hs, hi⟩
    case inr.inr.inl => cases e; exact ⟨rfl, rfl⟩
    all_goals exact absurd k (by omega)
  obtain ⟨rfl, rfl⟩ := ex
  obtain ⟨rfl, rfl⟩ := ey
  obtain ⟨n1a, n1b⟩ := n1
  obtain ⟨n2a, n2b⟩ := n2
  have HLF := hideIt (leaf_few (nx - ny) (by omega) (by omega))
  clear hx hy hnx hny p1 p2 hf hf'
  go_enter Tryz.func27, Tryz.ntmps27
  go_wp2_with fail
  refine (HKX.out.says _).mono ?_
  rintro e w1 ⟨rfl, hb1⟩
  have HB1 := hideIt hb1
  clear hb1
  go_wp2_with fail
  refine (HKY.out.says _).mono ?_
  rintro e w2 ⟨rfl, hb2⟩
  have HB2 := hideIt (HB1.out.trans (hb2.mono HB1.out.size))
  have HE2 := hideIt ((HE.out.below HB2.out).below ((Below.refl _ _).alloc (Nat.le_refl _) (.cells #[.int .i64 nx] 86)))
  clear hb2
  go_wp2_with fail
  obtain ⟨W, hW⟩ : ∃ W, w2.alloc (.cells #[.int .i64 nx] 86) = W := ⟨_, rfl⟩
  have c0 : W.cell? ⟨w2.heap.size, 0, none⟩ = some (.int .i64 nx) := by rw [← hW]; simp
  have HBW : Hid (Below w.heap.size w W) := by rw [Hid, ← hW]; exact HB2.out.alloc HB2.out.size _
  rw [hW] at HE2 ⊢
  have HED := hideIt (HE2.out.below (w' := W.drew) (bsame rfl rfl rfl rfl))
  have HBD : Hid (Below w.heap.size w W.drew) := HBW.out.drew
  clear hW
  have HDW : Hid (IntKind.i64.wrap (nx - ny) = nx - ny) := by
    unfold Hid
    simp [IntKind.wrap, IntKind.signed, IntKind.bits]
    omega
  have HDM : Hid (diffNs us vs = leafN 3 (IntKind.i64.wrap (nx - ny)) ByteArray.empty) := by rw [Hid, HDW.out]; exact HDN.out
  have HLG : Hid (∀ i, i < (leafN 3 (IntKind.i64.wrap (nx - ny)) ByteArray.empty).length → Fits (nodeAt (leafN 3 (IntKind.i64.wrap (nx - ny)) ByteArray.empty) i)) := by rw [Hid, HDW.out]; exact HLF.out.2
  cases ok : okB (leafN 3 (IntKind.i64.wrap (nx - ny)) ByteArray.empty)
  · go_region_law (refine step_call1 (by rfl) 53 _ _ (by rfl) (.iface 86 (.agg #[.int .i64 (IntKind.i64.wrap (nx - ny))])) (by rfl) (call_unless _) (unlessWrong_no 1 (.mk 3 (IntKind.i64.wrap (nx - ny)) ByteArray.empty [] []) _ (leafN 3 (IntKind.i64.wrap (nx - ny)) ByteArray.empty) _ (tree_num _ _ _) (lay_number _) (by simp [leafN]) HLG.out HED.out ok) ?_; rintro e w3 ⟨te, xe, rfl, hq⟩; refine ⟨_, rfl, ?_⟩)
    all_goals
      have HB3 := hideIt (HBD.out.trans (hq.mono HBD.out.size))
      clear hq
      go_wp2_with fail
      go_ret2
      exact ⟨Or.inr ⟨by rw [HM.out.2, HDM.out, ok]; rfl, _, rfl, by rw [HM.out.1, HDM.out, ok]; exact ⟨te, xe, rfl⟩⟩, HB3.out⟩
  · go_region_law (refine step_call1 (by rfl) 53 _ _ (by rfl) (.iface 86 (.agg #[.int .i64 (IntKind.i64.wrap (nx - ny))])) (by rfl) (call_unless _) (unlessWrong_yes 1 (.mk 3 (IntKind.i64.wrap (nx - ny)) ByteArray.empty [] []) _ (leafN 3 (IntKind.i64.wrap (nx - ny)) ByteArray.empty) _ (tree_num _ _ _) (lay_number _) (by simp [leafN]) HLG.out HED.out ok) ?_; rintro e w3 ⟨rfl, hq⟩; refine ⟨_, rfl, ?_⟩)
    all_goals
      have HB3 := hideIt (HBD.out.trans (hq.mono HBD.out.size))
      clear hq
      go_wp2_with fail
      go_ret2
      exact ⟨Or.inl ⟨by rw [HM.out.1, HDM.out, ok]; rfl, 1, _, _, _, rfl, tree_num _ _ _, by rw [HM.out.2, HDM.out, ok]; exact lay_number _⟩, HB3.out⟩
end Go.Proofs.YtfijafbpdlakaaaGreatDoor

/-
  The sum of two values, on their nodes: plain mathematics.
-/
namespace Go.Proofs.YtfijafbpdlakaaaGreatDoor
open Go.RowKit
set_option linter.unusedSimpArgs false
set_option linter.unusedVariables false

/-! ### The parts of the sum -/
def sumNs (us vs : List VN) : List VN := leafN 3 ((rootN us).n + (rootN vs).n) ByteArray.empty
def textNs (us vs : List VN) : List VN := leafN 4 0 ((rootN us).s ++ (rootN vs).s)
def bothL (us vs : List VN) (j : Nat) : List VN := if j < (rootKids us).length then PL us j else PL vs (j - (rootKids us).length)
def bothNs (us vs : List VN) : List VN := makeNs 5 [] (bothL us vs) ((rootKids us).length + (rootKids vs).length)

def moreIx (us vs : List VN) (i : Nat) : List Nat := pickIx (fun i => hasK (rootN vs).keys (keyAt (rootN us).keys i)) i
def joinK (us vs : List VN) : List ByteArray := (rootN vs).keys ++ (moreIx us vs (rootN us).keys.length).map (keyAt (rootN us).keys)
def joinL (us vs : List VN) (j : Nat) : List VN := if j < (rootKids vs).length then PL vs j else PL us ((moreIx us vs (rootN us).keys.length).getD (j - (rootKids vs).length) 0)
def joinN (us vs : List VN) : Nat := (rootKids vs).length + (moreIx us vs (rootN us).keys.length).length
def joinNs (us vs : List VN) : List VN := match sortIn (joinK us vs) (joinK us vs).length with
  | some (ns, ps) => makeNs 6 ns (fun j => joinL us vs (ps.getD j 0)) (joinN us vs)
  | none => []

/-- The nodes that are asked whether they are right. -/
def rawPlus (us vs : List VN) : List VN :=
  if (rootN us).kind = 3 then sumNs us vs else if (rootN us).kind = 4 then textNs us vs else if (rootN us).kind = 5 then bothNs us vs else joinNs us vs
def plusC (us vs : List VN) : Int :=
  if okB us = true ∧ okB vs = true then
    if (rootN us).kind = 1 then 0 else if (rootN vs).kind = 1 then 0
    else if (rootN us).kind = (rootN vs).kind ∧ (rootN us).kind ≠ 2 then (if okB (rawPlus us vs) = true then 0 else 3) else 2
  else 1
def plusNs (us vs : List VN) : List VN :=
  if okB us = true ∧ okB vs = true then
    if (rootN us).kind = 1 then vs else if (rootN vs).kind = 1 then us
    else if (rootN us).kind = (rootN vs).kind ∧ (rootN us).kind ≠ 2 then (if okB (rawPlus us vs) = true then rawPlus us vs else []) else []
  else []

theorem map_keys {us : List VN} (h : okB us = true) (hk : (rootN us).kind = 6) : (rootN us).keys.length = (rootKids us).length ∧ riseB (rootN us).keys = true := by
  have p1 := (okB_parts h).1
  have hn := ((okB_parts h).2.1 (us.length - 1) (by omega)).1
  change nodeB (rootN us) = true at hn
  unfold nodeB namedB at hn
  simp [hk] at hn
  exact hn.2

theorem join_len {us vs : List VN} (h2 : okB vs = true) (hk2 : (rootN vs).kind = 6) : (joinK us vs).length = joinN us vs := by
  unfold joinK joinN
  rw [List.length_append, List.length_map, (map_keys h2 hk2).1]

theorem rise_ne {l : List ByteArray} (h : riseB l = true) {i j : Nat} (hij : i < j) (hj : j < l.length) : (keyAt l i).toList ≠ (keyAt l j).toList := less_ne (riseB_rise h i j hij hj)

theorem pick_rise (g : Nat → Bool) : ∀ n, ∀ i j, i < j → j < (pickIx g n).length → (pickIx g n).getD i 0 < (pickIx g n).getD j 0 := by
  intro n
  induction n with
  | zero => intro i j _ hj; simp [pickIx] at hj
  | succ n ih =>
    intro i j hij hj
    rw [pickIx] at hj ⊢
    split at hj
    · rename_i e; rw [if_pos e]; exact ih i j hij hj
    · rename_i e
      rw [if_neg e]
      rw [List.length_append, List.length_singleton] at hj
      by_cases ej : j = (pickIx g n).length
      · subst ej
        rw [getD_snoc_end, getD_snoc_lt (by omega)]
        refine (pickIx_lt g n).2 _ ?_
        rw [List.getD_eq_getElem?_getD, List.getElem?_eq_getElem (by omega)]
        exact List.getElem_mem _
      · rw [getD_snoc_lt (by omega), getD_snoc_lt (by omega)]
        exact ih i j hij (by omega)

theorem pick_not (g : Nat → Bool) : ∀ n, ∀ x ∈ pickIx g n, g x = false := by
  intro n
  induction n with
  | zero => intro x hx; cases hx
  | succ n ih =>
    intro x hx
    rw [pickIx] at hx
    split at hx
    · exact ih x hx
    · rename_i e
      rcases List.mem_append.1 hx with hx | hx
      · exact ih x hx
      · simp at hx; subst hx; simpa using e

theorem join_unlike {us vs : List VN} (h1 : okB us = true) (h2 : okB vs = true) (hk1 : (rootN us).kind = 6) (hk2 : (rootN vs).kind = 6) : ∀ i j, i < j → j < (joinK us vs).length → (keyAt (joinK us vs) i).toList ≠ (keyAt (joinK us vs) j).toList := by
  obtain ⟨a1, a2⟩ := map_keys h1 hk1
  obtain ⟨b1, b2⟩ := map_keys h2 hk2
  have hix := pickIx_lt (fun i => hasK (rootN vs).keys (keyAt (rootN us).keys i)) (rootN us).keys.length
  have hlt : ∀ k, k < (moreIx us vs (rootN us).keys.length).length → (moreIx us vs (rootN us).keys.length).getD k 0 ∈ moreIx us vs (rootN us).keys.length := fun k hk => by
    rw [List.getD_eq_getElem?_getD, List.getElem?_eq_getElem hk]; exact List.getElem_mem _
  have kl : ∀ i, i < (rootN vs).keys.length → keyAt (joinK us vs) i = keyAt (rootN vs).keys i := fun i hi => by
    unfold joinK keyAt; rw [List.getD_eq_getElem?_getD, List.getD_eq_getElem?_getD, List.getElem?_append_left hi]
  have kr : ∀ i, (rootN vs).keys.length ≤ i → i < (joinK us vs).length → keyAt (joinK us vs) i = keyAt (rootN us).keys ((moreIx us vs (rootN us).keys.length).getD (i - (rootN vs).keys.length) 0) := fun i hi hl => by
    have hl' : i - (rootN vs).keys.length < (moreIx us vs (rootN us).keys.length).length := by unfold joinK at hl; simp at hl; omega
    unfold joinK
    rw [keyAt, List.getD_eq_getElem?_getD, List.getElem?_append_right hi, List.getElem?_map, List.getElem?_eq_getElem hl', List.getD_eq_getElem?_getD, List.getElem?_eq_getElem hl']
    rfl
  intro i j hij hj
  have hjl : (joinK us vs).length = (rootN vs).keys.length + (moreIx us vs (rootN us).keys.length).length := by unfold joinK; simp
  by_cases ej : j < (rootN vs).keys.length
  · rw [kl i (by omega), kl j ej]; exact rise_ne b2 hij ej
  · by_cases ei : i < (rootN vs).keys.length
    · rw [kl i ei, kr j (by omega) hj]
      have hm := hlt (j - (rootN vs).keys.length) (by omega)
      have hno : hasK (rootN vs).keys (keyAt (rootN us).keys ((moreIx us vs (rootN us).keys.length).getD (j - (rootN vs).keys.length) 0)) = false := pick_not _ _ _ hm
      intro e
      have := (hasK_first (key := keyAt (rootN us).keys ((moreIx us vs (rootN us).keys.length).getD (j - (rootN vs).keys.length) 0)) (riseB_rise b2) ei e (fun k hk e2 => rise_ne b2 hk ei (e2.trans e.symm))).1
      rw [hno] at this
      cases this
    · rw [kr i (by omega) (by omega), kr j (by omega) hj]
      have hr := pick_rise (fun i => hasK (rootN vs).keys (keyAt (rootN us).keys i)) (rootN us).keys.length (i - (rootN vs).keys.length) (j - (rootN vs).keys.length) (by omega) (by unfold moreIx at hjl; omega)
      exact rise_ne a2 hr (hix.2 _ (hlt _ (by omega)))

theorem join_sorted {us vs : List VN} (h1 : okB us = true) (h2 : okB vs = true) (hk1 : (rootN us).kind = 6) (hk2 : (rootN vs).kind = 6) : ∃ ns ps, sortIn (joinK us vs) (joinK us vs).length = some (ns, ps) ∧ joinNs us vs = makeNs 6 ns (fun j => joinL us vs (ps.getD j 0)) (joinN us vs) := by
  obtain ⟨ns, ps, hq⟩ := sortIn_some (ks := joinK us vs) (joinK us vs).length (join_unlike h1 h2 hk1 hk2)
  exact ⟨ns, ps, hq, by unfold joinNs; rw [hq]⟩

/-- The program's arrangement is the same. -/
theorem sort_same {l : List ByteArray} {L : Nat → List VN} {m : Nat} {f : Nat → Int} {ns : List ByteArray} {ps : List Nat} (hl : l.length = m) (hs : sortIn l l.length = some (ns, ps)) (hf : Blk (RK l) (fun p => (p : Int)) f 0 l.length) :
    makeNs 6 (keysF l f m) (permL L f) m = makeNs 6 ns (fun j => L (ps.getD j 0)) m := by
  have hp := places_are hs hf
  have hlen := (sortIn_len hs).2
  have hk : keysF l f m = ns := by
    rw [sortIn_map hs, ← hl]
    have := congrArg (List.map fun x : Int => keyAt l x.toNat) hp
    rw [List.map_map, List.map_map] at this
    unfold keysF
    refine (Eq.trans ?_ this).trans ?_
    · rfl
    · apply List.map_congr_left; intro n _; simp
  have hL : ∀ i, i < m → permL L f i = (fun j => L (ps.getD j 0)) i := fun i hi => by
    have h1 : ((List.range l.length).map f)[i]? = some (f i) := by rw [List.getElem?_map, List.getElem?_range (by omega)]; rfl
    rw [hp, List.getElem?_map] at h1
    rw [List.getElem?_eq_getElem (by omega)] at h1
    simp at h1
    unfold permL
    simp only
    rw [List.getD_eq_getElem?_getD, List.getElem?_eq_getElem (by omega), ← h1]
    simp
  rw [hk, makeNs_same hL]

/-! ### The sum, case by case -/
theorem plus_null1 {us vs : List VN} (h1 : okB us = true) (h2 : okB vs = true) (k : (rootN us).kind = 1) : plusC us vs = 0 ∧ plusNs us vs = vs := by
  unfold plusC plusNs
  simp only [h1, h2, and_self, if_true, if_pos k]
theorem plus_null2 {us vs : List VN} (h1 : okB us = true) (h2 : okB vs = true) (k1 : (rootN us).kind ≠ 1) (k : (rootN vs).kind = 1) : plusC us vs = 0 ∧ plusNs us vs = us := by
  unfold plusC plusNs
  simp only [h1, h2, and_self, if_true, if_neg k1, if_pos k]
theorem plus_unlike {us vs : List VN} (h1 : okB us = true) (h2 : okB vs = true) (k1 : (rootN us).kind ≠ 1) (k2 : (rootN vs).kind ≠ 1) (a : ¬ ((rootN us).kind = (rootN vs).kind ∧ (rootN us).kind ≠ 2)) : plusC us vs = 2 ∧ plusNs us vs = [] := by
  unfold plusC plusNs
  simp only [h1, h2, and_self, if_true, if_neg k1, if_neg k2, if_neg a]
theorem plus_raw {us vs : List VN} (h1 : okB us = true) (h2 : okB vs = true) (k1 : (rootN us).kind ≠ 1) (k : (rootN us).kind = (rootN vs).kind) (k3 : (rootN us).kind ≠ 2) : plusC us vs = (if okB (rawPlus us vs) = true then 0 else 3) ∧ plusNs us vs = (if okB (rawPlus us vs) = true then rawPlus us vs else []) := by
  unfold plusC plusNs
  have k2 : (rootN vs).kind ≠ 1 := by omega
  have a : (rootN us).kind = (rootN vs).kind ∧ (rootN us).kind ≠ 2 := ⟨k, k3⟩
  simp only [h1, h2, and_self, if_true, if_neg k1, if_neg k2, if_pos a]
theorem raw_sum {us vs : List VN} (k : (rootN us).kind = 3) : rawPlus us vs = sumNs us vs := by unfold rawPlus; rw [if_pos k]
theorem raw_text {us vs : List VN} (k : (rootN us).kind = 4) : rawPlus us vs = textNs us vs := by unfold rawPlus; rw [if_neg (by omega), if_pos k]
theorem raw_both {us vs : List VN} (k : (rootN us).kind = 5) : rawPlus us vs = bothNs us vs := by unfold rawPlus; rw [if_neg (by omega), if_neg (by omega), if_pos k]
theorem raw_join {us vs : List VN} (k : (rootN us).kind = 6) : rawPlus us vs = joinNs us vs := by unfold rawPlus; rw [if_neg (by omega), if_neg (by omega), if_neg (by omega)]
end Go.Proofs.YtfijafbpdlakaaaGreatDoor

/-
  impl.plus at two numbers.
-/
namespace Go.Proofs.YtfijafbpdlakaaaGreatDoor
open Go.RowKit
set_option linter.unusedSimpArgs false
set_option linter.unusedVariables false

set_option maxRecDepth 100000 in
set_option maxHeartbeats 3200000 in
theorem plus_sum (us vs : List VN) (h1 : okB us = true) (h2 : okB vs = true) (lo B lo' B' : Nat) (hlo : lo ≤ B) (hlo' : lo' ≤ B') (x y : Value) (w : World) (hx : ValIs lo B w us us.length (us.length - 1) x) (hy : ValIs lo' B' w vs vs.length (vs.length - 1) y) (hB : B ≤ w.heap.size) (hB' : B' ≤ w.heap.size) (hE : Errs2 w) (hk3 : (rootN us).kind = 3) (hk3' : (rootN vs).kind = 3) :
    Calls Tryz.prog 25 #[x, y] w fun e w' => MergeAns (plusC us vs) (plusNs us vs) e w' ∧ Below w.heap.size w w' := by
  obtain ⟨tx, vx, Fx, rfl, kx⟩ := kindIs hx
  obtain ⟨ty, vy, Fy, rfl, ky⟩ := kindIs hy
  have HKX := hideIt kx
  have HKY := hideIt ky
  have HE := hideIt hE
  have m1 := kx.meth
  have e1 := kx.enter
  have m2 := ky.meth
  have e2 := ky.enter
  clear kx ky hE
  have heq : ((nodeAt us (us.length - 1)).kind != (nodeAt vs (vs.length - 1)).kind) = false := by
    have : (nodeAt us (us.length - 1)).kind = (nodeAt vs (vs.length - 1)).kind := hk3.trans hk3'.symm
    simpa using this
  have ti1 := ta_int_int
  have tbi := tb_int
  have fli := fld_int
  obtain ⟨p1, _, _, _⟩ := okB_parts h1
  obtain ⟨p2, _, _, _⟩ := okB_parts h2
  obtain ⟨f, hf⟩ : ∃ f, us.length = f + 1 := ⟨us.length - 1, by omega⟩
  obtain ⟨f', hf'⟩ : ∃ f', vs.length = f' + 1 := ⟨vs.length - 1, by omega⟩
  have n1 := root_n h1 hk3
  have n2 := root_n h2 hk3'
  have HM := hideIt (plus_raw h1 h2 (by omega) (by omega) (by omega))
  rw [raw_sum hk3] at HM
  have hz1 : ((nodeAt us (us.length - 1)).kind == 1) = false := by
    have : ¬ (nodeAt us (us.length - 1)).kind = 1 := by have : (nodeAt us (us.length - 1)).kind = 3 := hk3
                                                        omega
    simpa using this
  have hz2 : ((nodeAt vs (vs.length - 1)).kind == 1) = false := by
    have : ¬ (nodeAt vs (vs.length - 1)).kind = 1 := by have : (nodeAt vs (vs.length - 1)).kind = 3 := hk3'
                                                        omega
    simpa using this
  have HDN : Hid (sumNs us vs = leafN 3 ((rootN us).n + (rootN vs).n) ByteArray.empty) := rfl
  obtain ⟨nx, hnx⟩ : ∃ nx, (rootN us).n = nx := ⟨_, rfl⟩
  obtain ⟨ny, hny⟩ : ∃ ny, (rootN vs).n = ny := ⟨_, rfl⟩
  rw [hnx] at n1 HDN
  rw [hny] at n2 HDN
  have ex : vx = .agg #[.int .i64 nx] ∧ tx = 86 := by
    have hx2 := hx
    rw [hf, show f + 1 - 1 = f by omega] at hx2
    have hr : nodeAt us f = rootN us := by unfold rootN; rw [hf]; rfl
    unfold ValIs at hx2
    rw [hr, hnx] at hx2
    rcases hx2 with ⟨k, e⟩ | ⟨k, e⟩ | ⟨k, e⟩ | ⟨k, e⟩ | ⟨k, it, e, hi⟩ | ⟨k, ks, it, e, hs, hi⟩
    case inr.inr.inl => cases e; exact ⟨rfl, rfl⟩
    all_goals exact absurd k (by omega)
  have ey : vy = .agg #[.int .i64 ny] ∧ ty = 86 := by
    have hy2 := hy
    rw [hf', show f' + 1 - 1 = f' by omega] at hy2
    have hr : nodeAt vs f' = rootN vs := by unfold rootN; rw [hf']; rfl
    unfold ValIs at hy2
    rw [hr, hny] at hy2
    rcases hy2 with ⟨k, e⟩ | ⟨k, e⟩ | ⟨k, e⟩ | ⟨k, e⟩ | ⟨k, it, e, hi⟩ | ⟨k, ks, it, e, hs, hi⟩
    case inr.inr.inl => cases e; exact ⟨rfl, rfl⟩
    all_goals exact absurd k (by omega)
  obtain ⟨rfl, rfl⟩ := ex
  obtain ⟨rfl, rfl⟩ := ey
  obtain ⟨n1a, n1b⟩ := n1
  obtain ⟨n2a, n2b⟩ := n2
  have HLF := hideIt (leaf_few (nx + ny) (by omega) (by omega))
  clear hx hy hnx hny p1 p2 hf hf'
  go_enter Tryz.func25, Tryz.ntmps25
  go_wp2_with fail
  refine (HKX.out.says _).mono ?_
  rintro e w1 ⟨rfl, hb1⟩
  have HB1 := hideIt hb1
  clear hb1
  go_wp2_with fail
  refine (HKY.out.says _).mono ?_
  rintro e wa ⟨rfl, hba⟩
  have HBa := hideIt (HB1.out.trans (hba.mono HB1.out.size))
  clear hba
  go_wp2_with fail
  refine (HKX.out.says _).mono ?_
  rintro e wb ⟨rfl, hbb⟩
  have HBb := hideIt (HBa.out.trans (hbb.mono HBa.out.size))
  clear hbb
  go_wp2_with fail
  refine (HKY.out.says _).mono ?_
  rintro e w2 ⟨rfl, hb2⟩
  have HB2 := hideIt (HBb.out.trans (hb2.mono HBb.out.size))
  have HE2 := hideIt ((HE.out.below HB2.out).below ((Below.refl _ _).alloc (Nat.le_refl _) (.cells #[.int .i64 nx] 86)))
  clear hb2
  go_wp2_with fail
  obtain ⟨W, hW⟩ : ∃ W, w2.alloc (.cells #[.int .i64 nx] 86) = W := ⟨_, rfl⟩
  have c0 : W.cell? ⟨w2.heap.size, 0, none⟩ = some (.int .i64 nx) := by rw [← hW]; simp
  have HBW : Hid (Below w.heap.size w W) := by rw [Hid, ← hW]; exact HB2.out.alloc HB2.out.size _
  rw [hW] at HE2 ⊢
  have HED := hideIt (HE2.out.below (w' := W.drew) (bsame rfl rfl rfl rfl))
  have HBD : Hid (Below w.heap.size w W.drew) := HBW.out.drew
  clear hW
  have HDW : Hid (IntKind.i64.wrap (nx + ny) = nx + ny) := by
    unfold Hid
    simp [IntKind.wrap, IntKind.signed, IntKind.bits]
    omega
  have HDM : Hid (sumNs us vs = leafN 3 (IntKind.i64.wrap (nx + ny)) ByteArray.empty) := by rw [Hid, HDW.out]; exact HDN.out
  have HLG : Hid (∀ i, i < (leafN 3 (IntKind.i64.wrap (nx + ny)) ByteArray.empty).length → Fits (nodeAt (leafN 3 (IntKind.i64.wrap (nx + ny)) ByteArray.empty) i)) := by rw [Hid, HDW.out]; exact HLF.out.2
  cases ok : okB (leafN 3 (IntKind.i64.wrap (nx + ny)) ByteArray.empty)
  · go_region_law (refine step_call1 (by rfl) 53 _ _ (by rfl) (.iface 86 (.agg #[.int .i64 (IntKind.i64.wrap (nx + ny))])) (by rfl) (call_unless _) (unlessWrong_no 1 (.mk 3 (IntKind.i64.wrap (nx + ny)) ByteArray.empty [] []) _ (leafN 3 (IntKind.i64.wrap (nx + ny)) ByteArray.empty) _ (tree_num _ _ _) (lay_number _) (by simp [leafN]) HLG.out HED.out ok) ?_; rintro e w3 ⟨te, xe, rfl, hq⟩; refine ⟨_, rfl, ?_⟩)
    all_goals
      have HB3 := hideIt (HBD.out.trans (hq.mono HBD.out.size))
      clear hq
      go_wp2_with fail
      go_ret2
      exact ⟨Or.inr ⟨by rw [HM.out.2, HDM.out, ok]; rfl, _, rfl, by rw [HM.out.1, HDM.out, ok]; exact ⟨te, xe, rfl⟩⟩, HB3.out⟩
  · go_region_law (refine step_call1 (by rfl) 53 _ _ (by rfl) (.iface 86 (.agg #[.int .i64 (IntKind.i64.wrap (nx + ny))])) (by rfl) (call_unless _) (unlessWrong_yes 1 (.mk 3 (IntKind.i64.wrap (nx + ny)) ByteArray.empty [] []) _ (leafN 3 (IntKind.i64.wrap (nx + ny)) ByteArray.empty) _ (tree_num _ _ _) (lay_number _) (by simp [leafN]) HLG.out HED.out ok) ?_; rintro e w3 ⟨rfl, hq⟩; refine ⟨_, rfl, ?_⟩)
    all_goals
      have HB3 := hideIt (HBD.out.trans (hq.mono HBD.out.size))
      clear hq
      go_wp2_with fail
      go_ret2
      exact ⟨Or.inl ⟨by rw [HM.out.1, HDM.out, ok]; rfl, 1, _, _, _, rfl, tree_num _ _ _, by rw [HM.out.2, HDM.out, ok]; exact lay_number _⟩, HB3.out⟩
end Go.Proofs.YtfijafbpdlakaaaGreatDoor

/-
  impl.plus where one side is null, where the kinds part, and at two truth values.
-/
namespace Go.Proofs.YtfijafbpdlakaaaGreatDoor
open Go.RowKit
set_option linter.unusedSimpArgs false
set_option linter.unusedVariables false

theorem whole_tree {vs : List VN} (h : okB vs = true) {lo B : Nat} {w w' : World} {v : Value} (hlo : lo ≤ B) (hB : B ≤ w'.heap.size) (hk : ∀ k, k < B → w'.heap[k]? = w.heap[k]?) (hv : ValIs lo B w vs vs.length (vs.length - 1) v) :
    TreeAt w'.heap.size w' vs.length (treeOf vs vs.length (vs.length - 1)) v ∧ layT vs.length (treeOf vs vs.length (vs.length - 1)) 0 = vs := by
  obtain ⟨p1, p2, _, p4⟩ := okB_parts h
  refine ⟨TreeAt.keep hk hB (ValIs.tree hlo p2 p4 p1.2 (by omega) hv), ?_⟩
  rw [(lay_part h (by omega) (by omega)).1, part_root h]

set_option maxRecDepth 100000 in
set_option maxHeartbeats 3200000 in
theorem plus_first (us vs : List VN) (h1 : okB us = true) (h2 : okB vs = true) (lo B lo' B' : Nat) (hlo : lo ≤ B) (hlo' : lo' ≤ B') (x y : Value) (w : World) (hx : ValIs lo B w us us.length (us.length - 1) x) (hy : ValIs lo' B' w vs vs.length (vs.length - 1) y) (hB : B ≤ w.heap.size) (hB' : B' ≤ w.heap.size) (hE : Errs2 w) (hk : (rootN us).kind = 1) :
    Calls Tryz.prog 25 #[x, y] w fun e w' => MergeAns (plusC us vs) (plusNs us vs) e w' ∧ Below w.heap.size w w' := by
  obtain ⟨tx, vx, Fx, rfl, kx⟩ := kindIs hx
  obtain ⟨ty, vy, Fy, rfl, ky⟩ := kindIs hy
  have HKX := hideIt kx
  have HKY := hideIt ky
  have HE := hideIt hE
  have m1 := kx.meth
  have e1 := kx.enter
  have m2 := ky.meth
  have e2 := ky.enter
  clear kx ky hE
  have hz1 : ((nodeAt us (us.length - 1)).kind == 1) = true := by simpa using (show (nodeAt us (us.length - 1)).kind = 1 from hk)
  have HM := hideIt (plus_null1 h1 h2 hk)
  have HW := hideIt (fun (w' : World) (hb : Below w.heap.size w w') => whole_tree (w' := w') h2 hlo' (Nat.le_trans hB' hb.size) (fun k hk => hb.block k (by omega)) hy)
  clear hx hy
  go_enter Tryz.func25, Tryz.ntmps25
  go_wp2_with fail
  refine (HKX.out.says _).mono ?_
  rintro e w1 ⟨rfl, hb1⟩
  have HB1 := hideIt hb1
  clear hb1
  go_wp2_with fail
  go_ret2
  exact ⟨Or.inl ⟨HM.out.1, _, _, _, _, rfl, (HW.out _ HB1.out).1, by rw [HM.out.2]; exact (HW.out _ HB1.out).2⟩, HB1.out⟩

set_option maxRecDepth 100000 in
set_option maxHeartbeats 3200000 in
theorem plus_second (us vs : List VN) (h1 : okB us = true) (h2 : okB vs = true) (lo B lo' B' : Nat) (hlo : lo ≤ B) (hlo' : lo' ≤ B') (x y : Value) (w : World) (hx : ValIs lo B w us us.length (us.length - 1) x) (hy : ValIs lo' B' w vs vs.length (vs.length - 1) y) (hB : B ≤ w.heap.size) (hB' : B' ≤ w.heap.size) (hE : Errs2 w) (hk1 : (rootN us).kind ≠ 1) (hk : (rootN vs).kind = 1) :
    Calls Tryz.prog 25 #[x, y] w fun e w' => MergeAns (plusC us vs) (plusNs us vs) e w' ∧ Below w.heap.size w w' := by
  obtain ⟨tx, vx, Fx, rfl, kx⟩ := kindIs hx
  obtain ⟨ty, vy, Fy, rfl, ky⟩ := kindIs hy
  have HKX := hideIt kx
  have HKY := hideIt ky
  have HE := hideIt hE
  have m1 := kx.meth
  have e1 := kx.enter
  have m2 := ky.meth
  have e2 := ky.enter
  clear kx ky hE
  have hz1 : ((nodeAt us (us.length - 1)).kind == 1) = false := by simpa using (show ¬ (nodeAt us (us.length - 1)).kind = 1 from hk1)
  have hz2 : ((nodeAt vs (vs.length - 1)).kind == 1) = true := by simpa using (show (nodeAt vs (vs.length - 1)).kind = 1 from hk)
  have HM := hideIt (plus_null2 h1 h2 hk1 hk)
  have HW := hideIt (fun (w' : World) (hb : Below w.heap.size w w') => whole_tree (w' := w') h1 hlo (Nat.le_trans hB hb.size) (fun k hk => hb.block k (by omega)) hx)
  clear hx hy
  go_enter Tryz.func25, Tryz.ntmps25
  go_wp2_with fail
  refine (HKX.out.says _).mono ?_
  rintro e w1 ⟨rfl, hb1⟩
  have HB1 := hideIt hb1
  clear hb1
  go_wp2_with fail
  refine (HKY.out.says _).mono ?_
  rintro e wa ⟨rfl, hba⟩
  have HBa := hideIt (HB1.out.trans (hba.mono HB1.out.size))
  clear hba
  go_wp2_with fail
  go_ret2
  exact ⟨Or.inl ⟨HM.out.1, _, _, _, _, rfl, (HW.out _ HBa.out).1, by rw [HM.out.2]; exact (HW.out _ HBa.out).2⟩, HBa.out⟩

set_option maxRecDepth 100000 in
set_option maxHeartbeats 3200000 in
theorem plus_other (us vs : List VN) (h1 : okB us = true) (h2 : okB vs = true) (lo B lo' B' : Nat) (hlo : lo ≤ B) (hlo' : lo' ≤ B') (x y : Value) (w : World) (hx : ValIs lo B w us us.length (us.length - 1) x) (hy : ValIs lo' B' w vs vs.length (vs.length - 1) y) (hB : B ≤ w.heap.size) (hB' : B' ≤ w.heap.size) (hE : Errs2 w) (hk1 : (rootN us).kind ≠ 1) (hk2 : (rootN vs).kind ≠ 1) (hk : (rootN us).kind ≠ (rootN vs).kind) :
    Calls Tryz.prog 25 #[x, y] w fun e w' => MergeAns (plusC us vs) (plusNs us vs) e w' ∧ Below w.heap.size w w' := by
  obtain ⟨tx, vx, Fx, rfl, kx⟩ := kindIs hx
  obtain ⟨ty, vy, Fy, rfl, ky⟩ := kindIs hy
  have HKX := hideIt kx
  have HKY := hideIt ky
  have HE := hideIt hE
  have m1 := kx.meth
  have e1 := kx.enter
  have m2 := ky.meth
  have e2 := ky.enter
  clear kx ky hE
  have hz1 : ((nodeAt us (us.length - 1)).kind == 1) = false := by simpa using (show ¬ (nodeAt us (us.length - 1)).kind = 1 from hk1)
  have hz2 : ((nodeAt vs (vs.length - 1)).kind == 1) = false := by simpa using (show ¬ (nodeAt vs (vs.length - 1)).kind = 1 from hk2)
  have hne : ((nodeAt us (us.length - 1)).kind != (nodeAt vs (vs.length - 1)).kind) = true := by
    have : ¬ (nodeAt us (us.length - 1)).kind = (nodeAt vs (vs.length - 1)).kind := hk
    simpa using this
  have HM := hideIt (plus_unlike h1 h2 hk1 hk2 (fun h => hk h.1))
  clear hx hy
  go_enter Tryz.func25, Tryz.ntmps25
  go_wp2_with fail
  refine (HKX.out.says _).mono ?_
  rintro e w1 ⟨rfl, hb1⟩
  have HB1 := hideIt hb1
  clear hb1
  go_wp2_with fail
  refine (HKY.out.says _).mono ?_
  rintro e wa ⟨rfl, hba⟩
  have HBa := hideIt (HB1.out.trans (hba.mono HB1.out.size))
  clear hba
  go_wp2_with fail
  refine (HKX.out.says _).mono ?_
  rintro e wb ⟨rfl, hbb⟩
  have HBb := hideIt (HBa.out.trans (hbb.mono HBa.out.size))
  clear hbb
  go_wp2_with fail
  refine (HKY.out.says _).mono ?_
  rintro e w2 ⟨rfl, hb2⟩
  have HB2 := hideIt (HBb.out.trans (hb2.mono HBb.out.size))
  have HE2 := hideIt (HE.out.below HB2.out)
  clear hb2
  go_wp2_with fail
  refine (wrongKind_any _ HE2.out.errs).mono ?_
  rintro e w3 ⟨⟨v, rfl, te, xe, rfl⟩, rfl⟩
  go_wp2_with fail
  go_ret2
  exact ⟨Or.inr ⟨HM.out.2, _, rfl, by rw [HM.out.1]; exact ⟨te, xe, rfl⟩⟩, HB2.out⟩

theorem tp_bool_text (x : Value) (w : World) : (Instr.typeAssert (.iface 105 x) 54 89 true).run Tryz.prog w = .ok (.tuple #[.agg #[.string ByteArray.empty], .bool false]) w := by kernel_rfl
theorem tp_bool_map (x : Value) (w : World) : (Instr.typeAssert (.iface 105 x) 54 94 true).run Tryz.prog w = .ok (.tuple #[.agg #[.slice none 0 0, .slice none 0 0], .bool false]) w := by kernel_rfl

set_option maxRecDepth 100000 in
set_option maxHeartbeats 3200000 in
theorem plus_bools (us vs : List VN) (h1 : okB us = true) (h2 : okB vs = true) (lo B lo' B' : Nat) (hlo : lo ≤ B) (hlo' : lo' ≤ B') (x y : Value) (w : World) (hx : ValIs lo B w us us.length (us.length - 1) x) (hy : ValIs lo' B' w vs vs.length (vs.length - 1) y) (hB : B ≤ w.heap.size) (hB' : B' ≤ w.heap.size) (hE : Errs2 w) (hk : (rootN us).kind = 2) (hk' : (rootN vs).kind = 2) :
    Calls Tryz.prog 25 #[x, y] w fun e w' => MergeAns (plusC us vs) (plusNs us vs) e w' ∧ Below w.heap.size w w' := by
  obtain ⟨tx, vx, Fx, rfl, kx⟩ := kindIs hx
  obtain ⟨ty, vy, Fy, rfl, ky⟩ := kindIs hy
  have HKX := hideIt kx
  have HKY := hideIt ky
  have HE := hideIt hE
  have m1 := kx.meth
  have e1 := kx.enter
  have m2 := ky.meth
  have e2 := ky.enter
  clear kx ky hE
  have hz1 : ((nodeAt us (us.length - 1)).kind == 1) = false := by simpa using (show ¬ (nodeAt us (us.length - 1)).kind = 1 from (by have : (nodeAt us (us.length - 1)).kind = 2 := hk; omega))
  have hz2 : ((nodeAt vs (vs.length - 1)).kind == 1) = false := by simpa using (show ¬ (nodeAt vs (vs.length - 1)).kind = 1 from (by have : (nodeAt vs (vs.length - 1)).kind = 2 := hk'; omega))
  have heq : ((nodeAt us (us.length - 1)).kind != (nodeAt vs (vs.length - 1)).kind) = false := by
    have : (nodeAt us (us.length - 1)).kind = (nodeAt vs (vs.length - 1)).kind := hk.trans hk'.symm
    simpa using this
  have HM := hideIt (plus_unlike h1 h2 (by omega) (by omega) (fun h => h.2 hk))
  obtain ⟨p1, _, _, _⟩ := okB_parts h1
  obtain ⟨f, hf⟩ : ∃ f, us.length = f + 1 := ⟨us.length - 1, by omega⟩
  have et : tx = 105 := by
    have hx2 := hx
    rw [hf, show f + 1 - 1 = f by omega] at hx2
    have hr : (nodeAt us f).kind = 2 := by have : rootN us = nodeAt us f := by unfold rootN; rw [hf]; rfl
                                           rw [← this]; exact hk
    rcases hx2 with ⟨k, e⟩ | ⟨k, e⟩ | ⟨k, e⟩ | ⟨k, e⟩ | ⟨k, it, e, hi⟩ | ⟨k, ks, it, e, hs, hi⟩
    case inr.inl => cases e; rfl
    all_goals exact absurd k (by omega)
  subst et
  have tb1 := ta_bool_int
  have tb2 := ta_bool_list
  have tb3 := tp_bool_text
  have tb4 := tp_bool_map
  clear hx hy p1 hf
  go_enter Tryz.func25, Tryz.ntmps25
  go_wp2_with fail
  refine (HKX.out.says _).mono ?_
  rintro e w1 ⟨rfl, hb1⟩
  have HB1 := hideIt hb1
  clear hb1
  go_wp2_with fail
  refine (HKY.out.says _).mono ?_
  rintro e wa ⟨rfl, hba⟩
  have HBa := hideIt (HB1.out.trans (hba.mono HB1.out.size))
  clear hba
  go_wp2_with fail
  refine (HKX.out.says _).mono ?_
  rintro e wb ⟨rfl, hbb⟩
  have HBb := hideIt (HBa.out.trans (hbb.mono HBa.out.size))
  clear hbb
  go_wp2_with fail
  refine (HKY.out.says _).mono ?_
  rintro e w2 ⟨rfl, hb2⟩
  have HB2 := hideIt (HBb.out.trans (hb2.mono HBb.out.size))
  have HE2 := hideIt (HE.out.below HB2.out)
  clear hb2
  go_wp2_with fail
  refine (wrongKind_any _ HE2.out.errs).mono ?_
  rintro e w3 ⟨⟨v, rfl, te, xe, rfl⟩, rfl⟩
  go_wp2_with fail
  go_ret2
  exact ⟨Or.inr ⟨HM.out.2, _, rfl, by rw [HM.out.1]; exact ⟨te, xe, rfl⟩⟩, HB2.out⟩
end Go.Proofs.YtfijafbpdlakaaaGreatDoor
