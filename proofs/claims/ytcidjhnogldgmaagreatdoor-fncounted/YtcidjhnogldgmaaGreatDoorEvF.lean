import Derived.Test.YtcidjhnogldgmaaGreatDoorSame
import Derived.Test.YtcidjhnogldgmaaGreatDoorIParts
import Derived.Test.YtcidjhnogldgmaaGreatDoorSLen
import Derived.Test.YtcidjhnogldgmaaGreatDoorTOk
import Derived.Test.YtcidjhnogldgmaaGreatDoorPick
namespace Go.Proofs.YtcidjhnogldgmaaGreatDoor
open Go.RowKit
set_option linter.unusedSimpArgs false
set_option linter.unusedVariables false
theorem catNs_same {L L' : Nat → List VN} : ∀ m, (∀ i, i < m → L i = L' i) → catNs L m = catNs L' m := by
  intro m
  induction m with
  | zero => intro _; rfl
  | succ m ih => intro h; rw [catNs, catNs, ih (fun i hi => h i (by omega)), h m (by omega)]
end Go.Proofs.YtcidjhnogldgmaaGreatDoor

namespace Go.Proofs.YtcidjhnogldgmaaGreatDoor
open Go.RowKit
set_option linter.unusedSimpArgs false
set_option linter.unusedVariables false
theorem shiftN_zero (x : VN) : shiftN 0 x = x := by cases x; simp [shiftN]
theorem shiftN_shiftN (a b : Int) (x : VN) : shiftN a (shiftN b x) = shiftN (a + b) x := by
  cases x
  simp only [shiftN, List.map_map]
  congr 1
  apply List.map_congr_left
  intro k _
  simp only [Function.comp]
  omega
theorem lay_at {vs : List VN} (hok : okB vs = true) {f m : Nat} (hf : m < f) (hm : m < vs.length) (sh : Nat) : layT f (treeOf vs f m) sh = (partOf vs m).map (shiftN (sh : Int)) := by
  obtain ⟨p1, _, p3, _⟩ := okB_parts hok
  obtain ⟨⟨a0, h0⟩, htr⟩ := p3 m hm
  have e : partOf vs m = run vs (-(a0 : Int)) a0 (m + 1 - a0) := by rw [partOf, htr]; simp [trF]
  rw [← lay_tree, lay_run vs f m sh a0 h0 hf htr, e]
  unfold run
  rw [List.map_map]
  apply List.map_congr_left
  intro k _
  simp only [Function.comp]
  rw [shiftN_shiftN]
  rfl
theorem lay_whole {vs : List VN} (hok : okB vs = true) : layT 81 (treeOf vs 81 (vs.length - 1)) 0 = vs := by
  obtain ⟨p1, _, _, _⟩ := okB_parts hok
  obtain ⟨h, htr⟩ := root_first hok
  rw [← lay_tree, lay_run vs 81 (vs.length - 1) 0 0 h (by omega) htr]
  have e : vs.length - 1 + 1 - 0 = vs.length := by omega
  rw [e]
  have e2 : (((0 : Nat) : Int) - ((0 : Nat) : Int)) = 0 := by omega
  rw [e2, run_all]
  have : (shiftN 0) = id := by funext x; exact shiftN_zero x
  rw [this, List.map_id]
def partTs (vs : List VN) : List VT := (rootKids vs).map fun k => treeOf vs 80 k.toNat
theorem cat_parts {vs : List VN} (hok : okB vs = true) : ∀ k, k ≤ (rootKids vs).length → accT 80 0 (partTs vs) k = catNs (PL vs) k ∧ ksT 80 0 (partTs vs) k = catKs (PL vs) k := by
  have hlen : (partTs vs).length = (rootKids vs).length := by simp [partTs]
  have p1 := (okB_parts hok).1
  intro k
  induction k with
  | zero => intro _; exact ⟨accT_zero _ _ _, ksT_zero _ _ _⟩
  | succ k ih =>
    intro hk
    obtain ⟨h1, h2⟩ := ih (by omega)
    have hlt : k < (partTs vs).length := by omega
    obtain ⟨q, hq, hql⟩ := root_kid hok (k := k) (by omega)
    have hkt : kidT (partTs vs) k = treeOf vs 80 q := by unfold partTs; rw [kidT_map (by omega), hq]; simp
    have hpl : PL vs k = partOf vs q := by unfold PL; rw [hq]; simp
    have e : accT 80 0 (partTs vs) (k + 1) = catNs (PL vs) (k + 1) := by
      rw [accT_succ 80 0 hlt, h1, hkt, lay_at hok (by omega) (by omega), Nat.zero_add, catNs, hpl]
    refine ⟨e, ?_⟩
    rw [ksT_succ 80 0 hlt, h2, e, Nat.zero_add]
    rfl
theorem make_parts {vs : List VN} (hok : okB vs = true) (hk : (nodeAt vs (vs.length - 1)).kind = 5 ∨ (nodeAt vs (vs.length - 1)).kind = 6) : makeNs (nodeAt vs (vs.length - 1)).kind (nodeAt vs (vs.length - 1)).keys (PL vs) (rootKids vs).length = vs := by
  have hw := lay_whole hok
  rw [treeOf, layT_eq] at hw
  have hlen : (partTs vs).length = (rootKids vs).length := by simp [partTs]
  obtain ⟨c1, c2⟩ := cat_parts hok _ (Nat.le_refl _)
  have e1 : ((nodeAt vs (vs.length - 1)).kids.map fun k => treeOf vs 80 k.toNat) = partTs vs := rfl
  rw [e1, hlen, c1, c2] at hw
  have p1 := (okB_parts hok).1
  have hn := ((okB_parts hok).2.1 (vs.length - 1) (by omega)).1
  have hz : (nodeAt vs (vs.length - 1)).n = 0 ∧ (nodeAt vs (vs.length - 1)).s = ByteArray.empty := by
    unfold nodeB unnamedB at hn
    have es : ∀ s : ByteArray, s.toList = [] → s = ByteArray.empty := fun s h => by
      cases s with | mk d => rw [ByteArray.toList_eq] at h; simp at h; subst h; rfl
    simp only [Bool.and_eq_true, Bool.not_eq_true', Bool.and_eq_false_iff, decide_eq_false_iff_not, Decidable.not_not, Nat.not_lt, Nat.le_zero, List.length_eq_zero_iff] at hn
    obtain ⟨⟨⟨⟨n1, n2⟩, n3⟩, n4⟩, _⟩ := hn
    exact ⟨by omega, es _ (by rcases n2 with h | h; omega; exact h)⟩
  rw [hz.1, hz.2] at hw
  exact hw
theorem parts_ok {vs : List VN} (hok : okB vs = true) : allB (PL vs) (rootKids vs).length = true ∧ (rootKids vs).length ≤ 80 := by
  have p := okB_parts hok
  refine ⟨allB_of fun i hi => ?_, (keys_few hok (vs.length - 1) (by have := p.1; omega)).2.1⟩
  obtain ⟨q, hq, hql⟩ := root_kid hok hi
  have e : PL vs i = partOf vs q := by unfold PL; rw [hq]; simp
  rw [e]
  exact part_okB hok (by omega)
end Go.Proofs.YtcidjhnogldgmaaGreatDoor

namespace Go.Proofs.YtcidjhnogldgmaaGreatDoor
open Go.RowKit
set_option linter.unusedSimpArgs false
set_option linter.unusedVariables false
def hitB (us vs : List VN) (i k : Nat) : Bool := decide (orderOf (PL us i) (PL vs k) = 0)
def leftIx (us vs : List VN) (i : Nat) : List Nat := pickIx (fun i => anyTo (hitB us vs i) (rootKids vs).length) i
def leftL (us vs : List VN) (j : Nat) : List VN := PL us ((leftIx us vs (rootKids us).length).getD j 0)
def leftNs (us vs : List VN) : List VN := makeNs 5 [] (leftL us vs) (leftIx us vs (rootKids us).length).length
theorem leftIx_lt (us vs : List VN) (i : Nat) : (leftIx us vs i).length ≤ i ∧ ∀ x ∈ leftIx us vs i, x < i := pickIx_lt _ i
theorem getD_snoc_lt {l : List Nat} {x j : Nat} (h : j < l.length) : (l ++ [x]).getD j 0 = l.getD j 0 := by
  rw [List.getD_eq_getElem?_getD, List.getD_eq_getElem?_getD, List.getElem?_append_left h]
theorem getD_snoc_end {l : List Nat} {x : Nat} : (l ++ [x]).getD l.length 0 = x := by
  rw [List.getD_eq_getElem?_getD]; simp
theorem left_le (us vs : List VN) (L : Nat → List VN) : ∀ i, (catNs (fun j => L ((leftIx us vs i).getD j 0)) (leftIx us vs i).length).length ≤ (catNs L i).length := by
  intro i
  induction i with
  | zero => exact Nat.le_refl _
  | succ i ih =>
    rw [show leftIx us vs (i + 1) = if anyTo (hitB us vs i) (rootKids vs).length = true then leftIx us vs i else leftIx us vs i ++ [i] from rfl, catNs_len]
    split
    · omega
    · rw [List.length_append, List.length_singleton, catNs_len, getD_snoc_end]
      rw [catNs_same (L' := fun j => L ((leftIx us vs i).getD j 0)) _ (fun j hj => by rw [getD_snoc_lt hj])]
      omega
theorem left_ok {us : List VN} (hok : okB us = true) (vs : List VN) : ∀ j, j < (leftIx us vs (rootKids us).length).length → okB (leftL us vs j) = true := by
  intro j hj
  have hm := (leftIx_lt us vs (rootKids us).length).2 _ (show (leftIx us vs (rootKids us).length).getD j 0 ∈ _ by
    rw [List.getD_eq_getElem?_getD, List.getElem?_eq_getElem hj]; exact List.getElem_mem hj)
  exact allB_yes (parts_ok hok).1 _ hm
theorem left_few {us : List VN} (hok : okB us = true) (hk : (rootN us).kind = 5) (vs : List VN) (hf : ∀ i, i < us.length → Fits (nodeAt us i)) : Few (leftNs us vs) ∧ ∀ i, i < (leftNs us vs).length → Fits (nodeAt (leftNs us vs) i) := by
  have hl := leftIx_lt us vs (rootKids us).length
  have h80 := (parts_ok hok).2
  have hpf := PL_few hf
  have hpn : partsN us = (rootKids us).length := by unfold partsN; rw [if_pos hok]
  rw [hpn] at hpf
  have hlt : ∀ j, j < (leftIx us vs (rootKids us).length).length → (leftIx us vs (rootKids us).length).getD j 0 < (rootKids us).length := fun j hj => hl.2 _ (by
    rw [List.getD_eq_getElem?_getD, List.getElem?_eq_getElem hj]; exact List.getElem_mem hj)
  have hn := make_nice (L := leftL us vs) (m := (leftIx us vs (rootKids us).length).length) (by omega) (left_ok hok vs) (fun j hj => (hpf.2 _ (hlt j hj)).2) (kind := 5) (by omega) (by omega) (keys := []) (by simp) (fun i hi => absurd hi (by simp))
  have hlen : (leftNs us vs).length ≤ 80 := by
    have h1 := left_le us vs (PL us) (rootKids us).length
    have h2 := congrArg List.length (make_parts hok (Or.inl hk))
    have h3 := (okB_parts hok).1
    unfold makeNs at h2
    unfold leftNs makeNs
    simp only [List.length_append, List.length_singleton] at h2 ⊢
    unfold leftL
    omega
  exact ⟨⟨hlen, fun i hi => ⟨(hn.2 i hi).2.1, (hn.2 i hi).2.2.1⟩⟩, fun i hi => (hn.2 i hi).1⟩
def leftTs (us vs : List VN) (F : Nat) : List VT := (leftIx us vs (rootKids us).length).map fun i => treeOf us F (intAt (rootKids us) i).toNat
theorem lay_left {us : List VN} (hok : okB us = true) (vs : List VN) {F : Nat} (hF : us.length ≤ F) : layT (F + 1) (.mk 5 0 ByteArray.empty [] (leftTs us vs F)) 0 = leftNs us vs := by
  have hl := leftIx_lt us vs (rootKids us).length
  have hlen : (leftTs us vs F).length = (leftIx us vs (rootKids us).length).length := by simp [leftTs]
  have hcat : ∀ k, k ≤ (leftIx us vs (rootKids us).length).length → accT F 0 (leftTs us vs F) k = catNs (leftL us vs) k ∧ ksT F 0 (leftTs us vs F) k = catKs (leftL us vs) k := by
    intro k
    induction k with
    | zero => intro _; exact ⟨accT_zero _ _ _, ksT_zero _ _ _⟩
    | succ k ih =>
      intro hk
      obtain ⟨h1, h2⟩ := ih (by omega)
      have hlt : k < (leftTs us vs F).length := by omega
      have hx := hl.2 _ (show (leftIx us vs (rootKids us).length).getD k 0 ∈ _ by
        rw [List.getD_eq_getElem?_getD, List.getElem?_eq_getElem (by omega)]; exact List.getElem_mem (by omega))
      obtain ⟨q, hq, hql⟩ := root_kid hok (k := (leftIx us vs (rootKids us).length).getD k 0) hx
      have hkt : kidT (leftTs us vs F) k = treeOf us F q := by
        unfold leftTs kidT
        rw [List.getD_eq_getElem?_getD, List.getElem?_map, List.getElem?_eq_getElem (show k < (leftIx us vs (rootKids us).length).length by omega)]
        simp only [Option.map_some, Option.getD_some]
        rw [List.getD_eq_getElem?_getD, List.getElem?_eq_getElem (show k < (leftIx us vs (rootKids us).length).length by omega), Option.getD_some] at hq
        rw [hq]; simp
      have hpl : leftL us vs k = partOf us q := by unfold leftL PL; rw [hq]; simp
      have e : accT F 0 (leftTs us vs F) (k + 1) = catNs (leftL us vs) (k + 1) := by
        rw [accT_succ F 0 hlt, h1, hkt, lay_at hok (by omega) (by omega), Nat.zero_add, catNs, hpl]
      refine ⟨e, ?_⟩
      rw [ksT_succ F 0 hlt, h2, e, Nat.zero_add]
      rfl
  rw [layT_eq, hlen]
  obtain ⟨c1, c2⟩ := hcat _ (Nat.le_refl _)
  rw [c1, c2]
  rfl
def diffNs (us vs : List VN) : List VN := leafN 3 ((rootN us).n - (rootN vs).n) ByteArray.empty
def minC (us vs : List VN) : Int :=
  if okB us = true ∧ okB vs = true then
    if (rootN us).kind = 3 ∧ (rootN vs).kind = 3 then (if okB (diffNs us vs) = true then 0 else 3)
    else if (rootN us).kind = 5 ∧ (rootN vs).kind = 5 then 0 else 2
  else 1
def minNs (us vs : List VN) : List VN :=
  if okB us = true ∧ okB vs = true then
    if (rootN us).kind = 3 ∧ (rootN vs).kind = 3 then (if okB (diffNs us vs) = true then diffNs us vs else [])
    else if (rootN us).kind = 5 ∧ (rootN vs).kind = 5 then leftNs us vs else []
  else []
end Go.Proofs.YtcidjhnogldgmaaGreatDoor

namespace Go.Proofs.YtcidjhnogldgmaaGreatDoor
open Go.RowKit
set_option linter.unusedSimpArgs false
set_option linter.unusedVariables false
def sumNs (us vs : List VN) : List VN := leafN 3 ((rootN us).n + (rootN vs).n) ByteArray.empty
def textNs (us vs : List VN) : List VN := leafN 4 0 ((rootN us).s ++ (rootN vs).s)
def bothL (us vs : List VN) (j : Nat) : List VN := if j < (rootKids us).length then PL us j else PL vs (j - (rootKids us).length)
def bothNs (us vs : List VN) : List VN := makeNs 5 [] (bothL us vs) ((rootKids us).length + (rootKids vs).length)
def moreIx (us vs : List VN) (i : Nat) : List Nat := pickIx (fun i => hasK (rootN vs).keys (keyAt (rootN us).keys i)) i
def joinK (us vs : List VN) : List ByteArray := (rootN vs).keys ++ (moreIx us vs (rootN us).keys.length).map (keyAt (rootN us).keys)
def joinL (us vs : List VN) (j : Nat) : List VN := if j < (rootKids vs).length then PL vs j else PL us ((moreIx us vs (rootN us).keys.length).getD (j - (rootKids vs).length) 0)
def joinN (us vs : List VN) : Nat := (rootKids vs).length + (moreIx us vs (rootN us).keys.length).length
def joinNs (us vs : List VN) : List VN := match sortIn (joinK us vs) (joinK us vs).length with
  | some (ns, ps) => makeNs 6 ns (fun j => joinL us vs (ps.getD j 0)) (joinN us vs)
  | none => []
def rawPlus (us vs : List VN) : List VN :=
  if (rootN us).kind = 3 then sumNs us vs else if (rootN us).kind = 4 then textNs us vs else if (rootN us).kind = 5 then bothNs us vs else joinNs us vs
def plusC (us vs : List VN) : Int :=
  if okB us = true ∧ okB vs = true then
    if (rootN us).kind = 1 then 0 else if (rootN vs).kind = 1 then 0
    else if (rootN us).kind = (rootN vs).kind ∧ (rootN us).kind ≠ 2 then (if okB (rawPlus us vs) = true then 0 else 3) else 2
  else 1
def plusNs (us vs : List VN) : List VN :=
  if okB us = true ∧ okB vs = true then
    if (rootN us).kind = 1 then vs else if (rootN vs).kind = 1 then us
    else if (rootN us).kind = (rootN vs).kind ∧ (rootN us).kind ≠ 2 then (if okB (rawPlus us vs) = true then rawPlus us vs else []) else []
  else []
theorem map_keys {us : List VN} (h : okB us = true) (hk : (rootN us).kind = 6) : (rootN us).keys.length = (rootKids us).length ∧ riseB (rootN us).keys = true := by
  have p1 := (okB_parts h).1
  have hn := ((okB_parts h).2.1 (us.length - 1) (by omega)).1
  change nodeB (rootN us) = true at hn
  unfold nodeB namedB at hn
  simp [hk] at hn
  exact hn.2
end Go.Proofs.YtcidjhnogldgmaaGreatDoor

namespace Go.Proofs.YtcidjhnogldgmaaGreatDoor
open Go.RowKit
set_option linter.unusedSimpArgs false
set_option linter.unusedVariables false
abbrev EvSt := Nat × List (List VN)
abbrev HandM := List VN → EvSt → Int × EvSt
structure OcR where
  c : Int
  l : List (List VN)
  fu : Nat
abbrev OcM := Nat → List VN → Nat → OcR
def handAllM (h : HandM) : List (List VN) → EvSt → Int × EvSt
  | [], st => (0, st)
  | x :: r, st => if (h x st).1 = 0 then handAllM h r (h x st).2 else h x st
def eachM (oc : OcM) (n : Int) (v : List VN) (h : HandM) (st : EvSt) : Int × EvSt :=
  if (oc n.toNat v st.1).c = 0 then handAllM h (oc n.toNat v st.1).l ((oc n.toNat v st.1).fu, st.2) else ((oc n.toNat v st.1).c, ((oc n.toNat v st.1).fu, st.2))
def handO (r : Int × List VN) (h : HandM) (st : EvSt) : Int × EvSt := if r.1 = 0 then h r.2 st else (r.1, st)
def heldM (r : OcR) : OcR := if r.c = 2 then ⟨0, [], r.fu⟩ else r
def pushM : HandM := fun x st => if st.2.length = 40 then (3, st) else (0, (st.1, st.2 ++ [x]))
def boolNs (b : Bool) : List VN := leafN 2 (if b = true then 1 else 0) ByteArray.empty
def nullNs : List VN := leafN 1 0 ByteArray.empty
def trueB (v : List VN) : Bool := !(decide ((rootN v).kind = 1)) && (!(decide ((rootN v).kind = 2)) || decide ((rootN v).n = 1))
def rightR (ns : List VN) : Int × List VN := if okB ns = true then (0, ns) else (3, [])
def partsL (v : List VN) : List (List VN) := (List.range (rootKids v).length).map (PL v)
def rowAt (l : List (List VN)) (j : Nat) : List VN := l.getD j []
def listNsO (l : List (List VN)) : List VN := makeNs 5 [] (rowAt l) l.length
def mapNsO (names : List ByteArray) (l : List (List VN)) : List VN := makeNs 6 names (rowAt l) l.length
def keyR (v : List VN) (name : ByteArray) : Int × List VN :=
  if (rootN v).kind = 1 then (0, nullNs)
  else if (rootN v).kind = 6 then (if hasK (rootN v).keys name = true then (0, PL v (posK (rootN v).keys name)) else (0, nullNs))
  else (2, [])
def placeOfM (v : List VN) (p : Int) : Int := if p < 0 then p + ((rootKids v).length : Int) else p
def atR (v : List VN) (p : Int) : Int × List VN :=
  if (rootN v).kind = 1 then (0, nullNs)
  else if (rootN v).kind = 5 then (if 0 ≤ placeOfM v p ∧ placeOfM v p < ((rootKids v).length : Int) then (0, PL v (placeOfM v p).toNat) else (0, nullNs))
  else (2, [])
def keyL (v : List VN) : List (List VN) :=
  if (rootN v).kind = 6 then (rootN v).keys.map (fun k => leafN 4 0 k) else (List.range (rootKids v).length).map (fun i : Nat => leafN 3 (i : Int) ByteArray.empty)
def keysR (v : List VN) : Int × List VN := if (rootN v).kind = 5 ∨ (rootN v).kind = 6 then rightR (listNsO (keyL v)) else (2, [])
def oneR (x : FN) (v : List VN) : Int × List VN :=
  if x.kind = 2 then keyR v x.name
  else if x.kind = 3 then atR v x.place
  else if x.kind = 5 then (0, x.cst)
  else if x.kind = 11 then (lenC v, lenNs v)
  else if x.kind = 12 then keysR v
  else if x.kind = 13 then (0, boolNs (!trueB v))
  else (0, v)
def whetherB (kind : Int) (o : Int) : Bool := if kind = 17 then decide (o = 0) else if kind = 18 then !decide (o = 0) else if kind = 19 then decide (o < 0) else decide (o ≤ 0)
def mergeR (kind : Int) (a b : List VN) : Int × List VN :=
  if kind = 15 then (plusC a b, plusNs a b) else if kind = 16 then (minC a b, minNs a b) else (0, boolNs (whetherB kind (orderOf a b)))
def evMapM (oc : OcM) (names : List ByteArray) (v : List VN) (h : HandM) : List Int → List (List VN) → EvSt → Int × EvSt
  | [], done, st => handO (rightR (mapNsO names done)) h st
  | k :: ks, done, st => eachM oc k v (fun y => evMapM oc names v h ks (done ++ [y])) st
def trueH (h : HandM) : HandM := fun x st => if trueB x = true then h x st else (0, st)
def altM (oc : OcM) (k1 : Int) (v : List VN) (h : HandM) (r : OcR) (outs : List (List VN)) : Int × EvSt :=
  if r.c = 0 then (if r.l.any trueB = true then handAllM (trueH h) r.l (r.fu, outs) else eachM oc k1 v h (r.fu, outs)) else (r.c, (r.fu, outs))
def tryM (h : HandM) (r : OcR) (outs : List (List VN)) : Int × EvSt :=
  if r.c = 0 then handAllM h r.l (r.fu, outs) else (r.c, (r.fu, outs))
def kidF (x : FN) (j : Nat) : Int := intAt x.kids j
def commaM (oc : OcM) (x : FN) (v : List VN) (h : HandM) (st : EvSt) : Int × EvSt :=
  if (eachM oc (kidF x 0) v h st).1 = 0 then eachM oc (kidF x 1) v h (eachM oc (kidF x 0) v h st).2 else eachM oc (kidF x 0) v h st
def listM (oc : OcM) (x : FN) (v : List VN) (h : HandM) (st : EvSt) : Int × EvSt :=
  if x.kids.length = 0 then h (listNsO []) st
  else if (oc (kidF x 0).toNat v st.1).c = 0 then handO (rightR (listNsO (oc (kidF x 0).toNat v st.1).l)) h ((oc (kidF x 0).toNat v st.1).fu, st.2)
  else ((oc (kidF x 0).toNat v st.1).c, ((oc (kidF x 0).toNat v st.1).fu, st.2))
def evM (oc : OcM) (x : FN) (v : List VN) (h : HandM) (st : EvSt) : Int × EvSt :=
  if x.kind = 14 then (0, st)
  else if x.kind = 4 then (if (rootN v).kind = 5 ∨ (rootN v).kind = 6 then handAllM h (partsL v) st else (2, st))
  else if x.kind = 6 then eachM oc (kidF x 0) v (fun y => eachM oc (kidF x 1) y h) st
  else if x.kind = 7 then commaM oc x v h st
  else if x.kind = 8 then listM oc x v h st
  else if x.kind = 9 then evMapM oc x.names v h x.kids [] st
  else if x.kind = 10 then eachM oc (kidF x 0) v (fun y st => if trueB y = true then h v st else (0, st)) st
  else if 15 ≤ x.kind ∧ x.kind ≤ 20 then eachM oc (kidF x 0) v (fun a => eachM oc (kidF x 1) v (fun b => handO (mergeR x.kind a b) h)) st
  else if x.kind = 21 then altM oc (kidF x 1) v h (heldM (oc (kidF x 0).toNat v st.1)) st.2
  else if x.kind = 22 then eachM oc (kidF x 0) v (fun y => if trueB y = true then eachM oc (kidF x 1) v h else eachM oc (kidF x 2) v h) st
  else if x.kind = 23 then tryM h (heldM (oc (kidF x 0).toNat v st.1)) st.2
  else handO (oneR x v) h st
def ocsM (F : List FN) : Nat → OcM
  | 0, n, v, fu => ⟨4, [], fu⟩
  | d + 1, n, v, fu =>
    if fu = 0 then ⟨4, [], 0⟩
    else if (evM (ocsM F d) (fnAt F n) v pushM (fu - 1, [])).1 = 0 then ⟨0, (evM (ocsM F d) (fnAt F n) v pushM (fu - 1, [])).2.2, (evM (ocsM F d) (fnAt F n) v pushM (fu - 1, [])).2.1⟩
    else ⟨(evM (ocsM F d) (fnAt F n) v pushM (fu - 1, [])).1, [], (evM (ocsM F d) (fnAt F n) v pushM (fu - 1, [])).2.1⟩
def HandGood (G : EvSt → EvSt → Prop) (h : HandM) : Prop := ∀ x st, okB x = true → G st (h x st).2
structure OcGood (oc : OcM) : Prop where
  ok : ∀ n v fu, okB v = true → ∀ x ∈ (oc n v fu).l, okB x = true
  few : ∀ n v fu, okB v = true → (oc n v fu).l.length ≤ 40
  le : ∀ n v fu, okB v = true → (oc n v fu).fu ≤ fu
def Goes (st st' : EvSt) : Prop := st'.1 ≤ st.1 ∧ ((∀ x ∈ st.2, okB x = true) → ∀ x ∈ st'.2, okB x = true) ∧ (st.2.length ≤ 40 → st'.2.length ≤ 40)
theorem Goes.refl (st : EvSt) : Goes st st := ⟨Nat.le_refl _, id, id⟩
theorem Goes.trans {a b c : EvSt} (h : Goes a b) (k : Goes b c) : Goes a c := ⟨Nat.le_trans k.1 h.1, fun x => k.2.1 (h.2.1 x), fun x => k.2.2 (h.2.2 x)⟩
theorem handAll_goes {h : HandM} (hh : HandGood Goes h) : ∀ (l : List (List VN)) (st : EvSt), (∀ x ∈ l, okB x = true) → Goes st (handAllM h l st).2 := by
  intro l
  induction l with
  | nil => intro st _; exact Goes.refl _
  | cons x r ih =>
    intro st hl
    rw [handAllM]
    have h1 := hh x st (hl x (by simp))
    split
    · exact h1.trans (ih _ fun y hy => hl y (by simp [hy]))
    · exact h1
theorem each_goes {oc : OcM} (ho : OcGood oc) {h : HandM} (hh : HandGood Goes h) (n : Int) {v : List VN} (hv : okB v = true) (st : EvSt) : Goes st (eachM oc n v h st).2 := by
  unfold eachM
  have h1 : Goes st ((oc n.toNat v st.1).fu, st.2) := ⟨ho.le _ _ _ hv, id, id⟩
  split
  · exact h1.trans (handAll_goes hh _ _ (ho.ok _ _ _ hv))
  · exact h1
theorem handO_goes {h : HandM} (hh : HandGood Goes h) {r : Int × List VN} (hr : r.1 = 0 → okB r.2 = true) (st : EvSt) : Goes st (handO r h st).2 := by
  unfold handO
  split
  · rename_i e; exact hh _ _ (hr e)
  · exact Goes.refl _
theorem right_ok {ns : List VN} (h : (rightR ns).1 = 0) : okB (rightR ns).2 = true := by
  unfold rightR at h ⊢
  split <;> simp_all
theorem push_goes : HandGood Goes pushM := by
  intro x st hx
  unfold pushM
  split
  · exact Goes.refl _
  · rename_i e
    refine ⟨Nat.le_refl _, fun h y hy => ?_, fun h => ?_⟩
    · simp only [List.mem_append, List.mem_singleton] at hy
      rcases hy with hy | rfl
      · exact h y hy
      · exact hx
    · simp only [List.length_append, List.length_singleton]; omega
end Go.Proofs.YtcidjhnogldgmaaGreatDoor

namespace Go.Proofs.YtcidjhnogldgmaaGreatDoor
open Go.RowKit
set_option linter.unusedSimpArgs false
set_option linter.unusedVariables false
theorem TreeAt.full {B : Nat} {w : World} : ∀ {f : Nat} {t : VT} {v : Value}, TreeAt B w f t v → FullT f t := by
  intro f
  induction f with
  | zero => intro t v h; exact h.elim
  | succ f ih =>
    intro t v h
    obtain ⟨kind, n, s, keys, kids⟩ := t
    have hit : ∀ it, TItems B w it kids.length (fun j u => TreeAt B w f (kidT kids j) u) → ∀ j, j < kids.length → FullT f (kidT kids j) := by
      rintro it ⟨_, a, cap, e, hx⟩ j hj
      obtain ⟨b, ea, h2, h3⟩ := hx (by omega)
      obtain ⟨t, x, _, hv⟩ := h3 j hj
      exact ih hv
    rcases h with ⟨_, _, _, _, hk, _⟩ | ⟨_, _, _, hk, _⟩ | ⟨_, _, _, hk, _⟩ | ⟨_, _, _, hk, _⟩ | ⟨_, _, _, _, it, _, hi⟩ | ⟨_, _, _, ks, it, _, _, hi⟩
    · subst hk; exact fun j hj => absurd hj (by simp)
    · subst hk; exact fun j hj => absurd hj (by simp)
    · subst hk; exact fun j hj => absurd hj (by simp)
    · subst hk; exact fun j hj => absurd hj (by simp)
    · exact hit it hi
    · exact hit it hi
theorem TreeAt.less {B : Nat} {w : World} : ∀ {g f : Nat} {t : VT} {v : Value}, FullT g t → TreeAt B w f t v → TreeAt B w g t v := by
  intro g
  induction g with
  | zero => intro f t v hf _; exact hf.elim
  | succ g ih =>
    intro f t v hf h
    cases f with
    | zero => exact h.elim
    | succ f =>
      obtain ⟨kind, n, s, keys, kids⟩ := t
      have hit : ∀ it, TItems B w it kids.length (fun j u => TreeAt B w f (kidT kids j) u) → TItems B w it kids.length (fun j u => TreeAt B w g (kidT kids j) u) := by
        rintro it ⟨h0, a, cap, e, hx⟩
        refine ⟨h0, a, cap, e, fun hn => ?_⟩
        obtain ⟨b, ea, h2, h3⟩ := hx hn
        refine ⟨b, ea, h2, fun j hj => ?_⟩
        obtain ⟨t, x, hc, hv⟩ := h3 j hj
        exact ⟨t, x, hc, ih (hf j hj) hv⟩
      rcases h with h | h | h | h | ⟨h1, h2, h3, h4, it, e, hi⟩ | ⟨h1, h2, h3, ks, it, e, hs, hi⟩
      · exact Or.inl h
      · exact Or.inr (Or.inl h)
      · exact Or.inr (Or.inr (Or.inl h))
      · exact Or.inr (Or.inr (Or.inr (Or.inl h)))
      · exact Or.inr (Or.inr (Or.inr (Or.inr (Or.inl ⟨h1, h2, h3, h4, it, e, hit it hi⟩))))
      · exact Or.inr (Or.inr (Or.inr (Or.inr (Or.inr ⟨h1, h2, h3, ks, it, e, hs, hit it hi⟩))))
structure Reads2 (w w' : World) : Prop where
  size : w.heap.size ≤ w'.heap.size
  ifc : ∀ b o t x, w.cell? ⟨b, o, none⟩ = some (.iface t x) → w'.cell? ⟨b, o, none⟩ = some (.iface t x)
  str : ∀ b o s, w.cell? ⟨b, o, none⟩ = some (.string s) → w'.cell? ⟨b, o, none⟩ = some (.string s)
theorem StrsAt.reads {B B' : Nat} {w w' : World} {v : Value} {l : List ByteArray} (hr : Reads2 w w') (hB : B ≤ B') (h : StrsAt B w v l) : StrsAt B' w' v l := by
  obtain ⟨h1, h2, a, cap, e, h3⟩ := h
  refine ⟨h1, h2, a, cap, e, fun hp => ?_⟩
  obtain ⟨b, o, ea, hb, hc⟩ := h3 hp
  exact ⟨b, o, ea, by omega, fun i hi => hr.str _ _ _ (hc i hi)⟩
theorem TreeAt.reads {B B' : Nat} {w w' : World} (hr : Reads2 w w') (hB : B ≤ B') : ∀ {f : Nat} {t : VT} {v : Value}, TreeAt B w f t v → TreeAt B' w' f t v := by
  intro f
  induction f with
  | zero => intro t v h; exact h.elim
  | succ f ih =>
    intro t v h
    obtain ⟨kind, n, s, keys, kids⟩ := t
    have hit : ∀ it, TItems B w it kids.length (fun j u => TreeAt B w f (kidT kids j) u) → TItems B' w' it kids.length (fun j u => TreeAt B' w' f (kidT kids j) u) := by
      rintro it ⟨h0, a, cap, e, hx⟩
      refine ⟨h0, a, cap, e, fun hn => ?_⟩
      obtain ⟨b, ea, h2, h3⟩ := hx hn
      refine ⟨b, ea, by omega, fun j hj => ?_⟩
      obtain ⟨t, x, hc, hv⟩ := h3 j hj
      exact ⟨t, x, hr.ifc _ _ _ _ hc, ih hv⟩
    rcases h with h | h | h | h | ⟨h1, h2, h3, h4, it, e, hi⟩ | ⟨h1, h2, h3, ks, it, e, hs, hi⟩
    · exact Or.inl h
    · exact Or.inr (Or.inl h)
    · exact Or.inr (Or.inr (Or.inl h))
    · exact Or.inr (Or.inr (Or.inr (Or.inl h)))
    · exact Or.inr (Or.inr (Or.inr (Or.inr (Or.inl ⟨h1, h2, h3, h4, it, e, hit it hi⟩))))
    · exact Or.inr (Or.inr (Or.inr (Or.inr (Or.inr ⟨h1, h2, h3, ks, it, e, hs.reads hr hB, hit it hi⟩))))
def Rep (w : World) (ns : List VN) (x : Value) : Prop := okB ns = true ∧ TreeAt w.heap.size w 80 (rootT ns) x
theorem Rep.reads {w w' : World} {ns : List VN} {x : Value} (h : Rep w ns x) (hr : Reads2 w w') : Rep w' ns x := ⟨h.1, h.2.reads hr hr.size⟩
theorem Rep.iface {w : World} {ns : List VN} {x : Value} (h : Rep w ns x) : ∃ t y, x = .iface t y := h.2.iface
theorem root_lay {ns : List VN} (h : okB ns = true) : layT 80 (rootT ns) 0 = ns := by
  rw [lay_root h 0]
  have : ns.map (shiftN ((0 : Nat) : Int)) = ns.map id := List.map_congr_left fun x _ => shiftN_zero x
  rw [this, List.map_id]
theorem root_full {ns : List VN} (h : okB ns = true) : FullT 80 (rootT ns) := by
  have p := (okB_parts h).1
  exact (good_tree h 80 (ns.length - 1) (by omega) (by omega)).full
theorem root_back {ns : List VN} (h : okB ns = true) {f : Nat} {t : VT} (hf : FullT f t) (hl : layT f t 0 = ns) : t = rootT ns := by
  have h1 := tree_back hf ns 0 (f + 80) (by omega) (fun j hj => by rw [Nat.zero_add, hl])
  have h2 := tree_back (root_full h) ns 0 (f + 80) (by omega) (fun j hj => by rw [Nat.zero_add, root_lay h])
  rw [hl] at h1
  rw [root_lay h] at h2
  exact h1.symm.trans h2
theorem Rep.of {w : World} {ns : List VN} {x : Value} {f : Nat} {t : VT} (ht : TreeAt w.heap.size w f t x) (hl : layT f t 0 = ns) (ok : okB ns = true) : Rep w ns x := by
  have e := root_back ok ht.full hl
  subst e
  exact ⟨ok, ht.less (root_full ok)⟩
theorem root_mk (ns : List VN) : rootT ns = .mk (rootN ns).kind (rootN ns).n (rootN ns).s (rootN ns).keys ((rootKids ns).map fun k => treeOf ns 79 k.toNat) := rfl
theorem kid_map (ns : List VN) {j : Nat} (h : j < (rootKids ns).length) : kidT ((rootKids ns).map fun k => treeOf ns 79 k.toNat) j = treeOf ns 79 (intAt (rootKids ns) j).toNat := kidT_map h
theorem PL_lay {ns : List VN} (ok : okB ns = true) {j : Nat} (h : j < (rootKids ns).length) : layT 79 (treeOf ns 79 (intAt (rootKids ns) j).toNat) 0 = PL ns j := by
  obtain ⟨q, hq, hql⟩ := root_kid ok h
  have p := (okB_parts ok).1
  unfold PL
  rw [hq, Int.toNat_natCast]
  exact (lay_part ok (by omega) (by omega)).1
end Go.Proofs.YtcidjhnogldgmaaGreatDoor

namespace Go.Proofs.YtcidjhnogldgmaaGreatDoor
open Go.RowKit
set_option linter.unusedSimpArgs false
set_option linter.unusedVariables false
theorem leaf_ok {k n : Int} {s : ByteArray} (h : nodeB ⟨k, n, s, [], []⟩ = true) : okB (leafN k n s) = true := by
  unfold okB sizeB
  have e2 : (List.range (leafN k n s).length) = [0] := by unfold leafN; rfl
  rw [e2]
  have e3 : nodeAt (leafN k n s) 0 = ⟨k, n, s, [], []⟩ := rfl
  have e4 : kidsIn (leafN k n s) 0 = true := rfl
  have e5 : rootB (leafN k n s) = true := rfl
  rw [e5, Bool.and_true]
  simp only [List.all_cons, List.all_nil, e3, h, e4, Bool.and_self, Bool.and_true]
  rfl
theorem empty_toList : ByteArray.empty.toList = [] := by rw [ByteArray.toList_eq]; rfl
theorem null_ok : okB nullNs = true := leaf_ok (by unfold nodeB unnamedB namedB; simp [empty_toList])
theorem bool_ok (b : Bool) : okB (boolNs b) = true := leaf_ok (by unfold nodeB unnamedB namedB; cases b <;> simp [empty_toList])
theorem PL_ok {v : List VN} (h : okB v = true) {j : Nat} (hj : j < (rootKids v).length) : okB (PL v j) = true := by
  obtain ⟨q, hq, hql⟩ := root_kid h hj
  unfold PL
  rw [hq, Int.toNat_natCast]
  exact part_okB h (by omega)
theorem parts_okL {v : List VN} (h : okB v = true) : ∀ x ∈ partsL v, okB x = true := by
  intro x hx
  unfold partsL at hx
  obtain ⟨j, hj, rfl⟩ := List.mem_map.1 hx
  exact PL_ok h (List.mem_range.1 hj)
theorem hasK_lt {l : List ByteArray} {key : ByteArray} (h : hasK l key = true) : posK l key < l.length := by
  unfold hasK at h
  simp only [Bool.and_eq_true, decide_eq_true_eq] at h
  exact h.1
theorem keyR_ok {v : List VN} (h : okB v = true) (s : ByteArray) (he : (keyR v s).1 = 0) : okB (keyR v s).2 = true := by
  unfold keyR at he ⊢
  by_cases k1 : (rootN v).kind = 1
  · rw [if_pos k1]; exact null_ok
  · rw [if_neg k1] at he ⊢
    by_cases k6 : (rootN v).kind = 6
    · rw [if_pos k6]
      by_cases hk : hasK (rootN v).keys s = true
      · rw [if_pos hk]
        have := hasK_lt hk
        exact PL_ok h (by rw [← (map_keys h k6).1]; exact this)
      · rw [if_neg hk]; exact null_ok
    · rw [if_neg k6] at he; simp at he
theorem atR_ok {v : List VN} (h : okB v = true) (p : Int) (he : (atR v p).1 = 0) : okB (atR v p).2 = true := by
  unfold atR at he ⊢
  by_cases k1 : (rootN v).kind = 1
  · rw [if_pos k1]; exact null_ok
  · rw [if_neg k1] at he ⊢
    by_cases k5 : (rootN v).kind = 5
    · rw [if_pos k5]
      by_cases hp : 0 ≤ placeOfM v p ∧ placeOfM v p < ((rootKids v).length : Int)
      · rw [if_pos hp]; exact PL_ok h (by omega)
      · rw [if_neg hp]; exact null_ok
    · rw [if_neg k5] at he; simp at he
theorem keysR_ok {v : List VN} (he : (keysR v).1 = 0) : okB (keysR v).2 = true := by
  unfold keysR at he ⊢
  split
  · rename_i h; rw [if_pos h] at he; exact right_ok he
  · rename_i h; rw [if_neg h] at he; simp at he
theorem num_ok {n : Int} (h1 : -1000000000000000 ≤ n) (h2 : n ≤ 1000000000000000) : okB (leafN 3 n ByteArray.empty) = true := leaf_ok (by unfold nodeB unnamedB namedB; simp [empty_toList, h1, h2])
theorem len_ok {v : List VN} (h : okB v = true) (he : lenC v = 0) : okB (lenNs v) = true := by
  unfold lenC at he
  unfold lenNs
  rw [if_pos h] at he ⊢
  cases hl : lenK (rootN v) with
  | none => rw [hl] at he; simp [kindC] at he
  | some n =>
    have := len_range h hl
    exact num_ok (by omega) this.2
theorem oneR_ok {x : FN} {v : List VN} (hx : x.kind = 5 → okB x.cst = true) (h : okB v = true) (he : (oneR x v).1 = 0) : okB (oneR x v).2 = true := by
  unfold oneR at he ⊢
  by_cases k2 : x.kind = 2
  · rw [if_pos k2] at he ⊢; exact keyR_ok h _ he
  rw [if_neg k2] at he ⊢
  by_cases k3 : x.kind = 3
  · rw [if_pos k3] at he ⊢; exact atR_ok h _ he
  rw [if_neg k3] at he ⊢
  by_cases k5 : x.kind = 5
  · rw [if_pos k5] at he ⊢; exact hx k5
  rw [if_neg k5] at he ⊢
  by_cases k11 : x.kind = 11
  · rw [if_pos k11] at he ⊢; exact len_ok h he
  rw [if_neg k11] at he ⊢
  by_cases k12 : x.kind = 12
  · rw [if_pos k12] at he ⊢; exact keysR_ok he
  rw [if_neg k12] at he ⊢
  by_cases k13 : x.kind = 13
  · rw [if_pos k13]; exact bool_ok _
  rw [if_neg k13]; exact h
theorem plus_ok {a b : List VN} (he : plusC a b = 0) : okB (plusNs a b) = true := by
  unfold plusC at he
  unfold plusNs
  by_cases h : okB a = true ∧ okB b = true
  · rw [if_pos h] at he ⊢
    by_cases k1 : (rootN a).kind = 1
    · rw [if_pos k1]; exact h.2
    rw [if_neg k1] at he ⊢
    by_cases k2 : (rootN b).kind = 1
    · rw [if_pos k2]; exact h.1
    rw [if_neg k2] at he ⊢
    by_cases k3 : (rootN a).kind = (rootN b).kind ∧ (rootN a).kind ≠ 2
    · rw [if_pos k3] at he ⊢
      by_cases r : okB (rawPlus a b) = true
      · rw [if_pos r]; exact r
      · rw [if_neg r] at he; simp at he
    · rw [if_neg k3] at he; simp at he
  · rw [if_neg h] at he; simp at he
theorem ok_fits {vs : List VN} (h : okB vs = true) : ∀ j, j < vs.length → Fits (nodeAt vs j) := by
  have p := (okB_parts h).1
  have := good_fits (good_tree h vs.length (vs.length - 1) (by omega) (by omega)) (by rw [whole_lay h]; omega)
  rwa [whole_lay h] at this
theorem left_right {us : List VN} (hok : okB us = true) (hk : (rootN us).kind = 5) (vs : List VN) : okB (leftNs us vs) = true := by
  have p := (okB_parts hok).1
  have hl := lay_left hok vs (F := us.length) (Nat.le_refl _)
  have hg : goodT (us.length + 1) (.mk 5 0 ByteArray.empty [] (leftTs us vs us.length)) := by
    refine ⟨by unfold nodeT nodeB unnamedB namedB; simp, fun j hj => ?_⟩
    have hj' : j < (leftIx us vs (rootKids us).length).length := by simpa [leftTs] using hj
    have hm := (leftIx_lt us vs (rootKids us).length).2 _ (List.getElem_mem hj')
    obtain ⟨q, hq, hql⟩ := root_kid hok hm
    have e : kidT (leftTs us vs us.length) j = treeOf us us.length q := by
      unfold leftTs kidT
      rw [List.getD_eq_getElem?_getD, List.getElem?_map, List.getElem?_eq_getElem hj']
      simp [hq]
    rw [e]
    exact good_tree hok _ _ (by omega) (by omega)
  rw [← hl]
  refine (ok_lay hg.full).2 ⟨?_, hg, ?_⟩
  · rw [hl]; exact (left_few hok hk vs (ok_fits hok)).1.1
  · have hgt := good_tree hok (us.length + 1) (us.length - 1) (by omega) (by omega)
    have hw : layT (us.length + 1) (treeOf us (us.length + 1) (us.length - 1)) 0 = us := by
      have h1 := tree_back (good_tree hok us.length (us.length - 1) (by omega) (by omega)).full us 0 (us.length + 1) (by omega) (fun j hj => by rw [Nat.zero_add, whole_lay hok])
      rw [whole_lay hok, Nat.zero_add] at h1
      rw [h1, layT_more (good_tree hok us.length (us.length - 1) (by omega) (by omega)).full (by omega), whole_lay hok]
    have h8 := ((ok_lay hgt.full).1 (by rw [hw]; exact hok)).2.2
    rw [treeOf, hiT] at h8
    rw [hiT]
    have hb : hiK (hiT us.length) (leftTs us vs us.length) (leftTs us vs us.length).length ≤ 7 := hiK_bound fun j hj => by
      have hj' : j < (leftIx us vs (rootKids us).length).length := by simpa [leftTs] using hj
      have hm := (leftIx_lt us vs (rootKids us).length).2 _ (List.getElem_mem hj')
      have e : kidT (leftTs us vs us.length) j = treeOf us us.length (intAt (rootKids us) ((leftIx us vs (rootKids us).length)[j])).toNat := by
        unfold leftTs kidT
        rw [List.getD_eq_getElem?_getD, List.getElem?_map, List.getElem?_eq_getElem hj']
        rfl
      have h9 := hiK_le (F := hiT us.length) (kids := (nodeAt us (us.length - 1)).kids.map fun k => treeOf us us.length k.toNat) (m := ((nodeAt us (us.length - 1)).kids.map fun k => treeOf us us.length k.toNat).length) (j := (leftIx us vs (rootKids us).length)[j]) (by rw [List.length_map]; exact hm)
      rw [kidT_map (by exact hm)] at h9
      rw [e]
      have h10 : hiT us.length (treeOf us us.length (intAt (rootKids us) ((leftIx us vs (rootKids us).length)[j])).toNat) ≤ hiK (hiT us.length) ((nodeAt us (us.length - 1)).kids.map fun k => treeOf us us.length k.toNat) ((nodeAt us (us.length - 1)).kids.map fun k => treeOf us us.length k.toNat).length := h9
      omega
    omega
theorem min_ok {a b : List VN} (he : minC a b = 0) : okB (minNs a b) = true := by
  unfold minC at he
  unfold minNs
  by_cases h : okB a = true ∧ okB b = true
  · rw [if_pos h] at he ⊢
    by_cases k3 : (rootN a).kind = 3 ∧ (rootN b).kind = 3
    · rw [if_pos k3] at he ⊢
      by_cases r : okB (diffNs a b) = true
      · rw [if_pos r]; exact r
      · rw [if_neg r] at he; simp at he
    · rw [if_neg k3] at he ⊢
      by_cases k5 : (rootN a).kind = 5 ∧ (rootN b).kind = 5
      · rw [if_pos k5]; exact left_right h.1 k5.1 b
      · rw [if_neg k5] at he; simp at he
  · rw [if_neg h] at he; simp at he
end Go.Proofs.YtcidjhnogldgmaaGreatDoor

namespace Go.Proofs.YtcidjhnogldgmaaGreatDoor
open Go.RowKit
set_option linter.unusedSimpArgs false
set_option linter.unusedVariables false
theorem empty_list_ok : okB (listNsO []) = true := by
  have e : listNsO [] = leafN 5 0 ByteArray.empty := rfl
  rw [e]
  exact leaf_ok (by unfold nodeB unnamedB namedB; simp [empty_toList])
structure Closed (oc : OcM) (Pr : (EvSt → Int × EvSt) → Prop) : Prop where
  pure : ∀ c, Pr (fun st => (c, st))
  all : ∀ h l, (∀ x ∈ l, okB x = true) → (∀ x, okB x = true → Pr (h x)) → Pr (handAllM h l)
  each : ∀ n v h, okB v = true → (∀ x, okB x = true → Pr (h x)) → Pr (eachM oc n v h)
  comma : ∀ x v h, okB v = true → (∀ y, okB y = true → Pr (h y)) → Pr (commaM oc x v h)
  list : ∀ x v h, okB v = true → (∀ y, okB y = true → Pr (h y)) → Pr (listM oc x v h)
  alt : ∀ k0 k1 v h, okB v = true → (∀ y, okB y = true → Pr (h y)) → Pr (fun st => altM oc k1 v h (heldM (oc k0 v st.1)) st.2)
  tri : ∀ k0 v h, okB v = true → (∀ y, okB y = true → Pr (h y)) → Pr (fun st => tryM h (heldM (oc k0 v st.1)) st.2)
theorem closed_handO {oc : OcM} {Pr : (EvSt → Int × EvSt) → Prop} (C : Closed oc Pr) {h : HandM} (hh : ∀ y, okB y = true → Pr (h y)) {r : Int × List VN} (hr : r.1 = 0 → okB r.2 = true) : Pr (handO r h) := by
  by_cases e : r.1 = 0
  · have : handO r h = h r.2 := by funext st; unfold handO; rw [if_pos e]
    rw [this]; exact hh _ (hr e)
  · have : handO r h = fun st => (r.1, st) := by funext st; unfold handO; rw [if_neg e]
    rw [this]; exact C.pure _
theorem closed_map {oc : OcM} {Pr : (EvSt → Int × EvSt) → Prop} (C : Closed oc Pr) {h : HandM} (hh : ∀ y, okB y = true → Pr (h y)) (names : List ByteArray) {v : List VN} (hv : okB v = true) : ∀ (ks : List Int) (done : List (List VN)), Pr (evMapM oc names v h ks done) := by
  intro ks
  induction ks with
  | nil => intro done; exact closed_handO C hh right_ok
  | cons k ks ih => intro done; exact C.each k v _ hv fun y _ => ih _
theorem merge_ok {k : Int} {a b : List VN} (ha : okB a = true) (hb : okB b = true) (he : (mergeR k a b).1 = 0) : okB (mergeR k a b).2 = true := by
  unfold mergeR at he ⊢
  by_cases k1 : k = 15
  · rw [if_pos k1] at he ⊢; exact plus_ok he
  rw [if_neg k1] at he ⊢
  by_cases k2 : k = 16
  · rw [if_pos k2] at he ⊢; exact min_ok he
  rw [if_neg k2] at he ⊢
  exact bool_ok _
theorem ev_closed {oc : OcM} {Pr : (EvSt → Int × EvSt) → Prop} (C : Closed oc Pr) {x : FN} {v : List VN} {h : HandM} (hx : x.kind = 5 → okB x.cst = true) (hv : okB v = true) (hh : ∀ y, okB y = true → Pr (h y)) : Pr (evM oc x v h) := by
  by_cases k14 : x.kind = 14
  · have : evM oc x v h = fun st => (0, st) := by funext st; unfold evM; rw [if_pos k14]
    rw [this]; exact C.pure 0
  by_cases k4 : x.kind = 4
  · by_cases hn : (rootN v).kind = 5 ∨ (rootN v).kind = 6
    · have : evM oc x v h = handAllM h (partsL v) := by funext st; unfold evM; rw [if_neg k14, if_pos k4, if_pos hn]
      rw [this]; exact C.all _ _ (parts_okL hv) hh
    · have : evM oc x v h = fun st => (2, st) := by funext st; unfold evM; rw [if_neg k14, if_pos k4, if_neg hn]
      rw [this]; exact C.pure 2
  by_cases k6 : x.kind = 6
  · have : evM oc x v h = eachM oc (kidF x 0) v (fun y => eachM oc (kidF x 1) y h) := by funext st; unfold evM; rw [if_neg k14, if_neg k4, if_pos k6]
    rw [this]; exact C.each _ _ _ hv fun y hy => C.each _ _ _ hy hh
  by_cases k7 : x.kind = 7
  · have : evM oc x v h = commaM oc x v h := by funext st; unfold evM; rw [if_neg k14, if_neg k4, if_neg k6, if_pos k7]
    rw [this]; exact C.comma _ _ _ hv hh
  by_cases k8 : x.kind = 8
  · have : evM oc x v h = listM oc x v h := by funext st; unfold evM; rw [if_neg k14, if_neg k4, if_neg k6, if_neg k7, if_pos k8]
    rw [this]; exact C.list _ _ _ hv hh
  by_cases k9 : x.kind = 9
  · have : evM oc x v h = evMapM oc x.names v h x.kids [] := by funext st; unfold evM; rw [if_neg k14, if_neg k4, if_neg k6, if_neg k7, if_neg k8, if_pos k9]
    rw [this]; exact closed_map C hh _ hv _ _
  by_cases k10 : x.kind = 10
  · have : evM oc x v h = eachM oc (kidF x 0) v (fun y st => if trueB y = true then h v st else (0, st)) := by funext st; unfold evM; rw [if_neg k14, if_neg k4, if_neg k6, if_neg k7, if_neg k8, if_neg k9, if_pos k10]
    rw [this]
    refine C.each _ _ _ hv fun y hy => ?_
    by_cases t : trueB y = true
    · simp only [t, if_true]; exact hh v hv
    · simp only [t]; exact C.pure 0
  by_cases k15 : 15 ≤ x.kind ∧ x.kind ≤ 20
  · have : evM oc x v h = eachM oc (kidF x 0) v (fun a => eachM oc (kidF x 1) v (fun b => handO (mergeR x.kind a b) h)) := by funext st; unfold evM; rw [if_neg k14, if_neg k4, if_neg k6, if_neg k7, if_neg k8, if_neg k9, if_neg k10, if_pos k15]
    rw [this]; exact C.each _ _ _ hv fun a ha => C.each _ _ _ hv fun b hb => closed_handO C hh (merge_ok ha hb)
  by_cases k21 : x.kind = 21
  · have : evM oc x v h = fun st => altM oc (kidF x 1) v h (heldM (oc (kidF x 0).toNat v st.1)) st.2 := by funext st; unfold evM; rw [if_neg k14, if_neg k4, if_neg k6, if_neg k7, if_neg k8, if_neg k9, if_neg k10, if_neg k15, if_pos k21]
    rw [this]; exact C.alt _ _ _ _ hv hh
  by_cases k22 : x.kind = 22
  · have : evM oc x v h = eachM oc (kidF x 0) v (fun y => if trueB y = true then eachM oc (kidF x 1) v h else eachM oc (kidF x 2) v h) := by funext st; unfold evM; rw [if_neg k14, if_neg k4, if_neg k6, if_neg k7, if_neg k8, if_neg k9, if_neg k10, if_neg k15, if_neg k21, if_pos k22]
    rw [this]
    refine C.each _ _ _ hv fun y hy => ?_
    by_cases t : trueB y = true
    · rw [if_pos t]; exact C.each _ _ _ hv hh
    · rw [if_neg t]; exact C.each _ _ _ hv hh
  by_cases k23 : x.kind = 23
  · have : evM oc x v h = fun st => tryM h (heldM (oc (kidF x 0).toNat v st.1)) st.2 := by funext st; unfold evM; rw [if_neg k14, if_neg k4, if_neg k6, if_neg k7, if_neg k8, if_neg k9, if_neg k10, if_neg k15, if_neg k21, if_neg k22, if_pos k23]
    rw [this]; exact C.tri _ _ _ hv hh
  have : evM oc x v h = handO (oneR x v) h := by funext st; unfold evM; rw [if_neg k14, if_neg k4, if_neg k6, if_neg k7, if_neg k8, if_neg k9, if_neg k10, if_neg k15, if_neg k21, if_neg k22, if_neg k23]
  rw [this]; exact closed_handO C hh (oneR_ok hx hv)
def CstOk (F : List FN) : Prop := ∀ n, (fnAt F n).kind = 5 → okB (fnAt F n).cst = true
theorem trueH_goes {h : HandM} (hh : HandGood Goes h) : HandGood Goes (trueH h) := by
  intro x st hx
  unfold trueH
  split
  · exact hh x st hx
  · exact Goes.refl _
theorem held_good {oc : OcM} (ho : OcGood oc) (n : Nat) {v : List VN} (hv : okB v = true) (fu : Nat) : (∀ x ∈ (heldM (oc n v fu)).l, okB x = true) ∧ (heldM (oc n v fu)).fu ≤ fu := by
  unfold heldM
  split
  · exact ⟨fun x hx => by simp at hx, ho.le _ _ _ hv⟩
  · exact ⟨ho.ok _ _ _ hv, ho.le _ _ _ hv⟩
theorem goes_closed {oc : OcM} (ho : OcGood oc) : Closed oc (fun g => ∀ st, Goes st (g st).2) := by
  have tog : ∀ {h : HandM}, (∀ y, okB y = true → ∀ st, Goes st (h y st).2) → HandGood Goes h := fun hh x st hx => hh x hx st
  refine ⟨fun c st => Goes.refl _, fun h l hl hh st => handAll_goes (tog hh) l st hl, fun n v h hv hh st => each_goes ho (tog hh) n hv st, fun x v h hv hh st => ?_, fun x v h hv hh st => ?_, fun k0 k1 v h hv hh st => ?_, fun k0 v h hv hh st => ?_⟩
  · unfold commaM
    split
    · exact (each_goes ho (tog hh) _ hv st).trans (each_goes ho (tog hh) _ hv _)
    · exact each_goes ho (tog hh) _ hv st
  · unfold listM
    have h1 : Goes st ((oc (kidF x 0).toNat v st.1).fu, st.2) := ⟨ho.le _ _ _ hv, id, id⟩
    split
    · exact hh _ empty_list_ok st
    · split
      · exact h1.trans (handO_goes (tog hh) right_ok _)
      · exact h1
  · obtain ⟨g1, g2⟩ := held_good ho k0 hv st.1
    have h1 : Goes st ((heldM (oc k0 v st.1)).fu, st.2) := ⟨g2, id, id⟩
    show Goes st (altM oc k1 v h (heldM (oc k0 v st.1)) st.2).2
    unfold altM
    split
    · split
      · exact h1.trans (handAll_goes (trueH_goes (tog hh)) _ _ g1)
      · exact h1.trans (each_goes ho (tog hh) _ hv _)
    · exact h1
  · obtain ⟨g1, g2⟩ := held_good ho k0 hv st.1
    have h1 : Goes st ((heldM (oc k0 v st.1)).fu, st.2) := ⟨g2, id, id⟩
    show Goes st (tryM h (heldM (oc k0 v st.1)) st.2).2
    unfold tryM
    split
    · exact h1.trans (handAll_goes (tog hh) _ _ g1)
    · exact h1
theorem ocs_good {F : List FN} (hF : CstOk F) : ∀ d, OcGood (ocsM F d) := by
  intro d
  induction d with
  | zero => exact ⟨fun n v fu _ x hx => by simp [ocsM] at hx, fun n v fu _ => by simp [ocsM], fun n v fu _ => by simp [ocsM]⟩
  | succ d ih =>
    have key : ∀ n v fu, okB v = true → Goes (fu - 1, []) (evM (ocsM F d) (fnAt F n) v pushM (fu - 1, [])).2 := fun n v fu hv => ev_closed (goes_closed ih) (hF n) hv (fun y hy st => push_goes y st hy) (fu - 1, [])
    refine ⟨fun n v fu hv x hx => ?_, fun n v fu hv => ?_, fun n v fu hv => ?_⟩
    · have := key n v fu hv
      rw [ocsM] at hx
      split at hx
      · simp at hx
      · split at hx
        · exact this.2.1 (by simp) x hx
        · simp at hx
    · have := key n v fu hv
      rw [ocsM]
      split
      · simp
      · split
        · exact this.2.2 (by simp)
        · simp
    · have := (key n v fu hv).1
      rw [ocsM]
      split
      · simp
      · split
        · simp at this ⊢; omega
        · simp at this ⊢; omega
end Go.Proofs.YtcidjhnogldgmaaGreatDoor

namespace Go.Proofs.YtcidjhnogldgmaaGreatDoor
open Go.RowKit
set_option linter.unusedSimpArgs false
set_option linter.unusedVariables false
structure NodeOk (fs : List FN) (x : FN) : Prop where
  fit : fnodeB x = true
  kid : ∀ j, j < x.kids.length → 0 ≤ kidF x j ∧ (kidF x j).toNat < fs.length
theorem node_ok {fs : List FN} (h : okF fs = true) {n : Nat} (hn : n < fs.length) : NodeOk fs (fnAt fs n) := by
  unfold okF at h
  simp only [Bool.and_eq_true, List.all_eq_true, List.mem_range] at h
  have h1 := h.1.2 n hn
  refine ⟨h1.1, fun j hj => ?_⟩
  have h2 := h1.2
  unfold fkidsIn at h2
  simp only [List.all_eq_true, Bool.and_eq_true, decide_eq_true_eq] at h2
  have h3 := h2 (intAt (fnAt fs n).kids j) (by unfold fkids; rw [intAt_get hj]; exact List.getElem_mem _)
  unfold kidF
  omega
theorem NodeOk.parts {fs : List FN} {x : FN} (h : NodeOk fs x) : ownF x = true ∧ fitF x = true := by
  have := h.fit
  unfold fnodeB at this
  simp only [Bool.and_eq_true] at this
  exact ⟨this.1.2, this.2⟩
theorem NodeOk.key {fs : List FN} {x : FN} (h : NodeOk fs x) (k : x.kind = 2) : x.name.size ≤ 60 := by
  have h2 := h.parts.1
  unfold ownF at h2
  rw [if_pos k] at h2
  unfold nameB at h2
  simp only [Bool.and_eq_true, decide_eq_true_eq] at h2
  exact h2.1.1.2
theorem NodeOk.place {fs : List FN} {x : FN} (h : NodeOk fs x) (k : x.kind = 3) : -80 ≤ x.place ∧ x.place ≤ 80 := by
  have h2 := h.parts.1
  unfold ownF at h2
  rw [if_neg (by omega), if_pos k] at h2
  simpa using h2
theorem NodeOk.cst {fs : List FN} {x : FN} (h : NodeOk fs x) (k : x.kind = 5) : x.cst.length = 1 ∧ okB x.cst = true := by
  have h2 := h.parts.1
  unfold ownF at h2
  rw [if_neg (by omega), if_neg (by omega), if_pos k] at h2
  unfold cstB at h2
  simp only [Bool.and_eq_true, decide_eq_true_eq] at h2
  exact ⟨h2.1.1.1, h2.1.1.2⟩
theorem cst_ok {fs : List FN} (h : okF fs = true) : CstOk fs := by
  intro n k
  by_cases hn : n < fs.length
  · exact ((node_ok h hn).cst k).2
  · have e : fnAt fs n = FN.zero := by unfold fnAt; rw [List.getD_eq_getElem?_getD, List.getElem?_eq_none (by omega)]; rfl
    rw [e] at k
    exact absurd k (by decide)
theorem ocs_fine {fs : List FN} (h : okF fs = true) (d : Nat) : OcGood (ocsM fs d) := ocs_good (cst_ok h) d
end Go.Proofs.YtcidjhnogldgmaaGreatDoor
