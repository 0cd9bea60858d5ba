/-
  What is left of a list when parts are taken: plain mathematics.
-/
import Derived.Test.YtfijafbpdlakaaaGreatDoorSame
import Derived.Test.YtfijafbpdlakaaaGreatDoorPartQ
import Derived.Test.YtfijafbpdlakaaaGreatDoorVAt
import Derived.Test.YtfijafbpdlakaaaGreatDoorStepN
import Derived.Test.YtfijafbpdlakaaaGreatDoorOrd
import Derived.Test.YtfijafbpdlakaaaGreatDoorWn1
import Derived.Deep.QuietTactic
import Derived.BigQuiet
import Derived.WalkSmall
import Derived.Deep.RegionWith
namespace Go.Proofs.YtfijafbpdlakaaaGreatDoor
open Go.RowKit
set_option linter.unusedSimpArgs false
set_option linter.unusedVariables false

/-! ### Two parts are the same just where the order says so -/
theorem fold_kidsG {T : Nat → Option (Nat × Nat)} (hT : ∀ m p, T m = some p → p.1 ≤ m) : ∀ (l : List Int) (b h : Nat) (q : Nat × Nat), l.foldl (stepKid T) (some (b, h)) = some q → ∀ k ∈ l, (q.1 : Int) ≤ k ∧ k < (b : Int) := by
  intro l
  induction l with
  | nil => intro b h q _ k hk; cases hk
  | cons x l ih =>
    intro b h q e k hk
    obtain ⟨p, h1, h2, h3, h4⟩ := fold_cons_some e
    have hp := hT _ _ h3
    have hl := fold_le hT _ _ _ _ h4
    rcases List.mem_cons.1 hk with rfl | hk
    · omega
    · have := ih _ _ _ h4 k hk
      omega

theorem tr_kidsG {K : Nat → List Int} {n : Nat} {p : Nat × Nat} (h : tr K n = some p) : ∀ k ∈ K n, (p.1 : Int) ≤ k ∧ k < (n : Int) := by
  obtain ⟨q, hq, rfl⟩ := tr_fold h
  intro k hk
  exact fold_kidsG (fun m p h => tr_le h) _ _ _ _ hq k (List.mem_reverse.2 hk)

theorem tree_run {vs : List VN} {q a h : Nat} (ht : tr (kidsOf vs) q = some (a, h)) : ∀ f i, a + i ≤ q → treeOf (run vs (-(a : Int)) a (q + 1 - a)) f i = treeOf vs f (a + i) := by
  intro f
  induction f with
  | zero => intro i _; rfl
  | succ f ih =>
    intro i hi
    have hap := tr_le ht
    simp only at hap
    obtain ⟨r, hr, h1, _⟩ := tr_sub _ _ _ (Nat.lt_succ_self _) ht (a + i) (by simp only; omega) hi
    have hk := tr_kidsG hr
    rw [treeOf, treeOf, run_nodeAt (by omega)]
    simp only [shiftN, VT.mk.injEq, true_and, List.map_map]
    apply List.map_congr_left
    intro k hk2
    have h3 := hk k hk2
    simp only at h1
    simp only [Function.comp]
    have e : (k + -(a : Int)).toNat = k.toNat - a := by omega
    rw [e, ih (k.toNat - a) (by omega)]
    congr 1
    omega

theorem part_tree {vs : List VN} (hok : okB vs = true) {n : Nat} (hn : n < vs.length) (f : Nat) : treeOf (partOf vs n) f ((partOf vs n).length - 1) = treeOf vs f n := by
  obtain ⟨p1, _, p3, _⟩ := okB_parts hok
  obtain ⟨⟨a0, h0⟩, htr⟩ := p3 n hn
  have e : partOf vs n = run vs (-(a0 : Int)) a0 (n + 1 - a0) := by rw [partOf, htr]; simp [trF]
  have ha := tr_le htr
  simp only at ha
  rw [e, run_length, tree_run htr f (n + 1 - a0 - 1) (by omega)]
  congr 1
  omega

theorem cmpKids_of {α : Type} {R : Int → Int → Int} {g g' : Int → α} (hR : ∀ a b, g a = g' b → R a b = 0) : ∀ l m, l.map g = m.map g' → cmpKids R l m = 0 := by
  intro l
  induction l with
  | nil =>
    intro m h
    cases m with
    | nil => rfl
    | cons b m => simp at h
  | cons a l ih =>
    intro m h
    cases m with
    | nil => simp at h
    | cons b m =>
      simp only [List.map_cons, List.cons.injEq] at h
      have h1 := hR a b h.1
      have h2 := ih m h.2
      simp only [cmpKids, h1, h2]
      simp

theorem cmpKeys_self : ∀ l, cmpKeys l l = 0 := by
  intro l
  induction l with
  | nil => rfl
  | cons a l ih =>
    have h0 : cmpS a a = 0 := (cmpL_zero _ _).2 rfl
    simp only [cmpKeys, h0, ih]
    simp

theorem ord_tree (us vs : List VN) : ∀ f n m, treeOf us f n = treeOf vs f m → ord us vs f n m = 0 := by
  intro f
  induction f with
  | zero => intro n m _; rfl
  | succ f ih =>
    intro n m h
    rw [treeOf, treeOf] at h
    simp only [VT.mk.injEq] at h
    obtain ⟨h1, h2, h3, h4, h5⟩ := h
    rw [ord_comb, comb_zero, comb_zero, comb_zero, comb_zero]
    refine ⟨(cmpI_zero _ _).2 h1, (cmpI_zero _ _).2 h2, ?_, ?_, cmpKids_of (g := fun k => treeOf us f k.toNat) (g' := fun k => treeOf vs f k.toNat) (fun a b hab => ih _ _ hab) _ _ h5⟩
    · rw [h3]; exact (cmpL_zero _ _).2 rfl
    · rw [h4]; exact cmpKeys_self _

theorem part_same {us vs : List VN} (h1 : okB us = true) (h2 : okB vs = true) {n k f : Nat} (hn : n < us.length) (hk : k < vs.length) (hf : n < f) : ord us vs f n k = 0 ↔ partOf us n = partOf vs k := by
  have e : ord us vs f n k = ord us vs (f + vs.length) n k := ord_fuel h1 _ _ _ _ hf (by omega) hn
  rw [e]
  constructor
  · intro h
    have ht := ord_zero cmpS_eq us vs _ _ _ h
    rw [← (lay_part h1 (show n < f + vs.length by omega) hn).1, ← (lay_part h2 (show k < f + vs.length by omega) hk).1, ht]
  · intro h
    apply ord_tree
    rw [← part_tree h1 hn, ← part_tree h2 hk, h]

/-! ### The parts that are left -/
def hitB (us vs : List VN) (i k : Nat) : Bool := decide (orderOf (PL us i) (PL vs k) = 0)
def leftIx (us vs : List VN) (i : Nat) : List Nat := pickIx (fun i => anyTo (hitB us vs i) (rootKids vs).length) i
def leftL (us vs : List VN) (j : Nat) : List VN := PL us ((leftIx us vs (rootKids us).length).getD j 0)
def leftNs (us vs : List VN) : List VN := makeNs 5 [] (leftL us vs) (leftIx us vs (rootKids us).length).length

theorem leftIx_lt (us vs : List VN) (i : Nat) : (leftIx us vs i).length ≤ i ∧ ∀ x ∈ leftIx us vs i, x < i := pickIx_lt _ i

theorem getD_snoc_lt {l : List Nat} {x j : Nat} (h : j < l.length) : (l ++ [x]).getD j 0 = l.getD j 0 := by
  rw [List.getD_eq_getElem?_getD, List.getD_eq_getElem?_getD, List.getElem?_append_left h]
theorem getD_snoc_end {l : List Nat} {x : Nat} : (l ++ [x]).getD l.length 0 = x := by
  rw [List.getD_eq_getElem?_getD]; simp

/-- What is left has no more nodes. -/
theorem left_le (us vs : List VN) (L : Nat → List VN) : ∀ i, (catNs (fun j => L ((leftIx us vs i).getD j 0)) (leftIx us vs i).length).length ≤ (catNs L i).length := by
  intro i
  induction i with
  | zero => exact Nat.le_refl _
  | succ i ih =>
    rw [show leftIx us vs (i + 1) = if anyTo (hitB us vs i) (rootKids vs).length = true then leftIx us vs i else leftIx us vs i ++ [i] from rfl, catNs_len]
    split
    · omega
    · rw [List.length_append, List.length_singleton, catNs_len, getD_snoc_end]
      rw [catNs_same (L' := fun j => L ((leftIx us vs i).getD j 0)) _ (fun j hj => by rw [getD_snoc_lt hj])]
      omega

theorem left_ok {us : List VN} (hok : okB us = true) (vs : List VN) : ∀ j, j < (leftIx us vs (rootKids us).length).length → okB (leftL us vs j) = true := by
  intro j hj
  have hm := (leftIx_lt us vs (rootKids us).length).2 _ (show (leftIx us vs (rootKids us).length).getD j 0 ∈ _ by
    rw [List.getD_eq_getElem?_getD, List.getElem?_eq_getElem hj]; exact List.getElem_mem hj)
  exact allB_yes (parts_ok hok).1 _ hm

theorem left_few {us : List VN} (hok : okB us = true) (hk : (rootN us).kind = 5) (vs : List VN) (hf : ∀ i, i < us.length → Fits (nodeAt us i)) : Few (leftNs us vs) ∧ ∀ i, i < (leftNs us vs).length → Fits (nodeAt (leftNs us vs) i) := by
  have hl := leftIx_lt us vs (rootKids us).length
  have h80 := (parts_ok hok).2
  have hpf := PL_few hf
  have hpn : partsN us = (rootKids us).length := by unfold partsN; rw [if_pos hok]
  rw [hpn] at hpf
  have hlt : ∀ j, j < (leftIx us vs (rootKids us).length).length → (leftIx us vs (rootKids us).length).getD j 0 < (rootKids us).length := fun j hj => hl.2 _ (by
    rw [List.getD_eq_getElem?_getD, List.getElem?_eq_getElem hj]; exact List.getElem_mem hj)
  have hn := make_nice (L := leftL us vs) (m := (leftIx us vs (rootKids us).length).length) (by omega) (left_ok hok vs) (fun j hj => (hpf.2 _ (hlt j hj)).2) (kind := 5) (by omega) (by omega) (keys := []) (by simp) (fun i hi => absurd hi (by simp))
  have hlen : (leftNs us vs).length ≤ 80 := by
    have h1 := left_le us vs (PL us) (rootKids us).length
    have h2 := congrArg List.length (make_parts hok (Or.inl hk))
    have h3 := (okB_parts hok).1
    unfold makeNs at h2
    unfold leftNs makeNs
    simp only [List.length_append, List.length_singleton] at h2 ⊢
    unfold leftL
    omega
  exact ⟨⟨hlen, fun i hi => ⟨(hn.2 i hi).2.1, (hn.2 i hi).2.2.1⟩⟩, fun i hi => (hn.2 i hi).1⟩

/-- The trees of what is left. -/
def leftTs (us vs : List VN) (F : Nat) : List VT := (leftIx us vs (rootKids us).length).map fun i => treeOf us F (intAt (rootKids us) i).toNat

theorem lay_left {us : List VN} (hok : okB us = true) (vs : List VN) {F : Nat} (hF : us.length ≤ F) : layT (F + 1) (.mk 5 0 ByteArray.empty [] (leftTs us vs F)) 0 = leftNs us vs := by
  have hl := leftIx_lt us vs (rootKids us).length
  have hlen : (leftTs us vs F).length = (leftIx us vs (rootKids us).length).length := by simp [leftTs]
  have hcat : ∀ k, k ≤ (leftIx us vs (rootKids us).length).length → accT F 0 (leftTs us vs F) k = catNs (leftL us vs) k ∧ ksT F 0 (leftTs us vs F) k = catKs (leftL us vs) k := by
    intro k
    induction k with
    | zero => intro _; exact ⟨accT_zero _ _ _, ksT_zero _ _ _⟩
    | succ k ih =>
      intro hk
      obtain ⟨h1, h2⟩ := ih (by omega)
      have hlt : k < (leftTs us vs F).length := by omega
      have hx := hl.2 _ (show (leftIx us vs (rootKids us).length).getD k 0 ∈ _ by
        rw [List.getD_eq_getElem?_getD, List.getElem?_eq_getElem (by omega)]; exact List.getElem_mem (by omega))
      obtain ⟨q, hq, hql⟩ := root_kid hok (k := (leftIx us vs (rootKids us).length).getD k 0) hx
      have hkt : kidT (leftTs us vs F) k = treeOf us F q := by
        unfold leftTs kidT
        rw [List.getD_eq_getElem?_getD, List.getElem?_map, List.getElem?_eq_getElem (show k < (leftIx us vs (rootKids us).length).length by omega)]
        simp only [Option.map_some, Option.getD_some]
        rw [List.getD_eq_getElem?_getD, List.getElem?_eq_getElem (show k < (leftIx us vs (rootKids us).length).length by omega), Option.getD_some] at hq
        rw [hq]; simp
      have hpl : leftL us vs k = partOf us q := by unfold leftL PL; rw [hq]; simp
      have e : accT F 0 (leftTs us vs F) (k + 1) = catNs (leftL us vs) (k + 1) := by
        rw [accT_succ F 0 hlt, h1, hkt, lay_at hok (by omega) (by omega), Nat.zero_add, catNs, hpl]
      refine ⟨e, ?_⟩
      rw [ksT_succ F 0 hlt, h2, e, Nat.zero_add]
      rfl
  rw [layT_eq, hlen]
  obtain ⟨c1, c2⟩ := hcat _ (Nat.le_refl _)
  rw [c1, c2]
  rfl

/-! ### The difference -/
def diffNs (us vs : List VN) : List VN := leafN 3 ((rootN us).n - (rootN vs).n) ByteArray.empty
def minC (us vs : List VN) : Int :=
  if okB us = true ∧ okB vs = true then
    if (rootN us).kind = 3 ∧ (rootN vs).kind = 3 then (if okB (diffNs us vs) = true then 0 else 3)
    else if (rootN us).kind = 5 ∧ (rootN vs).kind = 5 then 0 else 2
  else 1
def minNs (us vs : List VN) : List VN :=
  if okB us = true ∧ okB vs = true then
    if (rootN us).kind = 3 ∧ (rootN vs).kind = 3 then (if okB (diffNs us vs) = true then diffNs us vs else [])
    else if (rootN us).kind = 5 ∧ (rootN vs).kind = 5 then leftNs us vs else []
  else []

theorem min_other {us vs : List VN} (h1 : okB us = true) (h2 : okB vs = true) (a : ¬ ((rootN us).kind = 3 ∧ (rootN vs).kind = 3)) (b : ¬ ((rootN us).kind = 5 ∧ (rootN vs).kind = 5)) : minC us vs = 2 ∧ minNs us vs = [] := by
  unfold minC minNs
  simp only [h1, h2, and_self, if_true, if_neg a, if_neg b]
theorem min_diff {us vs : List VN} (h1 : okB us = true) (h2 : okB vs = true) (a : (rootN us).kind = 3 ∧ (rootN vs).kind = 3) : minC us vs = (if okB (diffNs us vs) = true then 0 else 3) ∧ minNs us vs = (if okB (diffNs us vs) = true then diffNs us vs else []) := by
  unfold minC minNs
  simp only [h1, h2, and_self, if_true, if_pos a]
theorem min_list {us vs : List VN} (h1 : okB us = true) (h2 : okB vs = true) (b : (rootN us).kind = 5 ∧ (rootN vs).kind = 5) : minC us vs = 0 ∧ minNs us vs = leftNs us vs := by
  have a : ¬ ((rootN us).kind = 3 ∧ (rootN vs).kind = 3) := by omega
  unfold minC minNs
  simp only [h1, h2, and_self, if_true, if_neg a, if_pos b]

theorem root_n {us : List VN} (hok : okB us = true) (hk : (rootN us).kind = 3) : -1000000000000000 ≤ (rootN us).n ∧ (rootN us).n ≤ 1000000000000000 := by
  rcases root_says hok with k | k | ⟨k, a, b⟩ | ⟨k, a⟩ | ⟨k, a⟩ | ⟨k, a⟩
  · omega
  · omega
  · exact ⟨a, b⟩
  · omega
  · omega
  · omega

theorem min_few {us vs : List VN} (hf : ∀ i, i < us.length → Fits (nodeAt us i)) : Few (minNs us vs) ∧ ∀ i, i < (minNs us vs).length → Fits (nodeAt (minNs us vs) i) := by
  unfold minNs
  split
  · rename_i h
    split
    · rename_i h3
      split
      · have a := root_n h.1 h3.1
        have b := root_n h.2 h3.2
        exact leaf_few _ (by omega) (by omega)
      · exact none_few
    · split
      · rename_i h5
        exact left_few h.1 h5.1 vs hf
      · exact none_few
  · exact none_few
end Go.Proofs.YtfijafbpdlakaaaGreatDoor

/-
  What the methods kind and parts say; lists of values compared by the library.
-/
namespace Go.Proofs.YtfijafbpdlakaaaGreatDoor
open Go.RowKit
set_option linter.unusedSimpArgs false
set_option linter.unusedVariables false

set_option maxRecDepth 100000 in
set_option maxHeartbeats 1600000 in
theorem compareFunc_any (lo B lo' B' : Nat) (us vs : List VN) (f f' : Nat) (l m : List Int) (it it' : Value) (w : World)
    (h1 : ItemsAt lo B w it l.length (fun j u => ValIs lo B w us f (intAt l j).toNat u)) (h2 : ItemsAt lo' B' w it' m.length (fun j u => ValIs lo' B' w vs f' (intAt m j).toNat u))
    (hlo : lo ≤ B) (hlo' : lo' ≤ B') (hB : B ≤ w.heap.size) (hB' : B' ≤ w.heap.size) (hl : l.length ≤ 80) (hm : m.length ≤ 80)
    (r1 : ∀ j, j < l.length → (intAt l j).toNat < us.length) (r2 : ∀ j, j < m.length → (intAt m j).toNat < vs.length)
    (ih : ∀ (n k : Nat) (v v' : Value) (w : World), n < us.length → k < vs.length → ValIs lo B w us f n v → ValIs lo' B' w vs f' k v' → B ≤ w.heap.size → B' ≤ w.heap.size →
      Calls Tryz.prog 84 #[v, v'] w fun e w' => e = .returned (.int .i64 (ord us vs f n k)) ∧ Below w.heap.size w w') :
    Calls Tryz.prog 98 #[it, it', .func (.func 84) #[] #[]] w fun e w' => e = .returned (.int .i64 (cmpKids (fun a b => ord us vs f a.toNat b.toNat) l m)) ∧ Below w.heap.size w w' := by
  obtain ⟨a1, c1, rfl, hc1⟩ := h1
  obtain ⟨a2, c2, rfl, hc2⟩ := h2
  have HC1 := hideIt hc1
  have HC2 := hideIt hc2
  have R1 := hideIt r1
  have R2 := hideIt r2
  have IH := hideIt ih
  clear hc1 hc2 r1 r2 ih
  go_enter Tryz.func98, Tryz.ntmps98
  go_wp2_with fail
  go_loopw [13] (fun i wr => ∃ k : Nat, k ≤ l.length ∧ i = .int .i64 k ∧ Hid (k ≤ m.length ∧ cmpKids (fun a b => ord us vs f a.toNat b.toNat) (l.drop k) (m.drop k) = cmpKids (fun a b => ord us vs f a.toNat b.toNat) l m) ∧ Below w.heap.size w wr) (fun i _ => l.length - (intOf i).toNat)
  case atStart => exact ⟨0, Nat.zero_le _, rfl, ⟨Nat.zero_le _, by simp⟩, Below.refl _ _⟩
  case round =>
    obtain ⟨k, hk, rfl, HE, hbw⟩ := hrel
    have hsz := hbw.size
    by_cases hlt : k < l.length
    · obtain ⟨b1, rfl, _, l1, d1⟩ := HC1.out (by omega)
      obtain ⟨t1, x1, e1, V1⟩ := d1 k hlt
      have e1' : wr.cell? ⟨b1, k, none⟩ = some (.iface t1 x1) := (below_cell hbw (by omega)).trans e1
      have HV1 := hideIt (ValIs.keep (Keep.of_below (hbw.mono hB)) (Nat.le_refl _) hlo V1)
      clear d1 e1 V1
      by_cases hlm : k < m.length
      · obtain ⟨b2, rfl, _, l2, d2⟩ := HC2.out (by omega)
        obtain ⟨t2, x2, e2, V2⟩ := d2 k hlm
        have e2' : wr.cell? ⟨b2, k, none⟩ = some (.iface t2 x2) := (below_cell hbw (by omega)).trans e2
        have HV2 := hideIt (ValIs.keep (Keep.of_below (hbw.mono hB')) (Nat.le_refl _) hlo' V2)
        clear d2 e2 V2
        have hge : ¬ (m.length : Int) ≤ (k : Int) := by omega
        have HS := hideIt (cmpKids_step (R := fun a b => ord us vs f a.toNat b.toNat) hlt hlm)
        go_wp2_with fail
        refine (IH.out (intAt l k).toNat (intAt m k).toNat _ _ _ (R1.out k hlt) (R2.out k hlm) HV1.out HV2.out (by omega) (by omega)).mono ?_
        rintro e w1 ⟨rfl, hb1⟩
        have HB1 := hideIt (hbw.trans (hb1.mono hsz))
        clear hb1
        obtain ⟨bz, hbz0⟩ : ∃ bz, (ord us vs f (intAt l k).toNat (intAt m k).toNat != 0) = bz := ⟨_, rfl⟩
        cases bz
        · have HZ : Hid (ord us vs f (intAt l k).toNat (intAt m k).toNat = 0) := by simpa [Hid] using hbz0
          go_wp2_with fail
          go_roundw
          case rel => exact ⟨k + 1, by omega, by go_num, ⟨by omega, by rw [← HE.out.2, HS.out]; simp [HZ.out]⟩, HB1.out⟩
          case measure => simp [intOf]; omega
        · have HZ : Hid (¬ ord us vs f (intAt l k).toNat (intAt m k).toNat = 0) := by simpa [Hid] using hbz0
          have HR : Hid (cmpKids (fun a b => ord us vs f a.toNat b.toNat) l m = ord us vs f (intAt l k).toNat (intAt m k).toNat) := by rw [Hid, ← HE.out.2, HS.out]; simp [HZ.out]
          go_wp2_with fail
          go_ret
          exact ⟨ret_int HR.out.symm, HB1.out⟩
      · have HZ : Hid (cmpKids (fun a b => ord us vs f a.toNat b.toNat) l m = 1) := by rw [Hid, ← HE.out.2, cmpKids_more hlt (by omega)]
        have hge : (m.length : Int) ≤ (k : Int) := by omega
        go_wp2_with fail
        go_ret
        exact ⟨ret_int HZ.out.symm, hbw⟩
    · obtain rfl : k = l.length := by omega
      by_cases hlm : l.length < m.length
      · have HZ : Hid (cmpKids (fun a b => ord us vs f a.toNat b.toNat) l m = -1) := by rw [Hid, ← HE.out.2, cmpKids_less (Nat.le_refl _) hlm]
        go_wp2_with fail
        go_ret
        exact ⟨ret_int HZ.out.symm, hbw⟩
      · have HZ : Hid (cmpKids (fun a b => ord us vs f a.toNat b.toNat) l m = 0) := by rw [Hid, ← HE.out.2, cmpKids_end (Nat.le_refl _) (by omega)]
        go_wp2_with fail
        go_ret
        exact ⟨ret_int HZ.out.symm, hbw⟩
end Go.Proofs.YtfijafbpdlakaaaGreatDoor

/-
  impl.compared: two values of one kind.
-/
namespace Go.Proofs.YtfijafbpdlakaaaGreatDoor
open Go.RowKit
set_option linter.unusedSimpArgs false
set_option linter.unusedVariables false

theorem zeroN {x : VN} (h : nodeB x = true) (h2 : x.kind ≠ 2) (h3 : x.kind ≠ 3) : x.n = 0 := by
  unfold nodeB unnamedB at h
  simp [h2, h3] at h
  exact h.1.1.1.1
theorem zeroS {x : VN} (h : nodeB x = true) (h4 : x.kind ≠ 4) : x.s.toList = [] := by
  unfold nodeB unnamedB at h
  simp only [Bool.and_eq_true, Bool.not_eq_true', Bool.and_eq_false_iff, decide_eq_false_iff_not, Classical.not_not] at h
  exact h.1.1.1.2.resolve_left h4
theorem zeroK {x : VN} (h : nodeB x = true) (h6 : x.kind ≠ 6) : x.keys = [] := by
  unfold nodeB unnamedB at h
  simp [h6] at h
  exact h.1.1.2
theorem zeroC {x : VN} (h : nodeB x = true) (h5 : x.kind ≠ 5) (h6 : x.kind ≠ 6) : x.kids = [] := by
  unfold nodeB unnamedB at h
  simp [h5, h6] at h
  exact h.1.2

theorem cmpS_zero {a b : ByteArray} (ha : a.toList = []) (hb : b.toList = []) : cmpS a b = 0 := by unfold cmpS; rw [ha, hb]; rfl

/-- What the order says of two nodes of one kind. -/
theorem ord_same {us vs : List VN} {f n m : Nat} {k : Int} (hx : nodeB (nodeAt us n) = true) (hy : nodeB (nodeAt vs m) = true) (k1 : (nodeAt us n).kind = k) (k2 : (nodeAt vs m).kind = k) :
    ord us vs (f + 1) n m = if k = 1 then 0 else if k = 2 ∨ k = 3 then cmpI (nodeAt us n).n (nodeAt vs m).n else if k = 4 then cmpS (nodeAt us n).s (nodeAt vs m).s
      else if cmpKeys (nodeAt us n).keys (nodeAt vs m).keys ≠ 0 then cmpKeys (nodeAt us n).keys (nodeAt vs m).keys else cmpKids (fun a b => ord us vs f a.toNat b.toNat) (nodeAt us n).kids (nodeAt vs m).kids := by
  rw [ord, if_neg (by simp [k1, k2])]
  by_cases h23 : k = 2 ∨ k = 3
  · have s0 : cmpS (nodeAt us n).s (nodeAt vs m).s = 0 := cmpS_zero (zeroS hx (by omega)) (zeroS hy (by omega))
    rw [if_neg (show ¬ k = 1 by omega), if_pos h23, s0, zeroK hx (by omega), zeroK hy (by omega), zeroC hx (by omega) (by omega), zeroC hy (by omega) (by omega)]
    by_cases e : (nodeAt us n).n = (nodeAt vs m).n
    · simp [e, cmpKeys, cmpKids, (cmpI_zero _ _).2]
    · simp [e]
  · rw [if_neg (by rw [zeroN hx (by omega) (by omega), zeroN hy (by omega) (by omega)]; simp), if_neg h23]
    by_cases h4 : k = 4
    · rw [if_neg (show ¬ k = 1 by omega), if_pos h4, zeroK hx (by omega), zeroK hy (by omega), zeroC hx (by omega) (by omega), zeroC hy (by omega) (by omega)]
      by_cases e : cmpS (nodeAt us n).s (nodeAt vs m).s = 0
      · simp [e, cmpKeys, cmpKids]
      · simp [e]
    · have s0 : cmpS (nodeAt us n).s (nodeAt vs m).s = 0 := cmpS_zero (zeroS hx (by omega)) (zeroS hy (by omega))
      rw [s0, if_neg (by simp), if_neg h4]
      by_cases h1 : k = 1
      · rw [if_pos h1, zeroK hx (by omega), zeroK hy (by omega), zeroC hx (by omega) (by omega), zeroC hy (by omega) (by omega)]
        simp [cmpKeys, cmpKids]
      · rw [if_neg h1]

theorem items_none (lo B : Nat) (w : World) (P : Nat → Value → Prop) : ItemsAt lo B w (.slice none 0 0) ([] : List Int).length P := ⟨none, 0, rfl, fun h => absurd h (by simp)⟩

theorem tb_bool (x : Value) (w : World) : (Instr.typeAssert (.iface 105 x) 54 105 false).run Tryz.prog w = .ok x w := by kernel_rfl
theorem tb_int (x : Value) (w : World) : (Instr.typeAssert (.iface 86 x) 54 86 false).run Tryz.prog w = .ok x w := by kernel_rfl
theorem tb_text (x : Value) (w : World) : (Instr.typeAssert (.iface 89 x) 54 89 false).run Tryz.prog w = .ok x w := by kernel_rfl
theorem tb_map (x : Value) (w : World) : (Instr.typeAssert (.iface 94 x) 54 94 false).run Tryz.prog w = .ok x w := by kernel_rfl

theorem ItemsAt.keep {lo B : Nat} {w w' : World} {it : Value} {us : List VN} {f : Nat} {l : List Int} (h : ItemsAt lo B w it l.length (fun j u => ValIs lo B w us f (intAt l j).toNat u)) (hb : Below B w w') (hlo : lo ≤ B) : ItemsAt lo B w' it l.length (fun j u => ValIs lo B w' us f (intAt l j).toNat u) := by
  obtain ⟨a, cap, e, hx⟩ := h
  refine ⟨a, cap, e, fun hn => ?_⟩
  obtain ⟨b, ea, h1, h2, h3⟩ := hx hn
  refine ⟨b, ea, h1, h2, fun j hj => ?_⟩
  obtain ⟨t, x, hc, hv⟩ := h3 j hj
  exact ⟨t, x, (below_cell hb h2).trans hc, ValIs.keep (Keep.of_below hb) (Nat.le_refl _) hlo hv⟩

/-- What the lists of parts are compared by: the contract of compared itself, one step down. -/
def CmpIH (lo B lo' B' : Nat) (us vs : List VN) (f f' : Nat) : Prop :=
  ∀ (n k : Nat) (v v' : Value) (w : World), n < us.length → k < vs.length → ValIs lo B w us f n v → ValIs lo' B' w vs f' k v' → B ≤ w.heap.size → B' ≤ w.heap.size →
      Calls Tryz.prog 84 #[v, v'] w fun e w' => e = .returned (.int .i64 (ord us vs f n k)) ∧ Below w.heap.size w w'

theorem compareNone {lo B lo' B' : Nat} {us vs : List VN} {f f' : Nat} (ih : CmpIH lo B lo' B' us vs f f') (hlo : lo ≤ B) (hlo' : lo' ≤ B') (w : World) (hB : B ≤ w.heap.size) (hB' : B' ≤ w.heap.size) :
    Calls Tryz.prog 98 #[.slice none 0 0, .slice none 0 0, .func (.func 84) #[] #[]] w fun e w' => e = .returned (.int .i64 0) ∧ Below w.heap.size w w' :=
  compareFunc_any lo B lo' B' us vs f f' [] [] _ _ w (items_none _ _ _ _) (items_none _ _ _ _) hlo hlo' hB hB' (by simp) (by simp) (fun j hj => absurd hj (by simp)) (fun j hj => absurd hj (by simp)) ih

set_option maxRecDepth 100000 in
set_option maxHeartbeats 6400000 in
theorem compared_null {lo B lo' B' : Nat} {us vs : List VN} {f f' : Nat} (ih : CmpIH lo B lo' B' us vs f f') (hlo : lo ≤ B) (hlo' : lo' ≤ B') (w : World) (hB : B ≤ w.heap.size) (hB' : B' ≤ w.heap.size) :
    Calls Tryz.prog 84 #[.iface 132 (.agg #[]), .iface 132 (.agg #[])] w fun e w' => e = .returned (.int .i64 0) ∧ Below w.heap.size w w' := by
  have IH := hideIt ih
  clear ih
  have tabool := ta_null_bool
  have taint := ta_null_int
  have tatext := ta_null_text
  have tamap := ta_null_map
  go_enter Tryz.func84, Tryz.ntmps84
  go_wp2_with fail
  refine (kind1_any _).mono ?_
  rintro e w1 ⟨rfl, hb1⟩
  have z1 := hb1.size
  go_wp2_with fail
  refine (kind1_any _).mono ?_
  rintro e w2 ⟨rfl, hb2⟩
  have z2 := hb2.size
  go_wp2_with fail
  refine (cmpInt_any _ _ _).mono ?_
  rintro e w3 ⟨rfl, rfl⟩
  rw [show cmpI 1 1 = 0 from rfl]
  go_wp2_with fail
  refine (parts1_any _).mono ?_
  rintro e w4 ⟨rfl, hb4⟩
  have z4 := hb4.size
  go_wp2_with fail
  refine (parts1_any _).mono ?_
  rintro e w5 ⟨rfl, hb5⟩
  have z5 := hb5.size
  go_wp2_with fail
  refine (compareNone IH.out hlo hlo' _ (by omega) (by omega)).mono ?_
  rintro e w6 ⟨rfl, hb6⟩
  go_wp2_with fail
  go_ret
  exact ⟨rfl, hb1.trans ((hb2.trans ((hb4.trans ((hb5.trans (hb6.mono (by omega))).mono (by omega))).mono (by omega))).mono (by omega))⟩

set_option maxRecDepth 100000 in
set_option maxHeartbeats 6400000 in
theorem compared_bool (a b : Int) {lo B lo' B' : Nat} {us vs : List VN} {f f' : Nat} (ih : CmpIH lo B lo' B' us vs f f') (hlo : lo ≤ B) (hlo' : lo' ≤ B') (w : World) (hB : B ≤ w.heap.size) (hB' : B' ≤ w.heap.size) :
    Calls Tryz.prog 84 #[.iface 105 (.agg #[.int .i64 a]), .iface 105 (.agg #[.int .i64 b])] w fun e w' => e = .returned (.int .i64 (cmpI a b)) ∧ Below w.heap.size w w' := by
  have IH := hideIt ih
  clear ih
  have tabool := ta_bool_bool
  have tb := tb_bool
  have fld := fld_bool
  go_enter Tryz.func84, Tryz.ntmps84
  go_wp2_with fail
  refine (kind2_any _ _).mono ?_
  rintro e w1 ⟨rfl, hb1⟩
  go_wp2_with fail
  refine (kind2_any _ _).mono ?_
  rintro e w2 ⟨rfl, hb2⟩
  have HB2 := hideIt (Below.next hb1 hb2)
  clear hb1 hb2
  go_wp2_with fail
  refine (cmpInt_any _ _ _).mono ?_
  rintro e w3 ⟨rfl, rfl⟩
  rw [show cmpI 2 2 = 0 from rfl]
  go_wp2_with fail
  go_quiet ((go_at_call 96; exact Calls.quiet_of_same (cmpInt_any _ _ _)))
  obtain ⟨bz, hbz0⟩ : ∃ bz, (cmpI a b != 0) = bz := ⟨_, rfl⟩
  have HB3 := hideIt (below_drewN ((HB2.out).alloc HB2.out.size (.cells #[.int .i64 a] 105)) nq)
  cases bz
  · have HZ : Hid (cmpI a b = 0) := by simpa [Hid] using hbz0
    go_wp2_with fail
    refine (parts2_any _ _).mono ?_
    rintro e w4 ⟨rfl, hb4⟩
    have HB4 := hideIt (Below.next HB3.out hb4)
    clear hb4
    go_wp2_with fail
    refine (parts2_any _ _).mono ?_
    rintro e w5 ⟨rfl, hb5⟩
    have HB5 := hideIt (Below.next HB4.out hb5)
    clear hb5
    have z5 := HB5.out.size
    go_wp2_with fail
    refine (compareNone IH.out hlo hlo' _ (by omega) (by omega)).mono ?_
    rintro e w6 ⟨rfl, hb6⟩
    go_wp2_with fail
    go_ret
    exact ⟨ret_int HZ.out.symm, Below.next HB5.out hb6⟩
  · go_wp2_with fail
    go_ret
    exact ⟨rfl, HB3.out⟩

set_option maxRecDepth 100000 in
set_option maxHeartbeats 6400000 in
theorem compared_int (a b : Int) {lo B lo' B' : Nat} {us vs : List VN} {f f' : Nat} (ih : CmpIH lo B lo' B' us vs f f') (hlo : lo ≤ B) (hlo' : lo' ≤ B') (w : World) (hB : B ≤ w.heap.size) (hB' : B' ≤ w.heap.size) :
    Calls Tryz.prog 84 #[.iface 86 (.agg #[.int .i64 a]), .iface 86 (.agg #[.int .i64 b])] w fun e w' => e = .returned (.int .i64 (cmpI a b)) ∧ Below w.heap.size w w' := by
  have IH := hideIt ih
  clear ih
  have tabool := ta_int_bool
  have taint := ta_int_int
  have tb := tb_int
  have fld := fld_int
  go_enter Tryz.func84, Tryz.ntmps84
  go_wp2_with fail
  refine (kind3_any _ _).mono ?_
  rintro e w1 ⟨rfl, hb1⟩
  go_wp2_with fail
  refine (kind3_any _ _).mono ?_
  rintro e w2 ⟨rfl, hb2⟩
  have HB2 := hideIt (Below.next hb1 hb2)
  clear hb1 hb2
  go_wp2_with fail
  refine (cmpInt_any _ _ _).mono ?_
  rintro e w3 ⟨rfl, rfl⟩
  rw [show cmpI 3 3 = 0 from rfl]
  go_wp2_with fail
  go_quiet ((go_at_call 96; exact Calls.quiet_of_same (cmpInt_any _ _ _)))
  obtain ⟨bz, hbz0⟩ : ∃ bz, (cmpI a b != 0) = bz := ⟨_, rfl⟩
  have HB3 := hideIt (below_drewN ((HB2.out).alloc HB2.out.size (.cells #[.int .i64 a] 86)) nq)
  cases bz
  · have HZ : Hid (cmpI a b = 0) := by simpa [Hid] using hbz0
    go_wp2_with fail
    refine (parts3_any _ _).mono ?_
    rintro e w4 ⟨rfl, hb4⟩
    have HB4 := hideIt (Below.next HB3.out hb4)
    clear hb4
    go_wp2_with fail
    refine (parts3_any _ _).mono ?_
    rintro e w5 ⟨rfl, hb5⟩
    have HB5 := hideIt (Below.next HB4.out hb5)
    clear hb5
    have z5 := HB5.out.size
    go_wp2_with fail
    refine (compareNone IH.out hlo hlo' _ (by omega) (by omega)).mono ?_
    rintro e w6 ⟨rfl, hb6⟩
    go_wp2_with fail
    go_ret
    exact ⟨ret_int HZ.out.symm, Below.next HB5.out hb6⟩
  · go_wp2_with fail
    go_ret
    exact ⟨rfl, HB3.out⟩

set_option maxRecDepth 100000 in
set_option maxHeartbeats 6400000 in
theorem compared_text (a b : ByteArray) {lo B lo' B' : Nat} {us vs : List VN} {f f' : Nat} (ih : CmpIH lo B lo' B' us vs f f') (hlo : lo ≤ B) (hlo' : lo' ≤ B') (w : World) (hB : B ≤ w.heap.size) (hB' : B' ≤ w.heap.size) :
    Calls Tryz.prog 84 #[.iface 89 (.agg #[.string a]), .iface 89 (.agg #[.string b])] w fun e w' => e = .returned (.int .i64 (cmpS a b)) ∧ Below w.heap.size w w' := by
  have IH := hideIt ih
  clear ih
  have tabool := ta_text_bool
  have taint := ta_text_int
  have tatext := ta_text_text
  have tb := tb_text
  have fld := fld_text
  go_enter Tryz.func84, Tryz.ntmps84
  go_wp2_with fail
  refine (kind4_any _ _).mono ?_
  rintro e w1 ⟨rfl, hb1⟩
  go_wp2_with fail
  refine (kind4_any _ _).mono ?_
  rintro e w2 ⟨rfl, hb2⟩
  have HB2 := hideIt (Below.next hb1 hb2)
  clear hb1 hb2
  go_wp2_with fail
  refine (cmpInt_any _ _ _).mono ?_
  rintro e w3 ⟨rfl, rfl⟩
  rw [show cmpI 4 4 = 0 from rfl]
  go_wp2_with fail
  go_quiet ((go_at_call 94; exact Calls.quiet_of_same (stringsCompare_any _ _ _)))
  obtain ⟨bz, hbz0⟩ : ∃ bz, (cmpS a b != 0) = bz := ⟨_, rfl⟩
  have HB3 := hideIt (below_drewN ((HB2.out).alloc HB2.out.size (.cells #[.string a] 89)) nq)
  cases bz
  · have HZ : Hid (cmpS a b = 0) := by simpa [Hid] using hbz0
    go_wp2_with fail
    refine (parts4_any _ _).mono ?_
    rintro e w4 ⟨rfl, hb4⟩
    have HB4 := hideIt (Below.next HB3.out hb4)
    clear hb4
    go_wp2_with fail
    refine (parts4_any _ _).mono ?_
    rintro e w5 ⟨rfl, hb5⟩
    have HB5 := hideIt (Below.next HB4.out hb5)
    clear hb5
    have z5 := HB5.out.size
    go_wp2_with fail
    refine (compareNone IH.out hlo hlo' _ (by omega) (by omega)).mono ?_
    rintro e w6 ⟨rfl, hb6⟩
    go_wp2_with fail
    go_ret
    exact ⟨ret_int HZ.out.symm, Below.next HB5.out hb6⟩
  · go_wp2_with fail
    go_ret
    exact ⟨rfl, HB3.out⟩

set_option maxRecDepth 100000 in
set_option maxHeartbeats 6400000 in
theorem compared_list (l m : List Int) (it it' : Value) {lo B lo' B' : Nat} {us vs : List VN} {f f' : Nat} (ih : CmpIH lo B lo' B' us vs f f') (hlo : lo ≤ B) (hlo' : lo' ≤ B') (w : World) (hB : B ≤ w.heap.size) (hB' : B' ≤ w.heap.size)
    (h1 : ItemsAt lo B w it l.length (fun j u => ValIs lo B w us f (intAt l j).toNat u)) (h2 : ItemsAt lo' B' w it' m.length (fun j u => ValIs lo' B' w vs f' (intAt m j).toNat u))
    (hl : l.length ≤ 80) (hm : m.length ≤ 80) (r1 : ∀ j, j < l.length → (intAt l j).toNat < us.length) (r2 : ∀ j, j < m.length → (intAt m j).toNat < vs.length) :
    Calls Tryz.prog 84 #[.iface 91 (.agg #[it]), .iface 91 (.agg #[it'])] w fun e w' => e = .returned (.int .i64 (cmpKids (fun a b => ord us vs f a.toNat b.toNat) l m)) ∧ Below w.heap.size w w' := by
  have IH := hideIt ih
  have H1 := hideIt h1
  have H2 := hideIt h2
  have R1 := hideIt r1
  have R2 := hideIt r2
  obtain ⟨a1, p1, rfl, _⟩ := h1
  obtain ⟨a2, p2, rfl, _⟩ := h2
  clear ih r1 r2
  have tabool := ta_list_bool
  have taint := ta_list_int
  have tatext := ta_list_text
  have tamap := ta_list_map
  go_enter Tryz.func84, Tryz.ntmps84
  go_wp2_with fail
  refine (kind5_any _ _ _ _).mono ?_
  rintro e w1 ⟨rfl, hb1⟩
  go_wp2_with fail
  refine (kind5_any _ _ _ _).mono ?_
  rintro e w2 ⟨rfl, hb2⟩
  have HB2 := hideIt (Below.next hb1 hb2)
  clear hb1 hb2
  go_wp2_with fail
  refine (cmpInt_any _ _ _).mono ?_
  rintro e w3 ⟨rfl, rfl⟩
  rw [show cmpI 5 5 = 0 from rfl]
  go_wp2_with fail
  refine (parts5_any _ _ _ _).mono ?_
  rintro e w4 ⟨rfl, hb4⟩
  have HB4 := hideIt (Below.next HB2.out hb4)
  clear hb4
  go_wp2_with fail
  refine (parts5_any _ _ _ _).mono ?_
  rintro e w5 ⟨rfl, hb5⟩
  have HB5 := hideIt (Below.next HB4.out hb5)
  clear hb5
  have z5 := HB5.out.size
  go_wp2_with fail
  refine (compareFunc_any lo B lo' B' us vs f f' l m _ _ _ (H1.out.keep (HB5.out.mono hB) hlo) (H2.out.keep (HB5.out.mono hB') hlo') hlo hlo' (by omega) (by omega) hl hm R1.out R2.out IH.out).mono ?_
  rintro e w6 ⟨rfl, hb6⟩
  go_wp2_with fail
  go_ret
  exact ⟨rfl, Below.next HB5.out hb6⟩

set_option maxRecDepth 100000 in
set_option maxHeartbeats 6400000 in
theorem compared_map (ks ks' : List ByteArray) (kv kv' : Value) (l m : List Int) (it it' : Value) {lo B lo' B' : Nat} {us vs : List VN} {f f' : Nat} (ih : CmpIH lo B lo' B' us vs f f') (hlo : lo ≤ B) (hlo' : lo' ≤ B') (w : World) (hB : B ≤ w.heap.size) (hB' : B' ≤ w.heap.size)
    (g1 : StrsAt lo w kv ks) (g2 : StrsAt lo' w kv' ks')
    (h1 : ItemsAt lo B w it l.length (fun j u => ValIs lo B w us f (intAt l j).toNat u)) (h2 : ItemsAt lo' B' w it' m.length (fun j u => ValIs lo' B' w vs f' (intAt m j).toNat u))
    (hl : l.length ≤ 80) (hm : m.length ≤ 80) (r1 : ∀ j, j < l.length → (intAt l j).toNat < us.length) (r2 : ∀ j, j < m.length → (intAt m j).toNat < vs.length) :
    Calls Tryz.prog 84 #[.iface 94 (.agg #[kv, it]), .iface 94 (.agg #[kv', it'])] w fun e w' => e = .returned (.int .i64 (if cmpKeys ks ks' ≠ 0 then cmpKeys ks ks' else cmpKids (fun a b => ord us vs f a.toNat b.toNat) l m)) ∧ Below w.heap.size w w' := by
  have IH := hideIt ih
  have H1 := hideIt h1
  have H2 := hideIt h2
  have G1 := hideIt g1
  have G2 := hideIt g2
  have R1 := hideIt r1
  have R2 := hideIt r2
  obtain ⟨a1, p1, rfl, _⟩ := h1
  obtain ⟨a2, p2, rfl, _⟩ := h2
  obtain ⟨_, _, d1, q1, rfl, _⟩ := g1
  obtain ⟨_, _, d2, q2, rfl, _⟩ := g2
  clear ih r1 r2
  have tabool := ta_map_bool
  have taint := ta_map_int
  have tatext := ta_map_text
  have tamap := ta_map_map
  have tb := tb_map
  have fld := fld_map
  go_enter Tryz.func84, Tryz.ntmps84
  go_wp2_with fail
  refine (kind6_any _ _ _ _ _ _ _).mono ?_
  rintro e w1 ⟨rfl, hb1⟩
  go_wp2_with fail
  refine (kind6_any _ _ _ _ _ _ _).mono ?_
  rintro e w2 ⟨rfl, hb2⟩
  have HB2 := hideIt (Below.next hb1 hb2)
  clear hb1 hb2
  go_wp2_with fail
  refine (cmpInt_any _ _ _).mono ?_
  rintro e w3 ⟨rfl, rfl⟩
  rw [show cmpI 6 6 = 0 from rfl]
  go_wp2_with fail
  have HBA := hideIt ((HB2.out).alloc HB2.out.size (.cells #[.slice d1 ks.length q1, .slice a1 l.length p1] 94))
  go_quiet ((go_at_call 97; exact Calls.quiet_of_same (slicesCompare_any w.heap.size _ _ ks ks' _ ((G1.out.wide (Nat.le_trans hlo hB)).below (below_drewN HBA.out _)) ((G2.out.wide (Nat.le_trans hlo' hB')).below (below_drewN HBA.out _)))))
  obtain ⟨bz, hbz0⟩ : ∃ bz, (cmpKeys ks ks' != 0) = bz := ⟨_, rfl⟩
  have HB3 := hideIt (below_drewN HBA.out nq)
  cases bz
  · have HZ : Hid (cmpKeys ks ks' = 0) := by simpa [Hid] using hbz0
    go_wp2_with fail
    refine (parts6_any _ _ _ _ _ _ _).mono ?_
    rintro e w4 ⟨rfl, hb4⟩
    have HB4 := hideIt (Below.next HB3.out hb4)
    clear hb4
    go_wp2_with fail
    refine (parts6_any _ _ _ _ _ _ _).mono ?_
    rintro e w5 ⟨rfl, hb5⟩
    have HB5 := hideIt (Below.next HB4.out hb5)
    clear hb5
    have z5 := HB5.out.size
    go_wp2_with fail
    refine (compareFunc_any lo B lo' B' us vs f f' l m _ _ _ (H1.out.keep (HB5.out.mono hB) hlo) (H2.out.keep (HB5.out.mono hB') hlo') hlo hlo' (by omega) (by omega) hl hm R1.out R2.out IH.out).mono ?_
    rintro e w6 ⟨rfl, hb6⟩
    go_wp2_with fail
    go_ret
    exact ⟨ret_int (by first | rfl | simp [HZ.out]), Below.next HB5.out hb6⟩
  · have HZ : Hid (¬ cmpKeys ks ks' = 0) := by simpa [Hid] using hbz0
    go_wp2_with fail
    go_ret
    exact ⟨ret_int (by first | rfl | simp [HZ.out]), HB3.out⟩
end Go.Proofs.YtfijafbpdlakaaaGreatDoor
