/-
  What is drawn is fine: few nodes with few keys and parts. Plain mathematics, and rows of rows while the reader turns.
-/
import Derived.Test.YtbclgogolimbgaaSMake
import Derived.Test.YtbclgogolimbgaaSortP
import Derived.Test.YtbclgogolimbgaaDrOp
import Derived.Test.YtbclgogolimbgaaLeaf
import Derived.Test.YtbclgogolimbgaaSSort
namespace Go.Proofs.Ytbclgogolimbgaa
open Go.RowKit
set_option linter.unusedSimpArgs false
set_option linter.unusedVariables false

structure FineN (c : Nat) (x : VN) : Prop where
  keysN : x.keys.length ≤ 3
  keysS : ∀ i, i < x.keys.length → (keyAt x.keys i).size ≤ 60
  kidsN : x.kids.length ≤ 3
  kids : ∀ j, j < x.kids.length → 0 ≤ intAt x.kids j ∧ intAt x.kids j < (c : Int)
  size : x.s.size ≤ 60
  kind : -9223372036854775808 ≤ x.kind ∧ x.kind ≤ 9223372036854775807
  num : -9223372036854775808 ≤ x.n ∧ x.n ≤ 9223372036854775807

def Fine (c : Nat) (vs : List VN) : Prop := 0 < vs.length ∧ vs.length ≤ c ∧ ∀ j, j < vs.length → FineN vs.length (nodeAt vs j)

theorem FineN.wide {c c' : Nat} {x : VN} (h : FineN c x) (hc : c ≤ c') : FineN c' x :=
  ⟨h.keysN, h.keysS, h.kidsN, fun j hj => by have := h.kids j hj; omega, h.size, h.kind, h.num⟩
theorem Fine.wide {c c' : Nat} {vs : List VN} (h : Fine c vs) (hc : c ≤ c') : Fine c' vs := ⟨h.1, by have := h.2.1; omega, h.2.2⟩

theorem intAt_shift (l : List Int) (d : Int) {j : Nat} (hj : j < l.length) : intAt (l.map (· + d)) j = intAt l j + d := by
  unfold intAt
  rw [List.getD_eq_getElem?_getD, List.getD_eq_getElem?_getD, List.getElem?_map, List.getElem?_eq_getElem hj]
  simp

theorem FineN.shift {c d c' : Nat} {x : VN} (h : FineN c x) (hc : c + d ≤ c') : FineN c' (shiftN (d : Int) x) := by
  refine ⟨h.keysN, h.keysS, by show (x.kids.map _).length ≤ 3; rw [List.length_map]; exact h.kidsN, fun j hj => ?_, h.size, h.kind, h.num⟩
  have hj' : j < x.kids.length := by have : j < (x.kids.map (· + (d : Int))).length := hj; rwa [List.length_map] at this
  have := h.kids j hj'
  show 0 ≤ intAt (x.kids.map (· + (d : Int))) j ∧ intAt (x.kids.map (· + (d : Int))) j < (c' : Int)
  rw [intAt_shift _ _ hj']
  omega

theorem nodeAt_l {xs ys : List VN} {i : Nat} (h : i < xs.length) : nodeAt (xs ++ ys) i = nodeAt xs i := by
  unfold nodeAt; rw [List.getD_eq_getElem?_getD, List.getD_eq_getElem?_getD, List.getElem?_append_left h]
theorem nodeAt_r {xs ys : List VN} {i : Nat} (h : xs.length ≤ i) : nodeAt (xs ++ ys) i = nodeAt ys (i - xs.length) := by
  unfold nodeAt; rw [List.getD_eq_getElem?_getD, List.getD_eq_getElem?_getD, List.getElem?_append_right h]
theorem nodeAt_sh {xs : List VN} {d : Int} {i : Nat} (h : i < xs.length) : nodeAt (xs.map (shiftN d)) i = shiftN d (nodeAt xs i) := by
  unfold nodeAt; rw [List.getD_eq_getElem?_getD, List.getD_eq_getElem?_getD, List.getElem?_map, List.getElem?_eq_getElem h]; rfl

theorem fine_cat {c m : Nat} {L : Nat → List VN} (h : ∀ i, i < m → Fine c (L i)) : ∀ i, i ≤ m → (catNs L i).length ≤ i * c ∧ ∀ j, j < (catNs L i).length → FineN (catNs L i).length (nodeAt (catNs L i) j) := by
  intro i
  induction i with
  | zero => intro _; exact ⟨by simp [catNs], fun j hj => absurd hj (by simp [catNs])⟩
  | succ i ih =>
    intro hi
    obtain ⟨h1, h2⟩ := ih (by omega)
    have hL := h i (by omega)
    have hl := catNs_len L i
    refine ⟨by rw [hl, Nat.succ_mul]; have := hL.2.1; omega, fun j hj => ?_⟩
    rw [hl] at hj ⊢
    show FineN _ (nodeAt (catNs L i ++ (L i).map (shiftN ((catNs L i).length : Int))) j)
    by_cases e : j < (catNs L i).length
    · rw [nodeAt_l e]; exact (h2 j e).wide (by omega)
    · rw [nodeAt_r (by omega), nodeAt_sh (by omega)]
      exact (hL.2.2 _ (by omega)).shift (by omega)

theorem catKs_at (L : Nat → List VN) : ∀ (m j : Nat), j < m → intAt (catKs L m) j = ((catNs L (j + 1)).length : Int) - 1 := by
  intro m
  induction m with
  | zero => intro j hj; omega
  | succ m ih =>
    intro j hj
    show intAt (catKs L m ++ [((catNs L (m + 1)).length : Int) - 1]) j = _
    by_cases e : j < m
    · have : intAt (catKs L m ++ [((catNs L (m + 1)).length : Int) - 1]) j = intAt (catKs L m) j := by
        unfold intAt; rw [List.getD_eq_getElem?_getD, List.getD_eq_getElem?_getD, List.getElem?_append_left (by rw [catKs_len]; exact e)]
      rw [this]; exact ih j e
    · obtain rfl : j = m := by omega
      unfold intAt
      rw [List.getD_eq_getElem?_getD, List.getElem?_append_right (by rw [catKs_len]; omega), catKs_len]
      simp

theorem fine_make {c m : Nat} {L : Nat → List VN} (h : ∀ i, i < m → Fine c (L i)) (hm : m ≤ 3) {kind : Int} (hk1 : 0 ≤ kind) (hk2 : kind ≤ 6) {keys : List ByteArray} (hk : keys.length ≤ 3) (hks : ∀ i, i < keys.length → (keyAt keys i).size ≤ 60) : Fine (3 * c + 1) (makeNs kind keys L m) := by
  obtain ⟨h1, h2⟩ := fine_cat h m (Nat.le_refl _)
  have hc : m * c ≤ 3 * c := Nat.mul_le_mul_right c hm
  have hl : (makeNs kind keys L m).length = (catNs L m).length + 1 := by unfold makeNs; simp
  refine ⟨by omega, by omega, fun j hj => ?_⟩
  rw [hl] at hj ⊢
  unfold makeNs
  by_cases e : j < (catNs L m).length
  · rw [nodeAt_l e]; exact (h2 j e).wide (by omega)
  · rw [nodeAt_r (by omega), show j - (catNs L m).length = 0 by omega]
    refine ⟨hk, hks, by show (catKs L m).length ≤ 3; rw [catKs_len]; exact hm, fun i hi => ?_, by show ByteArray.empty.size ≤ 60; decide, ⟨by show (-9223372036854775808 : Int) ≤ kind; omega, by show kind ≤ 9223372036854775807; omega⟩, by show (-9223372036854775808 : Int) ≤ 0 ∧ (0 : Int) ≤ 9223372036854775807; decide⟩
    have hi' : i < m := by have : i < (catKs L m).length := hi; rwa [catKs_len] at this
    show 0 ≤ intAt (catKs L m) i ∧ intAt (catKs L m) i < _
    rw [catKs_at L m i hi']
    have h3 := catNs_len L i
    have h4 := (h i hi').1
    have h5 := catNs_mono L (show i + 1 ≤ m by omega)
    omega

theorem Fine.few {c : Nat} {vs : List VN} (h : Fine c vs) (hc : c ≤ 80) : Few vs ∧ ∀ j, j < vs.length → Fits (nodeAt vs j) := by
  refine ⟨⟨by have := h.2.1; omega, fun i hi => ?_⟩, fun j hj => ?_⟩
  · have := h.2.2 i hi; exact ⟨by have := this.keysN; omega, by have := this.kidsN; omega⟩
  · have hx := h.2.2 j hj
    exact ⟨by have := hx.keysN; omega, fun i hi => by have := hx.keysS i hi; omega, by have := hx.kidsN; omega, fun i hi => by have := hx.kids i hi; have := h.2.1; omega, by have := hx.size; omega, hx.kind.1, hx.kind.2, hx.num.1, hx.num.2⟩
theorem Fine.near {c : Nat} {vs : List VN} (h : Fine c vs) (hc : c ≤ 80) : 0 < vs.length ∧ ∀ j, j < vs.length → Near (nodeAt vs j) := by
  refine ⟨h.1, fun j hj => ?_⟩
  have hx := h.2.2 j hj
  exact ⟨by have := hx.keysN; omega, by have := hx.kidsN; omega, fun i hi => by have := hx.kids i hi; have := h.2.1; omega⟩

theorem Drawn.from {rb n base : Nat} {w w' : World} (h : Drawn rb n w w') (hb : rb < base) : From base w w' := ⟨h.only.1, fun c h1 h2 => h.only.2 c h2 (by omega)⟩

/-- One row more, while blocks ahead of the rows may have turned: made in new memory, then appended. -/
theorem Rows2.snocF {base : Nat} {w w1 w5 : World} {v v' r : Value} {m : Nat} {L : Nat → List VN} {rs : Nat → Value} {KV IV : Nat → Nat → Value} {lo : Nat → Nat} {K I : Nat → Value} {o : Obj} (h : Rows2 base w v m L rs KV IV lo) (hb : From base w w1) (hn : Nest w.heap.size w1 r (L m) K I)
    (hown : w5.ownsRow base 24 1 v' (m + 1) ((List.range m).map rs ++ [r])) (hg : (w1.alloc o).grownBy w5 v.ownBlock) :
    Rows2 base w5 v' (m + 1) L (updF rs m r) (updF KV m K) (updF IV m I) (fun i => if i < m then lo i else if i = m then w.heap.size else w1.heap.size) := by
  have h1 := h.from hb
  have hg1 : w1.grownBy w5 v.ownBlock := (World.grownBy_alloc w1 o _).trans hg
  have hs := hb.1
  have hgs := hg1.size
  have kept : ∀ {b : Nat} {u : Value} {vs : List VN} {A C : Nat → Value}, Nest b w1 u vs A C → Nest b w5 u vs A C := fun hx => hx.kept hg1 (own_apart hx.row h1.row (by decide)) (fun i hi => own_apart (hx.rk i hi) h1.row (by decide)) (fun i hi => own_apart (hx.ri i hi) h1.row (by decide))
  refine ⟨by rw [range_map_snoc]; exact hown, fun i hi => ?_, fun i hi => ?_, fun i j hij hj => ?_, ?_, fun i hi x hx => ?_⟩
  · by_cases e : i = m
    · subst e
      simp only [updF_same, Nat.lt_irrefl, if_true, if_false]
      exact kept hn
    · simp only [updF_other _ _ e, if_pos (show i < m by omega)]
      exact kept (h1.nest i (by omega))
  · have hl := h.low m (Nat.le_refl _)
    have ht := h.top
    by_cases e : i < m
    · simp only [if_pos e]; exact h.low i (by omega)
    · by_cases e2 : i = m
      · simp only [if_neg e, if_pos e2]; omega
      · simp only [if_neg e, if_neg e2]; omega
  · have ht := h.top
    by_cases e : j < m
    · simp only [if_pos e, if_pos (show i < m by omega)]; exact h.mono i j hij (by omega)
    · by_cases e1 : i < m
      · have := h.mono i m (by omega) (Nat.le_refl _)
        by_cases e2 : j = m
        · simp only [if_pos e1, if_neg e, if_pos e2]; omega
        · simp only [if_pos e1, if_neg e, if_neg e2]; omega
      · by_cases e2 : j = m
        · simp only [if_neg e1, if_neg e, if_pos e2, if_pos (show i = m by omega)]; omega
        · by_cases e3 : i = m
          · simp only [if_neg e1, if_neg e, if_neg e2, if_pos e3]; omega
          · simp only [if_neg e1, if_neg e, if_neg e2, if_neg e3]; omega
  · simp only [if_neg (show ¬ m + 1 < m by omega), if_neg (show ¬ m + 1 = m by omega)]; omega
  · have ht := h.top
    by_cases e : i = m
    · subst e
      simp only [updF_same] at hx
      simp only [if_neg (show ¬ i + 1 < i by omega), if_neg (show ¬ i + 1 = i by omega)]
      exact (hn.inn hx).2
    · simp only [updF_other _ _ e] at hx
      have := h.inn i (by omega) x hx
      by_cases e2 : i + 1 < m
      · simp only [if_pos e2]; exact this
      · obtain e3 : i + 1 = m := by omega
        rw [e3] at this
        simp only [if_neg e2, if_pos e3]; omega

end Go.Proofs.Ytbclgogolimbgaa

/-
  Values of one node, as they are drawn.
-/
namespace Go.Proofs.Ytbclgogolimbgaa
open Go.RowKit
set_option linter.unusedSimpArgs false
set_option linter.unusedVariables false

theorem leaf_fine {kind n : Int} {s : ByteArray} (h1 : 0 ≤ kind) (h2 : kind ≤ 6) (h3 : -10000000000000000 ≤ n) (h4 : n ≤ 10000000000000000) (h5 : s.size ≤ 60) : Fine 1 (leafN kind n s) := by
  refine ⟨by simp [leafN], by simp [leafN], fun j hj => ?_⟩
  obtain rfl : j = 0 := by simp [leafN] at hj; omega
  exact ⟨by show 0 ≤ 3; omega, fun i hi => absurd hi (by show ¬ i < 0; omega), by show 0 ≤ 3; omega, fun i hi => absurd hi (by show ¬ i < 0; omega), h5, ⟨by show _ ≤ kind; omega, by show kind ≤ _; omega⟩, ⟨by show _ ≤ n; omega, by show n ≤ _; omega⟩⟩

set_option maxHeartbeats 800000 in
theorem l1Null_any (w : World) : Calls Try.prog 99 #[] w fun e w' => ∃ r vs KV IV, e = .returned r ∧ Fine 1 vs ∧ Nest w.heap.size w' r vs KV IV ∧ Below w.heap.size w w' := by
  go_enter Try.func99, Try.ntmps99
  go_wp2_with fail
  go_ret
  exact ⟨_, leafN 1 0 ByteArray.empty, _, _, rfl, leaf_fine (by omega) (by omega) (by omega) (by omega) (by decide), leaf_nest w 1 0 ByteArray.empty, (Below.refl _ _).alloc (Nat.le_refl _) _⟩

set_option maxHeartbeats 800000 in
theorem l1Bool_any (b : Bool) (w : World) : Calls Try.prog 100 #[.bool b] w fun e w' => ∃ r vs KV IV, e = .returned r ∧ Fine 1 vs ∧ Nest w.heap.size w' r vs KV IV ∧ Below w.heap.size w w' := by
  cases b
  · go_enter Try.func100, Try.ntmps100
    go_wp2_with fail
    go_ret
    exact ⟨_, leafN 2 0 ByteArray.empty, _, _, rfl, leaf_fine (by omega) (by omega) (by omega) (by omega) (by decide), leaf_nest w 2 0 ByteArray.empty, (Below.refl _ _).alloc (Nat.le_refl _) _⟩
  · go_enter Try.func100, Try.ntmps100
    go_wp2_with fail
    go_ret
    exact ⟨_, leafN 2 1 ByteArray.empty, _, _, rfl, leaf_fine (by omega) (by omega) (by omega) (by omega) (by decide), leaf_nest w 2 1 ByteArray.empty, (Below.refl _ _).alloc (Nat.le_refl _) _⟩

set_option maxHeartbeats 800000 in
theorem l1Number_any (n : Int) (w : World) (h3 : -10000000000000000 ≤ n) (h4 : n ≤ 10000000000000000) : Calls Try.prog 101 #[.int .i64 n] w fun e w' => ∃ r vs KV IV, e = .returned r ∧ Fine 1 vs ∧ Nest w.heap.size w' r vs KV IV ∧ Below w.heap.size w w' := by
  go_enter Try.func101, Try.ntmps101
  go_wp2_with fail
  go_ret
  exact ⟨_, leafN 3 n ByteArray.empty, _, _, rfl, leaf_fine (by omega) (by omega) (by omega) (by omega) (by decide), leaf_nest w 3 n ByteArray.empty, (Below.refl _ _).alloc (Nat.le_refl _) _⟩

set_option maxHeartbeats 800000 in
theorem l1Word_any (s : ByteArray) (w : World) (hs : s.size ≤ 60) : Calls Try.prog 103 #[.string s] w fun e w' => ∃ r vs KV IV, e = .returned r ∧ Fine 1 vs ∧ Nest w.heap.size w' r vs KV IV ∧ Below w.heap.size w w' := by
  go_enter Try.func103, Try.ntmps103
  go_wp2_with fail
  go_ret
  exact ⟨_, leafN 4 0 s, _, _, rfl, leaf_fine (by omega) (by omega) (by omega) (by omega) hs, leaf_nest w 4 0 s, (Below.refl _ _).alloc (Nat.le_refl _) _⟩
end Go.Proofs.Ytbclgogolimbgaa

/-
  Rows of rows of nodes, kept and put in another order. No walk.
-/
namespace Go.Proofs.Ytbclgogolimbgaa
open Go.RowKit
set_option linter.unusedSimpArgs false
set_option linter.unusedVariables false

theorem Rows2.congr {base : Nat} {w : World} {v : Value} {m : Nat} {L L' : Nat → List VN} {rs : Nat → Value} {KV IV : Nat → Nat → Value} {lo : Nat → Nat} (h : Rows2 base w v m L rs KV IV lo) (e : ∀ i, i < m → L' i = L i) : Rows2 base w v m L' rs KV IV lo :=
  ⟨h.row, fun i hi => by rw [e i hi]; exact h.nest i hi, h.low, h.mono, h.top, fun i hi x hx => by rw [e i hi] at hx; exact h.inn i hi x hx⟩

theorem Rows2.kept {base : Nat} {w w' : World} {v : Value} {m : Nat} {L : Nat → List VN} {rs : Nat → Value} {KV IV : Nat → Nat → Value} {lo : Nat → Nat} {x : Option Nat} (h : Rows2 base w v m L rs KV IV lo) (hg : w.grownBy w' x) (hr : v.ownBlock = none ∨ v.ownBlock ≠ x) (hn : ∀ i, i < m → ∀ y, InNest (rs i) (L i).length (KV i) (IV i) y → x ≠ some y) : Rows2 base w' v m L rs KV IV lo := by
  have go : ∀ {u : Value}, (∀ y, u.ownBlock = some y → x ≠ some y) → u.ownBlock = none ∨ u.ownBlock ≠ x := by
    intro u hu
    cases e : u.ownBlock with
    | none => exact Or.inl rfl
    | some y => exact Or.inr (fun e2 => hu y e e2.symm)
  refine ⟨h.row.kept hg hr, fun i hi => (h.nest i hi).kept hg (go fun y hy => hn i hi y (Or.inl hy)) (fun j hj => go fun y hy => hn i hi y (Or.inr ⟨j, hj, Or.inl hy⟩)) (fun j hj => go fun y hy => hn i hi y (Or.inr ⟨j, hj, Or.inr hy⟩)), h.low, h.mono, Nat.le_trans h.top hg.size, h.inn⟩

theorem sortIn_keys {ks : List ByteArray} : ∀ {i : Nat} {ns : List ByteArray} {ps : List Nat}, sortIn ks i = some (ns, ps) → ∀ x ∈ ns, ∃ j, j < i ∧ x = keyAt ks j := by
  intro i
  induction i with
  | zero => intro ns ps h; simp [sortIn] at h; obtain ⟨rfl, rfl⟩ := h; simp
  | succ i ih =>
    intro ns ps h
    rw [sortIn] at h
    split at h
    · cases h
    · rename_i ns0 ps0 h0
      split at h
      · cases h
      · injection h with h
        injection h with e1 e2
        subst e1 e2
        intro x hx
        simp only [List.mem_append, List.mem_singleton] at hx
        rcases hx with (hx | hx) | hx
        · obtain ⟨j, h1, h2⟩ := ih h0 x (List.mem_of_mem_take hx); exact ⟨j, by omega, h2⟩
        · exact ⟨i, by omega, hx⟩
        · obtain ⟨j, h1, h2⟩ := ih h0 x (List.mem_of_mem_drop hx); exact ⟨j, by omega, h2⟩

theorem keyAt_mem {l : List ByteArray} {i : Nat} (h : i < l.length) : keyAt l i ∈ l := by
  unfold keyAt
  rw [List.getD_eq_getElem?_getD, List.getElem?_eq_getElem h]
  exact List.getElem_mem h

theorem keyAt_snoc {l : List ByteArray} {s : ByteArray} {i : Nat} (h : i < l.length + 1) : keyAt (l ++ [s]) i = if i < l.length then keyAt l i else s := by
  unfold keyAt
  split
  · rename_i e; rw [List.getD_eq_getElem?_getD, List.getD_eq_getElem?_getD, List.getElem?_append_left e]
  · rename_i e
    obtain rfl : i = l.length := by omega
    simp

/-- Rows in another order, as they are read. -/
theorem Rows2.places {base B : Nat} {w w' : World} {v lv : Value} {m : Nat} {L : Nat → List VN} {rs : Nat → Value} {KV IV : Nat → Nat → Value} {lo : Nat → Nat} {ps : List Nat} (h : Rows2 base w v m L rs KV IV lo) (hb : Below w.heap.size w w') (hp : ∀ x ∈ ps, x < m) (hl : ps.length = m) (hm : m ≤ 80) (hf : ∀ i, i < m → Few (L i) ∧ ∀ j, j < (L i).length → Fits (nodeAt (L i) j))
    (hown : w'.ownsRow B 24 1 lv ps.length (ps.map rs)) : RowsAt w'.heap.size w' lv m (fun i => L (ps.getD i 0)) := by
  rw [hl] at hown
  obtain ⟨a, c, e⟩ := own_slice hown
  subst e
  refine ⟨by omega, a, c, rfl, fun hpos => ?_⟩
  obtain ⟨g, cap, e, _, hlt⟩ := hown.form (by omega)
  cases e
  refine ⟨g, rfl, hlt, fun i hi => ?_⟩
  have hi' : i < ps.length := by omega
  have hg : ps.getD i 0 = ps[i] := by rw [List.getD_eq_getElem?_getD, List.getElem?_eq_getElem hi']; rfl
  have hpm : ps.getD i 0 < m := by rw [hg]; exact hp _ (List.getElem_mem hi')
  refine ⟨rs (ps.getD i 0), ?_, ?_⟩
  · have hc := hown.cellAt i (show i < m * 1 by omega)
    rw [hc, List.getElem?_map, List.getElem?_eq_getElem hi', hg]; rfl
  · exact ((h.below hb).nest _ hpm).nodes (by have := (hf _ hpm).1.1; omega) (hf _ hpm).2

end Go.Proofs.Ytbclgogolimbgaa
