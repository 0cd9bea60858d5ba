import Derived.Test.YtcidjhnogldgmaaGreatDoorTOk
import Derived.Test.YtcidjhnogldgmaaGreatDoorSLen
import Derived.Test.YtcidjhnogldgmaaGreatDoorDrOp
import Derived.Test.YtcidjhnogldgmaaGreatDoorRd
import Derived.Laws.OwnMore
namespace Go.Proofs.YtcidjhnogldgmaaGreatDoor
open Go.RowKit
set_option linter.unusedSimpArgs false
set_option linter.unusedVariables false
structure FineN (c : Nat) (x : VN) : Prop where
  keysN : x.keys.length ≤ 3
  keysS : ∀ i, i < x.keys.length → (keyAt x.keys i).size ≤ 60
  kidsN : x.kids.length ≤ 3
  kids : ∀ j, j < x.kids.length → 0 ≤ intAt x.kids j ∧ intAt x.kids j < (c : Int)
  size : x.s.size ≤ 60
  kind : -9223372036854775808 ≤ x.kind ∧ x.kind ≤ 9223372036854775807
  num : -9223372036854775808 ≤ x.n ∧ x.n ≤ 9223372036854775807
def Fine (c : Nat) (vs : List VN) : Prop := 0 < vs.length ∧ vs.length ≤ c ∧ ∀ j, j < vs.length → FineN vs.length (nodeAt vs j)
theorem FineN.wide {c c' : Nat} {x : VN} (h : FineN c x) (hc : c ≤ c') : FineN c' x :=
  ⟨h.keysN, h.keysS, h.kidsN, fun j hj => by have := h.kids j hj; omega, h.size, h.kind, h.num⟩
theorem Fine.wide {c c' : Nat} {vs : List VN} (h : Fine c vs) (hc : c ≤ c') : Fine c' vs := ⟨h.1, by have := h.2.1; omega, h.2.2⟩
theorem intAt_shift (l : List Int) (d : Int) {j : Nat} (hj : j < l.length) : intAt (l.map (· + d)) j = intAt l j + d := by
  unfold intAt
  rw [List.getD_eq_getElem?_getD, List.getD_eq_getElem?_getD, List.getElem?_map, List.getElem?_eq_getElem hj]
  simp
theorem FineN.shift {c d c' : Nat} {x : VN} (h : FineN c x) (hc : c + d ≤ c') : FineN c' (shiftN (d : Int) x) := by
  refine ⟨h.keysN, h.keysS, by show (x.kids.map _).length ≤ 3; rw [List.length_map]; exact h.kidsN, fun j hj => ?_, h.size, h.kind, h.num⟩
  have hj' : j < x.kids.length := by have : j < (x.kids.map (· + (d : Int))).length := hj; rwa [List.length_map] at this
  have := h.kids j hj'
  show 0 ≤ intAt (x.kids.map (· + (d : Int))) j ∧ intAt (x.kids.map (· + (d : Int))) j < (c' : Int)
  rw [intAt_shift _ _ hj']
  omega
theorem nodeAt_l {xs ys : List VN} {i : Nat} (h : i < xs.length) : nodeAt (xs ++ ys) i = nodeAt xs i := by
  unfold nodeAt; rw [List.getD_eq_getElem?_getD, List.getD_eq_getElem?_getD, List.getElem?_append_left h]
theorem nodeAt_r {xs ys : List VN} {i : Nat} (h : xs.length ≤ i) : nodeAt (xs ++ ys) i = nodeAt ys (i - xs.length) := by
  unfold nodeAt; rw [List.getD_eq_getElem?_getD, List.getD_eq_getElem?_getD, List.getElem?_append_right h]
theorem nodeAt_sh {xs : List VN} {d : Int} {i : Nat} (h : i < xs.length) : nodeAt (xs.map (shiftN d)) i = shiftN d (nodeAt xs i) := by
  unfold nodeAt; rw [List.getD_eq_getElem?_getD, List.getD_eq_getElem?_getD, List.getElem?_map, List.getElem?_eq_getElem h]; rfl
theorem fine_cat {c m : Nat} {L : Nat → List VN} (h : ∀ i, i < m → Fine c (L i)) : ∀ i, i ≤ m → (catNs L i).length ≤ i * c ∧ ∀ j, j < (catNs L i).length → FineN (catNs L i).length (nodeAt (catNs L i) j) := by
  intro i
  induction i with
  | zero => intro _; exact ⟨by simp [catNs], fun j hj => absurd hj (by simp [catNs])⟩
  | succ i ih =>
    intro hi
    obtain ⟨h1, h2⟩ := ih (by omega)
    have hL := h i (by omega)
    have hl := catNs_len L i
    refine ⟨by rw [hl, Nat.succ_mul]; have := hL.2.1; omega, fun j hj => ?_⟩
    rw [hl] at hj ⊢
    show FineN _ (nodeAt (catNs L i ++ (L i).map (shiftN ((catNs L i).length : Int))) j)
    by_cases e : j < (catNs L i).length
    · rw [nodeAt_l e]; exact (h2 j e).wide (by omega)
    · rw [nodeAt_r (by omega), nodeAt_sh (by omega)]
      exact (hL.2.2 _ (by omega)).shift (by omega)
theorem catKs_at (L : Nat → List VN) : ∀ (m j : Nat), j < m → intAt (catKs L m) j = ((catNs L (j + 1)).length : Int) - 1 := by
  intro m
  induction m with
  | zero => intro j hj; omega
  | succ m ih =>
    intro j hj
    show intAt (catKs L m ++ [((catNs L (m + 1)).length : Int) - 1]) j = _
    by_cases e : j < m
    · have : intAt (catKs L m ++ [((catNs L (m + 1)).length : Int) - 1]) j = intAt (catKs L m) j := by
        unfold intAt; rw [List.getD_eq_getElem?_getD, List.getD_eq_getElem?_getD, List.getElem?_append_left (by rw [catKs_len]; exact e)]
      rw [this]; exact ih j e
    · obtain rfl : j = m := by omega
      unfold intAt
      rw [List.getD_eq_getElem?_getD, List.getElem?_append_right (by rw [catKs_len]; omega), catKs_len]
      simp
theorem fine_make {c m : Nat} {L : Nat → List VN} (h : ∀ i, i < m → Fine c (L i)) (hm : m ≤ 3) {kind : Int} (hk1 : 0 ≤ kind) (hk2 : kind ≤ 6) {keys : List ByteArray} (hk : keys.length ≤ 3) (hks : ∀ i, i < keys.length → (keyAt keys i).size ≤ 60) : Fine (3 * c + 1) (makeNs kind keys L m) := by
  obtain ⟨h1, h2⟩ := fine_cat h m (Nat.le_refl _)
  have hc : m * c ≤ 3 * c := Nat.mul_le_mul_right c hm
  have hl : (makeNs kind keys L m).length = (catNs L m).length + 1 := by unfold makeNs; simp
  refine ⟨by omega, by omega, fun j hj => ?_⟩
  rw [hl] at hj ⊢
  unfold makeNs
  by_cases e : j < (catNs L m).length
  · rw [nodeAt_l e]; exact (h2 j e).wide (by omega)
  · rw [nodeAt_r (by omega), show j - (catNs L m).length = 0 by omega]
    refine ⟨hk, hks, by show (catKs L m).length ≤ 3; rw [catKs_len]; exact hm, fun i hi => ?_, by show ByteArray.empty.size ≤ 60; decide, ⟨by show (-9223372036854775808 : Int) ≤ kind; omega, by show kind ≤ 9223372036854775807; omega⟩, by show (-9223372036854775808 : Int) ≤ 0 ∧ (0 : Int) ≤ 9223372036854775807; decide⟩
    have hi' : i < m := by have : i < (catKs L m).length := hi; rwa [catKs_len] at this
    show 0 ≤ intAt (catKs L m) i ∧ intAt (catKs L m) i < _
    rw [catKs_at L m i hi']
    have h3 := catNs_len L i
    have h4 := (h i hi').1
    have h5 := catNs_mono L (show i + 1 ≤ m by omega)
    omega
theorem Fine.few {c : Nat} {vs : List VN} (h : Fine c vs) (hc : c ≤ 80) : Few vs ∧ ∀ j, j < vs.length → Fits (nodeAt vs j) := by
  refine ⟨⟨by have := h.2.1; omega, fun i hi => ?_⟩, fun j hj => ?_⟩
  · have := h.2.2 i hi; exact ⟨by have := this.keysN; omega, by have := this.kidsN; omega⟩
  · have hx := h.2.2 j hj
    exact ⟨by have := hx.keysN; omega, fun i hi => by have := hx.keysS i hi; omega, by have := hx.kidsN; omega, fun i hi => by have := hx.kids i hi; have := h.2.1; omega, by have := hx.size; omega, hx.kind.1, hx.kind.2, hx.num.1, hx.num.2⟩
theorem Fine.near {c : Nat} {vs : List VN} (h : Fine c vs) (hc : c ≤ 80) : 0 < vs.length ∧ ∀ j, j < vs.length → Near (nodeAt vs j) := by
  refine ⟨h.1, fun j hj => ?_⟩
  have hx := h.2.2 j hj
  exact ⟨by have := hx.keysN; omega, by have := hx.kidsN; omega, fun i hi => by have := hx.kids i hi; have := h.2.1; omega⟩
theorem Drawn.from {rb n base : Nat} {w w' : World} (h : Drawn rb n w w') (hb : rb < base) : From base w w' := ⟨h.only.1, fun c h1 h2 => h.only.2 c h2 (by omega)⟩
theorem Rows2.snocF {base : Nat} {w w1 w5 : World} {v v' r : Value} {m : Nat} {L : Nat → List VN} {rs : Nat → Value} {KV IV : Nat → Nat → Value} {lo : Nat → Nat} {K I : Nat → Value} {o : Obj} (h : Rows2 base w v m L rs KV IV lo) (hb : From base w w1) (hn : Nest w.heap.size w1 r (L m) K I)
    (hown : w5.ownsRow base 24 1 v' (m + 1) ((List.range m).map rs ++ [r])) (hg : (w1.alloc o).grownBy w5 v.ownBlock) :
    Rows2 base w5 v' (m + 1) L (updF rs m r) (updF KV m K) (updF IV m I) (fun i => if i < m then lo i else if i = m then w.heap.size else w1.heap.size) := by
  have h1 := h.from hb
  have hg1 : w1.grownBy w5 v.ownBlock := (World.grownBy_alloc w1 o _).trans hg
  have hs := hb.1
  have hgs := hg1.size
  have kept : ∀ {b : Nat} {u : Value} {vs : List VN} {A C : Nat → Value}, Nest b w1 u vs A C → Nest b w5 u vs A C := fun hx => hx.kept hg1 (own_apart hx.row h1.row (by decide)) (fun i hi => own_apart (hx.rk i hi) h1.row (by decide)) (fun i hi => own_apart (hx.ri i hi) h1.row (by decide))
  refine ⟨by rw [range_map_snoc]; exact hown, fun i hi => ?_, fun i hi => ?_, fun i j hij hj => ?_, ?_, fun i hi x hx => ?_⟩
  · by_cases e : i = m
    · subst e
      simp only [updF_same, Nat.lt_irrefl, if_true, if_false]
      exact kept hn
    · simp only [updF_other _ _ e, if_pos (show i < m by omega)]
      exact kept (h1.nest i (by omega))
  · have hl := h.low m (Nat.le_refl _)
    have ht := h.top
    by_cases e : i < m
    · simp only [if_pos e]; exact h.low i (by omega)
    · by_cases e2 : i = m
      · simp only [if_neg e, if_pos e2]; omega
      · simp only [if_neg e, if_neg e2]; omega
  · have ht := h.top
    by_cases e : j < m
    · simp only [if_pos e, if_pos (show i < m by omega)]; exact h.mono i j hij (by omega)
    · by_cases e1 : i < m
      · have := h.mono i m (by omega) (Nat.le_refl _)
        by_cases e2 : j = m
        · simp only [if_pos e1, if_neg e, if_pos e2]; omega
        · simp only [if_pos e1, if_neg e, if_neg e2]; omega
      · by_cases e2 : j = m
        · simp only [if_neg e1, if_neg e, if_pos e2, if_pos (show i = m by omega)]; omega
        · by_cases e3 : i = m
          · simp only [if_neg e1, if_neg e, if_neg e2, if_pos e3]; omega
          · simp only [if_neg e1, if_neg e, if_neg e2, if_neg e3]; omega
  · simp only [if_neg (show ¬ m + 1 < m by omega), if_neg (show ¬ m + 1 = m by omega)]; omega
  · have ht := h.top
    by_cases e : i = m
    · subst e
      simp only [updF_same] at hx
      simp only [if_neg (show ¬ i + 1 < i by omega), if_neg (show ¬ i + 1 = i by omega)]
      exact (hn.inn hx).2
    · simp only [updF_other _ _ e] at hx
      have := h.inn i (by omega) x hx
      by_cases e2 : i + 1 < m
      · simp only [if_pos e2]; exact this
      · obtain e3 : i + 1 = m := by omega
        rw [e3] at this
        simp only [if_neg e2, if_pos e3]; omega
end Go.Proofs.YtcidjhnogldgmaaGreatDoor

namespace Go.Proofs.YtcidjhnogldgmaaGreatDoor
open Go.RowKit
set_option linter.unusedSimpArgs false
set_option linter.unusedVariables false
theorem leaf_fine {kind n : Int} {s : ByteArray} (h1 : 0 ≤ kind) (h2 : kind ≤ 6) (h3 : -10000000000000000 ≤ n) (h4 : n ≤ 10000000000000000) (h5 : s.size ≤ 60) : Fine 1 (leafN kind n s) := by
  refine ⟨by simp [leafN], by simp [leafN], fun j hj => ?_⟩
  obtain rfl : j = 0 := by simp [leafN] at hj; omega
  exact ⟨by show 0 ≤ 3; omega, fun i hi => absurd hi (by show ¬ i < 0; omega), by show 0 ≤ 3; omega, fun i hi => absurd hi (by show ¬ i < 0; omega), h5, ⟨by show _ ≤ kind; omega, by show kind ≤ _; omega⟩, ⟨by show _ ≤ n; omega, by show n ≤ _; omega⟩⟩
set_option maxHeartbeats 800000 in
theorem l1Null_any (w : World) : Calls Tryz.prog 40 #[] w fun e w' => ∃ r vs KV IV, e = .returned r ∧ Fine 1 vs ∧ Nest w.heap.size w' r vs KV IV ∧ Below w.heap.size w w' := by
  go_enter Tryz.func40, Tryz.ntmps40
  go_wp2_with fail
  go_ret
  exact ⟨_, leafN 1 0 ByteArray.empty, _, _, rfl, leaf_fine (by omega) (by omega) (by omega) (by omega) (by decide), leaf_nest w 1 0 ByteArray.empty, (Below.refl _ _).alloc (Nat.le_refl _) _⟩
set_option maxHeartbeats 800000 in
theorem l1Bool_any (b : Bool) (w : World) : Calls Tryz.prog 41 #[.bool b] w fun e w' => ∃ r vs KV IV, e = .returned r ∧ Fine 1 vs ∧ Nest w.heap.size w' r vs KV IV ∧ Below w.heap.size w w' := by
  cases b
  · go_enter Tryz.func41, Tryz.ntmps41
    go_wp2_with fail
    go_ret
    exact ⟨_, leafN 2 0 ByteArray.empty, _, _, rfl, leaf_fine (by omega) (by omega) (by omega) (by omega) (by decide), leaf_nest w 2 0 ByteArray.empty, (Below.refl _ _).alloc (Nat.le_refl _) _⟩
  · go_enter Tryz.func41, Tryz.ntmps41
    go_wp2_with fail
    go_ret
    exact ⟨_, leafN 2 1 ByteArray.empty, _, _, rfl, leaf_fine (by omega) (by omega) (by omega) (by omega) (by decide), leaf_nest w 2 1 ByteArray.empty, (Below.refl _ _).alloc (Nat.le_refl _) _⟩
set_option maxHeartbeats 800000 in
theorem l1Number_any (n : Int) (w : World) (h3 : -10000000000000000 ≤ n) (h4 : n ≤ 10000000000000000) : Calls Tryz.prog 33 #[.int .i64 n] w fun e w' => ∃ r vs KV IV, e = .returned r ∧ Fine 1 vs ∧ Nest w.heap.size w' r vs KV IV ∧ Below w.heap.size w w' := by
  go_enter Tryz.func33, Tryz.ntmps33
  go_wp2_with fail
  go_ret
  exact ⟨_, leafN 3 n ByteArray.empty, _, _, rfl, leaf_fine (by omega) (by omega) (by omega) (by omega) (by decide), leaf_nest w 3 n ByteArray.empty, (Below.refl _ _).alloc (Nat.le_refl _) _⟩
set_option maxHeartbeats 800000 in
theorem l1Word_any (s : ByteArray) (w : World) (hs : s.size ≤ 60) : Calls Tryz.prog 43 #[.string s] w fun e w' => ∃ r vs KV IV, e = .returned r ∧ Fine 1 vs ∧ Nest w.heap.size w' r vs KV IV ∧ Below w.heap.size w w' := by
  go_enter Tryz.func43, Tryz.ntmps43
  go_wp2_with fail
  go_ret
  exact ⟨_, leafN 4 0 s, _, _, rfl, leaf_fine (by omega) (by omega) (by omega) (by omega) hs, leaf_nest w 4 0 s, (Below.refl _ _).alloc (Nat.le_refl _) _⟩
end Go.Proofs.YtcidjhnogldgmaaGreatDoor

namespace Go.Proofs.YtcidjhnogldgmaaGreatDoor
open Go.RowKit
set_option linter.unusedSimpArgs false
set_option linter.unusedVariables false
theorem Rows2.congr {base : Nat} {w : World} {v : Value} {m : Nat} {L L' : Nat → List VN} {rs : Nat → Value} {KV IV : Nat → Nat → Value} {lo : Nat → Nat} (h : Rows2 base w v m L rs KV IV lo) (e : ∀ i, i < m → L' i = L i) : Rows2 base w v m L' rs KV IV lo :=
  ⟨h.row, fun i hi => by rw [e i hi]; exact h.nest i hi, h.low, h.mono, h.top, fun i hi x hx => by rw [e i hi] at hx; exact h.inn i hi x hx⟩
theorem Rows2.kept {base : Nat} {w w' : World} {v : Value} {m : Nat} {L : Nat → List VN} {rs : Nat → Value} {KV IV : Nat → Nat → Value} {lo : Nat → Nat} {x : Option Nat} (h : Rows2 base w v m L rs KV IV lo) (hg : w.grownBy w' x) (hr : v.ownBlock = none ∨ v.ownBlock ≠ x) (hn : ∀ i, i < m → ∀ y, InNest (rs i) (L i).length (KV i) (IV i) y → x ≠ some y) : Rows2 base w' v m L rs KV IV lo := by
  have go : ∀ {u : Value}, (∀ y, u.ownBlock = some y → x ≠ some y) → u.ownBlock = none ∨ u.ownBlock ≠ x := by
    intro u hu
    cases e : u.ownBlock with
    | none => exact Or.inl rfl
    | some y => exact Or.inr (fun e2 => hu y e e2.symm)
  refine ⟨h.row.kept hg hr, fun i hi => (h.nest i hi).kept hg (go fun y hy => hn i hi y (Or.inl hy)) (fun j hj => go fun y hy => hn i hi y (Or.inr ⟨j, hj, Or.inl hy⟩)) (fun j hj => go fun y hy => hn i hi y (Or.inr ⟨j, hj, Or.inr hy⟩)), h.low, h.mono, Nat.le_trans h.top hg.size, h.inn⟩
theorem sortIn_keys {ks : List ByteArray} : ∀ {i : Nat} {ns : List ByteArray} {ps : List Nat}, sortIn ks i = some (ns, ps) → ∀ x ∈ ns, ∃ j, j < i ∧ x = keyAt ks j := by
  intro i
  induction i with
  | zero => intro ns ps h; simp [sortIn] at h; obtain ⟨rfl, rfl⟩ := h; simp
  | succ i ih =>
    intro ns ps h
    rw [sortIn] at h
    split at h
    · cases h
    · rename_i ns0 ps0 h0
      split at h
      · cases h
      · injection h with h
        injection h with e1 e2
        subst e1 e2
        intro x hx
        simp only [List.mem_append, List.mem_singleton] at hx
        rcases hx with (hx | hx) | hx
        · obtain ⟨j, h1, h2⟩ := ih h0 x (List.mem_of_mem_take hx); exact ⟨j, by omega, h2⟩
        · exact ⟨i, by omega, hx⟩
        · obtain ⟨j, h1, h2⟩ := ih h0 x (List.mem_of_mem_drop hx); exact ⟨j, by omega, h2⟩
theorem keyAt_mem {l : List ByteArray} {i : Nat} (h : i < l.length) : keyAt l i ∈ l := by
  unfold keyAt
  rw [List.getD_eq_getElem?_getD, List.getElem?_eq_getElem h]
  exact List.getElem_mem h
theorem keyAt_snoc {l : List ByteArray} {s : ByteArray} {i : Nat} (h : i < l.length + 1) : keyAt (l ++ [s]) i = if i < l.length then keyAt l i else s := by
  unfold keyAt
  split
  · rename_i e; rw [List.getD_eq_getElem?_getD, List.getD_eq_getElem?_getD, List.getElem?_append_left e]
  · rename_i e
    obtain rfl : i = l.length := by omega
    simp
theorem Rows2.places {base B : Nat} {w w' : World} {v lv : Value} {m : Nat} {L : Nat → List VN} {rs : Nat → Value} {KV IV : Nat → Nat → Value} {lo : Nat → Nat} {ps : List Nat} (h : Rows2 base w v m L rs KV IV lo) (hb : Below w.heap.size w w') (hp : ∀ x ∈ ps, x < m) (hl : ps.length = m) (hm : m ≤ 80) (hf : ∀ i, i < m → Few (L i) ∧ ∀ j, j < (L i).length → Fits (nodeAt (L i) j))
    (hown : w'.ownsRow B 24 1 lv ps.length (ps.map rs)) : RowsAt w'.heap.size w' lv m (fun i => L (ps.getD i 0)) := by
  rw [hl] at hown
  obtain ⟨a, c, e⟩ := own_slice hown
  subst e
  refine ⟨by omega, a, c, rfl, fun hpos => ?_⟩
  obtain ⟨g, cap, e, _, hlt⟩ := hown.form (by omega)
  cases e
  refine ⟨g, rfl, hlt, fun i hi => ?_⟩
  have hi' : i < ps.length := by omega
  have hg : ps.getD i 0 = ps[i] := by rw [List.getD_eq_getElem?_getD, List.getElem?_eq_getElem hi']; rfl
  have hpm : ps.getD i 0 < m := by rw [hg]; exact hp _ (List.getElem_mem hi')
  refine ⟨rs (ps.getD i 0), ?_, ?_⟩
  · have hc := hown.cellAt i (show i < m * 1 by omega)
    rw [hc, List.getElem?_map, List.getElem?_eq_getElem hi', hg]; rfl
  · exact ((h.below hb).nest _ hpm).nodes (by have := (hf _ hpm).1.1; omega) (hf _ hpm).2
end Go.Proofs.YtcidjhnogldgmaaGreatDoor

namespace Go.Proofs.YtcidjhnogldgmaaGreatDoor
open Go.RowKit
set_option linter.unusedSimpArgs false
set_option linter.unusedVariables false
def capD : Nat → Nat
  | 0 => 1
  | d + 1 => 3 * capD d + 1
theorem capD_pos (d : Nat) : 1 ≤ capD d := by cases d <;> simp [capD]
theorem RdAt.belowB {base : Nat} {w w' : World} {rb n p : Nat} (h : RdAt w rb n p) (hb : Below base w w') (hl : rb < base) : RdAt w' rb n p := by
  refine ⟨by have := hb.size; have := h.lt; omega, ?_, (below_cell hb hl).trans h.place, h.le, h.few, (frozen_same (hb.block rb hl)).trans h.free⟩
  obtain ⟨a, cap, h1, h2⟩ := h.src
  refine ⟨a, cap, (below_cell hb hl).trans h1, fun hp => ?_⟩
  obtain ⟨b, o, e, hlt, hx⟩ := h2 hp
  exact ⟨b, o, e, hlt, fun i hi => by obtain ⟨x, h3, h4⟩ := hx i hi; exact ⟨x, h3, (below_cell hb (by omega)).trans h4⟩⟩
theorem Drawn.far {rb n base : Nat} {a b c : World} (h : Drawn rb n a b) (k : Below base b c) (hb : rb < base) (ha : a.heap.size ≤ base) : Drawn rb n a c := by
  obtain ⟨p, hp⟩ := h.rd
  exact ⟨⟨p, hp.belowB k hb⟩, ⟨Nat.le_trans h.only.1 k.size, fun c hc hn => (k.block c (by omega)).trans (h.only.2 c hc hn)⟩, h.below.trans (k.mono (by omega))⟩
def ValAll (rb n d : Nat) : Prop := ∀ w, (∃ p, RdAt w rb n p) → Calls Tryz.prog 22 #[.pointer (some ⟨rb, 0, none⟩), .int .i64 d] w fun e w' => (∃ r vs KV IV, e = .returned r ∧ Fine (capD d) vs ∧ Nest w.heap.size w' r vs KV IV) ∧ Drawn rb n w w'
set_option maxRecDepth 100000 in
set_option maxHeartbeats 6400000 in
theorem rdValue_any (rb n : Nat) : ∀ d, d ≤ 3 → ValAll rb n d := by
  intro d
  obtain ⟨i1, hi1, hzz1, hs1, hy1⟩ := info_parts infoStr
  obtain ⟨i2, hi2, hzz2, hs2, hy2⟩ := info_parts infoRowV
  induction d with
  | zero =>
    intro _ w h
    have H := hideIt h
    clear h
    go_enter Tryz.func22, Tryz.ntmps22
    go_wp2_with fail
    refine (rdBelow_any rb n 9 w H.out (by omega) (by omega)).mono ?_
    rintro e w0 ⟨⟨x9, hx9, rfl⟩, hd0⟩
    have HD0 := hideIt hd0
    have zd0 := hd0.only.1
    clear hd0
    go_wp2_with fail
    refine (rdBelow_any rb n 5 w0 HD0.out.rd (by omega) (by omega)).mono ?_
    rintro e w1 ⟨⟨x, hx, rfl⟩, hd⟩
    have HD := hideIt (HD0.out.trans hd)
    have zd : w.heap.size ≤ w1.heap.size := Nat.le_trans zd0 hd.only.1
    clear hd
    by_cases x0 : x = 0
    · subst x0
      go_wp2_with fail
      refine (l1Null_any w1).mono ?_
      rintro e w2 ⟨r, vs, KV, IV, rfl, hf, hn, hb⟩
      have HF := hideIt hf
      have HN := hideIt (hn.low zd)
      have HD2 := hideIt (HD.out.next hb)
      obtain ⟨a, c, e⟩ := own_slice hn.row
      obtain ⟨M, hM⟩ : ∃ M, vs.length = M := ⟨_, rfl⟩
      rw [hM] at e
      subst e
      clear hf hn hb hM
      go_wp2_with fail
      go_ret
      exact ⟨⟨_, vs, KV, IV, rfl, HF.out.wide (capD_pos _), HN.out⟩, HD2.out⟩
    by_cases x1 : x = 1
    · subst x1
      go_wp2_with fail
      refine (rdOnce_any rb n 2 w1 HD.out.rd (by omega) (by omega)).mono ?_
      rintro e w2 ⟨⟨b, rfl⟩, hd⟩
      have HD1 := hideIt (HD.out.trans hd)
      have z2 := hd.only.1
      clear hd
      go_wp2_with fail
      refine (l1Bool_any b w2).mono ?_
      rintro e w3 ⟨r, vs, KV, IV, rfl, hf, hn, hb⟩
      have HF := hideIt hf
      have HN := hideIt (hn.low (Nat.le_trans zd z2))
      have HD2 := hideIt (HD1.out.next hb)
      obtain ⟨a, c, e⟩ := own_slice hn.row
      obtain ⟨M, hM⟩ : ∃ M, vs.length = M := ⟨_, rfl⟩
      rw [hM] at e
      subst e
      clear hf hn hb hM
      go_wp2_with fail
      go_ret
      exact ⟨⟨_, vs, KV, IV, rfl, HF.out.wide (capD_pos _), HN.out⟩, HD2.out⟩
    have e0 : ((x : Int) == 0) = false := by simp; omega
    have e1 : ((x : Int) == 1) = false := by simp; omega
    by_cases x2 : x = 2 ∨ x = 3
    · rcases x2 with rfl | rfl
      all_goals
        go_wp2_with fail
        refine (rdNumber_any rb n w1 HD.out.rd).mono ?_
        rintro e w2 ⟨⟨b, hb1, hb2, rfl⟩, hd⟩
        have HD1 := hideIt (HD.out.trans hd)
        have z2 := hd.only.1
        clear hd
        go_wp2_with fail
        refine (l1Number_any b w2 hb1 hb2).mono ?_
        rintro e w3 ⟨r, vs, KV, IV, rfl, hf, hn, hb⟩
        have HF := hideIt hf
        have HN := hideIt (hn.low (Nat.le_trans zd z2))
        have HD2 := hideIt (HD1.out.next hb)
        obtain ⟨a, c, e⟩ := own_slice hn.row
        obtain ⟨M, hM⟩ : ∃ M, vs.length = M := ⟨_, rfl⟩
        rw [hM] at e
        subst e
        clear hf hn hb hM
        go_wp2_with fail
        go_ret
        exact ⟨⟨_, vs, KV, IV, rfl, HF.out.wide (capD_pos _), HN.out⟩, HD2.out⟩
    have e2 : ((x : Int) == 2) = false := by simp; omega
    have e3 : ((x : Int) == 3) = false := by simp; omega
    by_cases x4 : x = 4
    · subst x4
      go_wp2_with fail
      refine (rdText_any rb n w1 HD.out.rd).mono ?_
      rintro e w2 ⟨⟨b, hb1, rfl⟩, hd⟩
      have HD1 := hideIt (HD.out.trans hd)
      have z2 := hd.only.1
      clear hd
      go_wp2_with fail
      refine (l1Word_any b w2 hb1).mono ?_
      rintro e w3 ⟨r, vs, KV, IV, rfl, hf, hn, hb⟩
      have HF := hideIt hf
      have HN := hideIt (hn.low (Nat.le_trans zd z2))
      have HD2 := hideIt (HD1.out.next hb)
      obtain ⟨a, c, e⟩ := own_slice hn.row
      obtain ⟨M, hM⟩ : ∃ M, vs.length = M := ⟨_, rfl⟩
      rw [hM] at e
      subst e
      clear hf hn hb hM
      go_wp2_with fail
      go_ret
      exact ⟨⟨_, vs, KV, IV, rfl, HF.out.wide (capD_pos _), HN.out⟩, HD2.out⟩
    omega
  | succ d ih0 =>
    intro hd3 w h
    have ih := ih0 (by omega)
    have hcap : capD d ≤ 80 := by
      match d, hd3 with
      | 0, _ => decide
      | 1, _ => decide
      | 2, _ => decide
    have H := hideIt h
    clear h
    have hdn : (((d + 1 : Nat) : Int) == 0) = false := by simp; omega
    have hds : ((d + 1 : Nat) : Int) - 1 = (d : Int) := by omega
    have hdz : ¬ ((d : Int) + 1 = 0) := by omega
    go_enter Tryz.func22, Tryz.ntmps22
    go_wp2_with fail
    refine (rdBelow_any rb n 9 w H.out (by omega) (by omega)).mono ?_
    rintro e w1 ⟨⟨x, hx, rfl⟩, hd⟩
    have HD := hideIt hd
    have zd := hd.only.1
    have hrb1 : rb < w1.heap.size := by obtain ⟨p, hp⟩ := hd.rd; exact hp.lt
    clear hd
    by_cases x0 : x = 0
    · subst x0
      go_wp2_with fail
      refine (l1Null_any w1).mono ?_
      rintro e w2 ⟨r, vs, KV, IV, rfl, hf, hn, hb⟩
      have HF := hideIt hf
      have HN := hideIt (hn.low zd)
      have HD2 := hideIt (HD.out.next hb)
      obtain ⟨a, c, e⟩ := own_slice hn.row
      obtain ⟨M, hM⟩ : ∃ M, vs.length = M := ⟨_, rfl⟩
      rw [hM] at e
      subst e
      clear hf hn hb hM
      go_wp2_with fail
      go_ret
      exact ⟨⟨_, vs, KV, IV, rfl, HF.out.wide (capD_pos _), HN.out⟩, HD2.out⟩
    by_cases x1 : x = 1
    · subst x1
      go_wp2_with fail
      refine (rdOnce_any rb n 2 w1 HD.out.rd (by omega) (by omega)).mono ?_
      rintro e w2 ⟨⟨b, rfl⟩, hd⟩
      have HD1 := hideIt (HD.out.trans hd)
      have z2 := hd.only.1
      clear hd
      go_wp2_with fail
      refine (l1Bool_any b w2).mono ?_
      rintro e w3 ⟨r, vs, KV, IV, rfl, hf, hn, hb⟩
      have HF := hideIt hf
      have HN := hideIt (hn.low (Nat.le_trans zd z2))
      have HD2 := hideIt (HD1.out.next hb)
      obtain ⟨a, c, e⟩ := own_slice hn.row
      obtain ⟨M, hM⟩ : ∃ M, vs.length = M := ⟨_, rfl⟩
      rw [hM] at e
      subst e
      clear hf hn hb hM
      go_wp2_with fail
      go_ret
      exact ⟨⟨_, vs, KV, IV, rfl, HF.out.wide (capD_pos _), HN.out⟩, HD2.out⟩
    have e0 : ((x : Int) == 0) = false := by simp; omega
    have e1 : ((x : Int) == 1) = false := by simp; omega
    by_cases x2 : x = 2 ∨ x = 3
    · rcases x2 with rfl | rfl
      all_goals
        go_wp2_with fail
        refine (rdNumber_any rb n w1 HD.out.rd).mono ?_
        rintro e w2 ⟨⟨b, hb1, hb2, rfl⟩, hd⟩
        have HD1 := hideIt (HD.out.trans hd)
        have z2 := hd.only.1
        clear hd
        go_wp2_with fail
        refine (l1Number_any b w2 hb1 hb2).mono ?_
        rintro e w3 ⟨r, vs, KV, IV, rfl, hf, hn, hb⟩
        have HF := hideIt hf
        have HN := hideIt (hn.low (Nat.le_trans zd z2))
        have HD2 := hideIt (HD1.out.next hb)
        obtain ⟨a, c, e⟩ := own_slice hn.row
        obtain ⟨M, hM⟩ : ∃ M, vs.length = M := ⟨_, rfl⟩
        rw [hM] at e
        subst e
        clear hf hn hb hM
        go_wp2_with fail
        go_ret
        exact ⟨⟨_, vs, KV, IV, rfl, HF.out.wide (capD_pos _), HN.out⟩, HD2.out⟩
    have e2 : ((x : Int) == 2) = false := by simp; omega
    have e3 : ((x : Int) == 3) = false := by simp; omega
    by_cases x4 : x = 4
    · subst x4
      go_wp2_with fail
      refine (rdText_any rb n w1 HD.out.rd).mono ?_
      rintro e w2 ⟨⟨b, hb1, rfl⟩, hd⟩
      have HD1 := hideIt (HD.out.trans hd)
      have z2 := hd.only.1
      clear hd
      go_wp2_with fail
      refine (l1Word_any b w2 hb1).mono ?_
      rintro e w3 ⟨r, vs, KV, IV, rfl, hf, hn, hb⟩
      have HF := hideIt hf
      have HN := hideIt (hn.low (Nat.le_trans zd z2))
      have HD2 := hideIt (HD1.out.next hb)
      obtain ⟨a, c, e⟩ := own_slice hn.row
      obtain ⟨M, hM⟩ : ∃ M, vs.length = M := ⟨_, rfl⟩
      rw [hM] at e
      subst e
      clear hf hn hb hM
      go_wp2_with fail
      go_ret
      exact ⟨⟨_, vs, KV, IV, rfl, HF.out.wide (capD_pos _), HN.out⟩, HD2.out⟩
    have e4 : ((x : Int) == 4) = false := by simp; omega
    by_cases x5 : x = 5 ∨ x = 6
    · rcases x5 with rfl | rfl
      all_goals
        clear x0 x1 x2 x4
        go_wp2_with fail
        have hba : Below w1.heap.size w1 (w1.alloc (.cells #[] 24)) := (Below.refl _ _).alloc (Nat.le_refl _) _
        have HDA := hideIt (HD.out.next hba)
        have HRA : Hid ((w1.alloc (.cells #[] 24)).ownsRow w1.heap.size 24 1 (.slice (some ⟨w1.heap.size, 0, none⟩) 0 0) 0 []) := by
          have := World.ownsRow_lit (base := w1.heap.size) (e := 24) (size := 1) w1 #[] 0 (Nat.le_refl _) (by simp [maxLen]) rfl
          simpa [Hid] using this
        have hsA : w1.heap.size ≤ (w1.alloc (.cells #[] 24)).heap.size := by simp
        generalize w1.alloc (.cells #[] 24) = WA at HDA HRA hsA ⊢
        clear hba
        refine (rdBelow_any rb n 4 WA HDA.out.rd (by omega) (by omega)).mono ?_
        rintro e w2 ⟨⟨y, hy, rfl⟩, hd⟩
        have HD2 := hideIt (HDA.out.trans hd)
        have z2 := hd.only.1
        have HR0 := hideIt (Rows2.start (own_from HRA.out (hd.from hrb1)) (Nat.le_trans hsA z2) (fun _ => []))
        clear hd HRA
        go_wp2_with fail
        go_loopw [6, 7] (fun o i wr => ∃ (k j : Nat) (L : Nat → List VN) (rs : Nat → Value) (KV IV : Nat → Nat → Value) (lo : Nat → Nat), k + j ≤ 3 ∧ i = .int .i64 j ∧ Rows2 w1.heap.size wr o k L rs KV IV lo ∧ (∀ t, t < k → Fine (capD d) (L t)) ∧ Drawn rb n w wr ∧ w1.heap.size ≤ wr.heap.size) (fun _ i _ => (intOf i).toNat)
        case atStart => exact ⟨0, y, _, _, _, _, _, by omega, rfl, HR0.out, fun t ht => by omega, HD2.out, Nat.le_trans hsA z2⟩
        case round =>
          obtain ⟨k, j, L, rs, KV, IV, lo, hkj, rfl, hrw, hfi, hdr, zr⟩ := hrel
          have HR := hideIt hrw
          have HFI := hideIt hfi
          have HDR := hideIt hdr
          obtain ⟨ao, co, eo⟩ := own_slice hrw.row
          subst eo
          clear hrw hfi hdr HR0 HD2
          by_cases hj : 0 < j
          · have hj' : (0 : Int) < (j : Int) := by omega
            go_wp2_with fail
            refine (ih wr HDR.out.rd).mono ?_
            rintro e w3 ⟨⟨r, vs, KV3, IV3, rfl, hf3, hn3⟩, hd3⟩
            have HN3 := hideIt hn3
            have HF3 := hideIt hf3
            have HD3 := hideIt (HDR.out.trans hd3)
            have HFR := hideIt (hd3.from hrb1)
            have z3 := hd3.only.1
            have HRO := hideIt (HR.out.from HFR.out).row
            obtain ⟨ar, cr, er⟩ := own_slice hn3.row
            obtain ⟨Lk, hLk⟩ : ∃ Lk, vs.length = Lk := ⟨_, rfl⟩
            rw [hLk] at er
            subst er
            have HRC := hideIt (HR.out.congr (L' := updF L k vs) (fun i hi => updF_other _ _ (by omega)))
            clear hn3 hf3 hd3 hLk
            go_wp2_with (at_builtin; refine wpList_append_own_at _ rfl _ _ 33 rfl w1.heap.size 24 i2 (.slice none 0 0) 1 24 Tryz.underlying33 hi2 hzz2 hs2 hy2 rfl (by decide) _ _ _ rfl (HRO.out.alloc _) ⟨w3.heap.size, 0, none⟩ 1 1 [.slice ar Lk cr] rfl rfl ?c1 ?c2 ?c3 ?c4 ?c5 ?_)
            case c1 => exact cell_one_new _ _ _
            case c2 => intro u hu; simp at hu; subst hu; rfl
            case c3 => unfold maxLen; omega
            case c4 => omega
            case c5 => simp; omega
            intro v' w5 hown hgrow _ _
            have HR5 := hideIt (HRC.out.snocF HFR.out (by rw [updF_same]; exact HN3.out) hown hgrow)
            have hb5 : Below w1.heap.size w3 w5 := ((Below.refl w1.heap.size w3).alloc (by omega) _).grown hgrow (by simp; omega) (fun y hy => (HRO.out.lt y hy).1)
            have HD5 := hideIt (HD3.out.far hb5 hrb1 zd)
            have z5 := hb5.size
            have HF5 : Hid (∀ t, t < k + 1 → Fine (capD d) (updF L k vs t)) := fun t ht => by
              by_cases e : t = k
              · subst e; rw [updF_same]; exact HF3.out
              · rw [updF_other _ _ e]; exact HFI.out t (by omega)
            clear hown hgrow hb5
            go_wp2_with fail
            go_roundw
            case rel => exact ⟨k + 1, j - 1, _, _, _, _, _, by omega, by go_num, HR5.out, HF5.out, HD5.out, by omega⟩
            case measure => simp [intOf]; omega
          · obtain rfl : j = 0 := by omega
            have hfm := fine_make (L := L) (m := k) HFI.out (by omega) (kind := 5) (by omega) (by omega) (keys := []) (by simp) (fun i hi => absurd hi (by simp))
            have hcat := (fine_cat (L := L) (m := k) HFI.out k (Nat.le_refl _)).1
            have hkc : k * capD d ≤ 3 * capD d := Nat.mul_le_mul_right _ (by omega)
            have HFM := hideIt hfm
            go_wp2_with fail
            refine (l1Make_any wr.heap.size 5 (.slice none 0 0) _ [] k L wr ⟨by simp, fun i hi => absurd hi (by simp), none, 0, rfl, fun h => absurd h (by simp)⟩ (HR.out.rows (by omega) (fun i hi => (HFI.out i hi).few hcap)) (Nat.le_refl _) (by omega) (by simp) (by omega) (fun i hi => (HFI.out i hi).near hcap)).mono ?_
            rintro e w6 ⟨r, KV6, IV6, rfl, hn6, hb6⟩
            have HN6 := hideIt (hn6.low (Nat.le_trans zd zr))
            have HD6 := hideIt (HDR.out.next hb6)
            obtain ⟨ar, cr, er⟩ := own_slice hn6.row
            obtain ⟨M, hM⟩ : ∃ M, (makeNs 5 [] L k).length = M := ⟨_, rfl⟩
            rw [hM] at er
            subst er
            clear hn6 hb6 hM hfm hcat hkc
            go_wp2_with fail
            go_ret
            exact ⟨⟨_, _, KV6, IV6, rfl, HFM.out, HN6.out⟩, HD6.out⟩
    have e5 : ((x : Int) == 5) = false := by simp; omega
    have e6 : ((x : Int) == 6) = false := by simp; omega
    clear x0 x1 x2 x4 x5
    go_wp2_with fail
    have hba : Below w1.heap.size w1 ((w1.alloc (.cells #[] 9)).alloc (.cells #[] 24)) := ((Below.refl _ _).alloc (Nat.le_refl _) _).alloc (by simp) _
    have HDA := hideIt (HD.out.next hba)
    have HKA : Hid (((w1.alloc (.cells #[] 9)).alloc (.cells #[] 24)).ownsRow w1.heap.size 9 1 (.slice (some ⟨w1.heap.size, 0, none⟩) 0 0) 0 (([] : List ByteArray).map .string)) := (World.ownsRow_lit (base := w1.heap.size) w1 #[] 0 (Nat.le_refl _) (by simp [maxLen]) rfl).alloc _
    have HRA : Hid (((w1.alloc (.cells #[] 9)).alloc (.cells #[] 24)).ownsRow w1.heap.size 24 1 (.slice (some ⟨w1.heap.size + 1, 0, none⟩) 0 0) 0 []) := by
      have := World.ownsRow_lit (base := w1.heap.size) (e := 24) (size := 1) (w1.alloc (.cells #[] 9)) #[] 0 (by simp) (by simp [maxLen]) rfl
      simpa [Hid] using this
    have hsA : w1.heap.size ≤ ((w1.alloc (.cells #[] 9)).alloc (.cells #[] 24)).heap.size := by simp; omega
    generalize (w1.alloc (.cells #[] 9)).alloc (.cells #[] 24) = WA at HDA HKA HRA hsA ⊢
    clear hba
    refine (rdBelow_any rb n 4 WA HDA.out.rd (by omega) (by omega)).mono ?_
    rintro e w2 ⟨⟨y, hy, rfl⟩, hd⟩
    have HD2 := hideIt (HDA.out.trans hd)
    have z2 := hd.only.1
    have HR0 := hideIt (Rows2.start (own_from HRA.out (hd.from hrb1)) (Nat.le_trans hsA z2) (fun _ => []))
    have HK0 := hideIt (own_from HKA.out (hd.from hrb1))
    clear hd HRA HKA
    go_wp2_with fail
    go_loopw [8, 9, 10] (fun kv o i wr => ∃ (k j : Nat) (ks : List ByteArray) (L : Nat → List VN) (rs : Nat → Value) (KV IV : Nat → Nat → Value) (lo : Nat → Nat), k + j ≤ 3 ∧ i = .int .i64 j ∧ Rows2 w1.heap.size wr o k L rs KV IV lo ∧ (∀ t, t < k → Fine (capD d) (L t)) ∧ ks.length = k ∧ (∀ t, t < k → (keyAt ks t).size ≤ 60) ∧ wr.ownsRow w1.heap.size 9 1 kv k (ks.map .string) ∧ (∀ i, i < k → ∀ x, InNest (rs i) (L i).length (KV i) (IV i) x → kv.ownBlock ≠ some x) ∧ Drawn rb n w wr ∧ w1.heap.size ≤ wr.heap.size) (fun _ _ i _ => (intOf i).toNat)
    case atStart => exact ⟨0, y, [], _, _, _, _, _, by omega, rfl, HR0.out, fun t ht => by omega, rfl, fun t ht => by omega, HK0.out, fun t ht => by omega, HD2.out, Nat.le_trans hsA z2⟩
    case round =>
      obtain ⟨k, j, ks, L, rs, KV, IV, lo, hkj, rfl, hrw, hfi, hkl, hksz, hkr, hin, hdr, zr⟩ := hrel
      have HR := hideIt hrw
      have HFI := hideIt hfi
      have HDR := hideIt hdr
      have HKL := hideIt hkl
      have HKS := hideIt hksz
      have HK := hideIt hkr
      have HIN := hideIt hin
      have HTOP : Hid (∀ i, i < k → ∀ x, InNest (rs i) (L i).length (KV i) (IV i) x → x < wr.heap.size) := fun i hi x hx => by
        have h1 := hrw.inn i hi x hx
        have h2 := hrw.mono (i + 1) k (by omega) (Nat.le_refl _)
        have h3 := hrw.top
        omega
      obtain ⟨ao, co, eo⟩ := own_slice hrw.row
      subst eo
      obtain ⟨ak, ck, ek⟩ := own_slice hkr
      subst ek
      clear hrw hfi hdr hkl hksz hkr hin HR0 HK0 HD2
      by_cases hj : 0 < j
      · have hj' : (0 : Int) < (j : Int) := by omega
        go_wp2_with fail
        refine (rdText_any rb n wr HDR.out.rd).mono ?_
        rintro e w3 ⟨⟨s, hs, rfl⟩, hd3⟩
        have HD3 := hideIt (HDR.out.trans hd3)
        have z3 := hd3.only.1
        have HK3 := hideIt (own_from HK.out (hd3.from hrb1))
        have HR3 := hideIt (HR.out.from (hd3.from hrb1))
        clear hd3
        go_wp2_with (at_builtin; refine wpList_append_own_at _ rfl _ _ 29 rfl w1.heap.size 9 i1 (.string ByteArray.empty) 1 16 Tryz.underlying29 hi1 hzz1 hs1 hy1 rfl (by decide) _ _ _ rfl (HK3.out.alloc _) ⟨w3.heap.size, 0, none⟩ 1 1 [.string s] rfl rfl ?c1 ?c2 ?c3 ?c4 ?c5 ?_)
        case c1 => exact cell_one_new _ _ _
        case c2 => intro u hu; simp at hu; subst hu; rfl
        case c3 => unfold maxLen; omega
        case c4 => omega
        case c5 => simp; omega
        intro kv' w4 hownk hgk _ hatk
        have hg1 : w3.grownBy w4 (Value.slice ak k ck).ownBlock := (World.grownBy_alloc w3 _ _).trans hgk
        have HR4 := hideIt (HR3.out.kept hg1 (own_apart HR3.out.row HK3.out (by decide)) HIN.out)
        have HK4 : Hid (w4.ownsRow w1.heap.size 9 1 kv' (k + 1) ((ks ++ [s]).map .string)) := by rw [Hid, List.map_append]; exact hownk
        have hb4 : Below w1.heap.size w3 w4 := ((Below.refl w1.heap.size w3).alloc (by omega) _).grown hgk (by simp; omega) (fun y hy => (HK3.out.lt y hy).1)
        have HD4 := hideIt (HD3.out.far hb4 hrb1 zd)
        have z4 := hb4.size
        have HIN4 : Hid (∀ i, i < k → ∀ x, InNest (rs i) (L i).length (KV i) (IV i) x → kv'.ownBlock ≠ some x) := fun i hi x hx e2 => by
          rcases hatk with e | e
          · rw [e] at e2; exact HIN.out i hi x hx e2
          · rw [e] at e2
            have h1 := HTOP.out i hi x hx
            simp at e2
            omega
        obtain ⟨ak4, ck4, ek4⟩ := own_slice hownk
        subst ek4
        clear hownk hgk hatk hg1 hb4 HR3 HK3
        go_wp2_with fail
        refine (ih w4 HD4.out.rd).mono ?_
        rintro e w5 ⟨⟨r, vs, KV5, IV5, rfl, hf5, hn5⟩, hd5⟩
        have HN5 := hideIt hn5
        have HF5 := hideIt hf5
        have HD5 := hideIt (HD4.out.trans hd5)
        have HFR := hideIt (hd5.from hrb1)
        have z5 := hd5.only.1
        have HRO := hideIt (HR4.out.from HFR.out).row
        have HK5 := hideIt (own_from HK4.out HFR.out)
        obtain ⟨ar, cr, er⟩ := own_slice hn5.row
        obtain ⟨Lk, hLk⟩ : ∃ Lk, vs.length = Lk := ⟨_, rfl⟩
        have HLK := hideIt hLk
        rw [hLk] at er
        subst er
        have HRC := hideIt (HR4.out.congr (L' := updF L k vs) (fun i hi => updF_other _ _ (by omega)))
        clear hn5 hf5 hd5 hLk
        go_wp2_with (at_builtin; refine wpList_append_own_at _ rfl _ _ 33 rfl w1.heap.size 24 i2 (.slice none 0 0) 1 24 Tryz.underlying33 hi2 hzz2 hs2 hy2 rfl (by decide) _ _ _ rfl (HRO.out.alloc _) ⟨w5.heap.size, 0, none⟩ 1 1 [.slice ar Lk cr] rfl rfl ?c1 ?c2 ?c3 ?c4 ?c5 ?_)
        case c1 => exact cell_one_new _ _ _
        case c2 => intro u hu; simp at hu; subst hu; rfl
        case c3 => unfold maxLen; omega
        case c4 => omega
        case c5 => simp; omega
        intro v' w7 hown hgrow _ _
        have HR7 := hideIt (HRC.out.snocF HFR.out (by rw [updF_same]; exact HN5.out) hown hgrow)
        have hg7 : w5.grownBy w7 (Value.slice ao k co).ownBlock := (World.grownBy_alloc w5 _ _).trans hgrow
        have HK7 := hideIt (HK5.out.kept hg7 (own_apart HK5.out HRO.out (by decide)))
        have hb7 : Below w1.heap.size w5 w7 := ((Below.refl w1.heap.size w5).alloc (by omega) _).grown hgrow (by simp; omega) (fun y hy => (HRO.out.lt y hy).1)
        have HD7 := hideIt (HD5.out.far hb7 hrb1 zd)
        have z7 := hb7.size
        have HF7 : Hid (∀ t, t < k + 1 → Fine (capD d) (updF L k vs t)) := fun t ht => by
          by_cases e : t = k
          · subst e; rw [updF_same]; exact HF5.out
          · rw [updF_other _ _ e]; exact HFI.out t (by omega)
        have HKS7 : Hid (∀ t, t < k + 1 → (keyAt (ks ++ [s]) t).size ≤ 60) := fun t ht => by
          rw [keyAt_snoc (by rw [HKL.out]; exact ht)]
          split
          · rename_i e; rw [HKL.out] at e; exact HKS.out t e
          · exact hs
        have HIN7 : Hid (∀ i, i < k + 1 → ∀ x, InNest (updF rs k (Value.slice ar Lk cr) i) (updF L k vs i).length (updF KV k KV5 i) (updF IV k IV5 i) x → (Value.slice ak4 (k + 1) ck4).ownBlock ≠ some x) := fun i hi x hx e2 => by
          by_cases e : i = k
          · subst e
            simp only [updF_same] at hx
            have h1 := (HN5.out.inn hx).1
            have h2 := (HK4.out.lt x e2).2
            omega
          · simp only [updF_other _ _ e] at hx
            exact HIN4.out i (by omega) x hx e2
        clear hown hgrow hb7 hg7
        go_wp2_with fail
        go_roundw
        case rel => exact ⟨k + 1, j - 1, ks ++ [s], _, _, _, _, _, by omega, by go_num, HR7.out, HF7.out, by rw [List.length_append, HKL.out]; rfl, HKS7.out, HK7.out, HIN7.out, HD7.out, by omega⟩
        case measure => simp [intOf]; omega
      · obtain rfl : j = 0 := by omega
        have HST : Hid (StrsAt wr.heap.size wr (.slice ak k ck) ks) := own_strs (by rw [HKL.out]; exact HK.out) (by rw [HKL.out]; omega) (fun i hi => by have := HKS.out i (by rw [← HKL.out]; exact hi); omega)
        have HCL : Hid (CellsAt wr.heap.size wr (.slice ao k co) ks.length rs) := by
          rw [Hid, HKL.out]
          refine ⟨ao, co, rfl, fun i hi => ?_, fun hp => ?_⟩
          · obtain ⟨a, c, e⟩ := own_slice (HR.out.nest i hi).row; exact ⟨a, _, c, e⟩
          · obtain ⟨g, cap, e, _, hlt⟩ := HR.out.row.form hp
            cases e
            exact ⟨g, 0, rfl, hlt, fun i hi => by rw [Nat.zero_add, HR.out.row.cellAt i (by omega)]; simp [hi]⟩
        go_wp2_with fail
        refine (l1Sorted_any wr.heap.size _ _ ks rs wr HST.out HCL.out (Nat.le_refl _) (by rw [HKL.out]; omega)).mono ?_
        rintro e w6 ⟨hso, hb6⟩
        have HB6 := hideIt hb6
        have z6 := hb6.size
        have HD6 := hideIt (HDR.out.next hb6)
        clear hb6
        cases hs : sortIn ks ks.length with
        | none =>
          rw [hs] at hso
          obtain rfl : e = _ := hso
          go_wp2_with fail
          refine (l1Word_any _ w6 (by decide)).mono ?_
          rintro e w8 ⟨r, vs, KV8, IV8, rfl, hf, hn, hb⟩
          have HF := hideIt hf
          have HN := hideIt (hn.low (Nat.le_trans zd (Nat.le_trans zr z6)))
          have HD8 := hideIt (HD6.out.next hb)
          obtain ⟨a, c, e⟩ := own_slice hn.row
          obtain ⟨M, hM⟩ : ∃ M, vs.length = M := ⟨_, rfl⟩
          rw [hM] at e
          subst e
          clear hf hn hb hM
          go_wp2_with fail
          go_ret
          exact ⟨⟨_, vs, KV8, IV8, rfl, HF.out.wide (capD_pos _), HN.out⟩, HD8.out⟩
        | some q =>
          obtain ⟨ns, ps⟩ := q
          rw [hs] at hso
          obtain ⟨nv, lv, rfl, hnv, hlv⟩ := hso
          obtain ⟨hl1, hl2⟩ := sortIn_len hs
          rw [HKL.out] at hl1 hl2
          have HNS : Hid (∀ i, i < ns.length → (keyAt ns i).size ≤ 60) := fun i hi => by
            obtain ⟨j, h1, h2⟩ := sortIn_keys hs _ (keyAt_mem hi)
            rw [h2]; exact HKS.out j (by rw [← HKL.out]; exact h1)
          have HSN : Hid (StrsAt w6.heap.size w6 nv ns) := own_strs hnv (by omega) (fun i hi => by have := HNS.out i hi; omega)
          have HPL := hideIt (HR.out.places HB6.out (fun x hx => by have := sortIn_mem hs x hx; rw [HKL.out] at this; exact this) hl2 (by omega) (fun i hi => (HFI.out i hi).few hcap) hlv)
          have HPF : Hid (∀ i, i < k → Fine (capD d) (L (ps.getD i 0))) := fun i hi => HFI.out _ (by
            have hi' : i < ps.length := by omega
            rw [List.getD_eq_getElem?_getD, List.getElem?_eq_getElem hi']
            have := sortIn_mem hs _ (List.getElem_mem hi')
            rw [HKL.out] at this
            exact this)
          have hfm := fine_make (L := fun i => L (ps.getD i 0)) (m := k) HPF.out (by omega) (kind := 6) (by omega) (by omega) (keys := ns) (by omega) HNS.out
          have hcat := (fine_cat (L := fun i => L (ps.getD i 0)) (m := k) HPF.out k (Nat.le_refl _)).1
          have hkc : k * capD d ≤ 3 * capD d := Nat.mul_le_mul_right _ (by omega)
          have HFM := hideIt hfm
          have HL1 := hideIt hl1
          obtain ⟨an, cn, en⟩ := own_slice hnv
          rw [hl1] at en
          subst en
          obtain ⟨al, cl, el⟩ := own_slice hlv
          rw [hl2] at el
          subst el
          clear hnv hlv hl1 hl2 hs hfm
          go_wp2_with fail
          refine (l1Make_any w6.heap.size 6 _ _ ns k (fun i => L (ps.getD i 0)) w6 HSN.out HPL.out (Nat.le_refl _) (by omega) (by rw [HL1.out]; omega) (by omega) (fun i hi => (HPF.out i hi).near hcap)).mono ?_
          rintro e w8 ⟨r, KV8, IV8, rfl, hn8, hb8⟩
          have HN8 := hideIt (hn8.low (Nat.le_trans zd (Nat.le_trans zr z6)))
          have HD8 := hideIt (HD6.out.next hb8)
          obtain ⟨ar, cr, er⟩ := own_slice hn8.row
          obtain ⟨M, hM⟩ : ∃ M, (makeNs 6 ns (fun i => L (ps.getD i 0)) k).length = M := ⟨_, rfl⟩
          rw [hM] at er
          subst er
          clear hn8 hb8 hM hcat hkc
          go_wp2_with fail
          go_ret
          exact ⟨⟨_, _, KV8, IV8, rfl, HFM.out, HN8.out⟩, HD8.out⟩
end Go.Proofs.YtcidjhnogldgmaaGreatDoor

namespace Go.Proofs.YtcidjhnogldgmaaGreatDoor
open Go.RowKit
set_option linter.unusedSimpArgs false
set_option linter.unusedVariables false
theorem nodeAt_set {vs : List VN} {i : Nat} {x : VN} (hi : i < vs.length) (j : Nat) : nodeAt (vs.set i x) j = if j = i then x else nodeAt vs j := by
  unfold nodeAt
  rw [List.getD_eq_getElem?_getD, List.getD_eq_getElem?_getD, List.getElem?_set]
  by_cases e : i = j
  · subst e; simp [hi]
  · have e' : ¬ j = i := fun h => e h.symm
    simp [e, e']
theorem nestCells_put {vs : List VN} {KV IV : Nat → Value} {i f : Nat} {x : VN} {u : Value} (hi : i < vs.length) (hf : f < 3) (h0 : Value.int .i64 x.kind = if f = 0 then u else .int .i64 (nodeAt vs i).kind) (h1 : Value.int .i64 x.n = if f = 1 then u else .int .i64 (nodeAt vs i).n) (h2 : Value.string x.s = if f = 2 then u else .string (nodeAt vs i).s) :
    nestCells (vs.set i x) KV IV = (nestCells vs KV IV).set (i * 5 + f) u := by
  apply List.ext_getElem
  · simp [nestCells]
  · intro j hj1 hj2
    rw [List.getElem_set]
    simp only [nestCells, List.getElem_map, List.getElem_range]
    unfold nestCell
    rw [nodeAt_set hi]
    by_cases e : j / 5 = i
    · rw [if_pos e, e]
      have ej : j = i * 5 + j % 5 := by omega
      have hr : j % 5 < 5 := by omega
      generalize j % 5 = r at ej hr
      subst ej
      match r, hr with
      | 0, _ => simp only [if_true]; rw [h0]; by_cases e2 : f = 0 <;> simp [e2]
      | 1, _ => simp; exact h1
      | 2, _ => simp; exact h2
      | 3, _ => simp; omega
      | 4, _ => simp; omega
    · have hne : ¬ i * 5 + f = j := by omega
      simp only [if_neg e, if_neg hne]
theorem Nest.put {base g n c : Nat} {w : World} {vs : List VN} {KV IV : Nat → Value} {i f : Nat} {x : VN} {u : Value} (h : Nest base w (.slice (some ⟨g, 0, none⟩) n c) vs KV IV) (hl : vs.length = n) (hi : i < vs.length) (hf : f < 3) (hu : u.oneCell' = true) (h0 : Value.int .i64 x.kind = if f = 0 then u else .int .i64 (nodeAt vs i).kind) (h1 : Value.int .i64 x.n = if f = 1 then u else .int .i64 (nodeAt vs i).n) (h2 : Value.string x.s = if f = 2 then u else .string (nodeAt vs i).s) (hk : x.keys = (nodeAt vs i).keys) (hd : x.kids = (nodeAt vs i).kids) :
    Nest base (w.setCell ⟨g, i * 5 + f, none⟩ u) (.slice (some ⟨g, 0, none⟩) n c) (vs.set i x) KV IV := by
  have hr := h.row
  rw [hl] at hr
  have hs := hr.stored (i * 5 + f) u
  have hlen : (vs.set i x).length = vs.length := List.length_set ..
  have hks : ∀ j, (nodeAt (vs.set i x) j).keys = (nodeAt vs j).keys := fun j => by rw [nodeAt_set hi]; split <;> simp_all
  have hds : ∀ j, (nodeAt (vs.set i x) j).kids = (nodeAt vs j).kids := fun j => by rw [nodeAt_set hi]; split <;> simp_all
  refine ⟨?_, fun j hj => ?_, fun j hj => ?_, fun a b ha hb => h.dkk a b (by omega) (by omega), fun a b ha hb => h.dii a b (by omega) (by omega)⟩
  · rw [hlen, hl, nestCells_put hi hf h0 h1 h2]; exact hs.1
  · rw [hks]; exact (h.rk j (by omega)).kept hs.2 (own_apart (h.rk j (by omega)) hr (by decide))
  · rw [hds]; exact (h.ri j (by omega)).kept hs.2 (own_apart (h.ri j (by omega)) hr (by decide))
theorem Fine.put {c i : Nat} {vs : List VN} {x : VN} (h : Fine c vs) (hi : i < vs.length) (hk : x.keys = (nodeAt vs i).keys) (hd : x.kids = (nodeAt vs i).kids) (h1 : -9223372036854775808 ≤ x.kind ∧ x.kind ≤ 9223372036854775807) (h2 : -9223372036854775808 ≤ x.n ∧ x.n ≤ 9223372036854775807) (h3 : x.s.size ≤ 60) : Fine c (vs.set i x) := by
  have hl : (vs.set i x).length = vs.length := List.length_set ..
  refine ⟨by rw [hl]; exact h.1, by rw [hl]; exact h.2.1, fun j hj => ?_⟩
  rw [hl] at hj ⊢
  rw [nodeAt_set hi]
  by_cases e : j = i
  · rw [if_pos e]
    have hx := h.2.2 i hi
    exact ⟨by rw [hk]; exact hx.keysN, by rw [hk]; exact hx.keysS, by rw [hd]; exact hx.kidsN, by rw [hd]; exact hx.kids, h3, h1, h2⟩
  · rw [if_neg e]; exact h.2.2 j hj
set_option maxRecDepth 100000 in
set_option maxHeartbeats 3200000 in
theorem rdMaybe_any (rb n : Nat) (w : World) (h : ∃ p, RdAt w rb n p) :
    Calls Tryz.prog 13 #[.pointer (some ⟨rb, 0, none⟩)] w fun e w' => (∃ r vs KV IV, e = .returned r ∧ Fine 40 vs ∧ Nest w.heap.size w' r vs KV IV) ∧ Drawn rb n w w' := by
  have H := hideIt h
  have hrb : rb < w.heap.size := by obtain ⟨p, hp⟩ := h; exact hp.lt
  clear h
  go_enter Tryz.func13, Tryz.ntmps13
  go_wp2_with fail
  refine (rdValue_any rb n 3 (by omega) w H.out).mono ?_
  rintro e w1 ⟨⟨r, vs, KV, IV, rfl, hf, hn⟩, hd⟩
  have HF : Hid (Fine 40 vs) := hf
  have HD := hideIt hd
  have z1 := hd.only.1
  obtain ⟨M, hM⟩ : ∃ M, vs.length = M := ⟨_, rfl⟩
  have HM := hideIt hM
  have hM1 : 1 ≤ M := by have := hf.1; omega
  have hM2 : M ≤ 40 := by have h2 : vs.length ≤ 40 := hf.2.1; omega
  obtain ⟨g, c, e, hgl, _⟩ := hn.row.form hf.1
  rw [hM] at e
  subst e
  have HN := hideIt hn
  clear hf hn hd hM
  go_wp2_with fail
  refine (rdOnce_any rb n 12 w1 HD.out.rd (by omega) (by omega)).mono ?_
  rintro e w2 ⟨⟨b, rfl⟩, hd2⟩
  have HD2 := hideIt (HD.out.trans hd2)
  have HN2 := hideIt (HN.out.from (hd2.from hrb))
  have z2 := hd2.only.1
  clear hd2 HN
  cases b
  · go_wp2_with fail
    go_ret
    exact ⟨⟨_, vs, KV, IV, rfl, HF.out, HN2.out⟩, HD2.out⟩
  go_wp2_with fail
  refine (rdBelow_any rb n M w2 HD2.out.rd hM1 (by omega)).mono ?_
  rintro e w3 ⟨⟨i, hi, rfl⟩, hd3⟩
  have HD3 := hideIt (HD2.out.trans hd3)
  have HN3 := hideIt (HN2.out.from (hd3.from hrb))
  have z3 := hd3.only.1
  clear hd3 HN2
  go_wp2_with fail
  refine (rdBelow_any rb n 3 w3 HD3.out.rd (by omega) (by omega)).mono ?_
  rintro e w4 ⟨⟨t, ht, rfl⟩, hd4⟩
  have HD4 := hideIt (HD3.out.trans hd4)
  have HN4 := hideIt (HN3.out.from (hd4.from hrb))
  have z4 := hd4.only.1
  have hiM : (i : Int) < (M : Int) := by omega
  clear hd4 HN3
  by_cases t0 : t = 0
  · subst t0
    go_wp2_with fail
    refine (rdOff_any rb n 1 6 w4 HD4.out.rd (by omega) (by omega) (by omega)).mono ?_
    rintro e w5 ⟨⟨x, hx1, hx2, rfl⟩, hd5⟩
    have HD5 := hideIt (HD4.out.trans hd5)
    have HN5 := hideIt (HN4.out.from (hd5.from hrb))
    clear hd5 HN4
    have hrow := HN5.out.row
    rw [HM.out] at hrow
    obtain ⟨⟨v0, hcell⟩, hfz⟩ := own_wrow hrow (i * 5) (by omega)
    have HN6 := hideIt (HN5.out.put (i := i) (f := 0) (x := { nodeAt vs i with kind := x }) (u := .int .i64 x) HM.out (by rw [HM.out]; exact hi) (by omega) rfl rfl rfl rfl rfl rfl)
    have HF6 := hideIt (HF.out.put (i := i) (x := { nodeAt vs i with kind := x }) (by rw [HM.out]; exact hi) rfl rfl ⟨hx1, hx2⟩ (HF.out.2.2 i (by rw [HM.out]; exact hi)).num (HF.out.2.2 i (by rw [HM.out]; exact hi)).size)
    have hbs : Below w.heap.size w5 (w5.setCell ⟨g, i * 5, none⟩ (.int .i64 x)) := (Below.refl w.heap.size w5).setCell hgl _
    have HD6 := hideIt (HD5.out.far hbs hrb (Nat.le_refl _))
    clear hbs
    clear hrow HN5 HD5
    go_wp2_with fail
    go_ret
    exact ⟨⟨_, _, KV, IV, rfl, HF6.out, HN6.out⟩, HD6.out⟩
  have f0 : ((t : Int) == 0) = false := by simp; omega
  by_cases t1 : t = 1
  · subst t1
    clear t0
    go_wp2_with fail
    refine (rdOff_any rb n 0 1 w4 HD4.out.rd (by omega) (by omega) (by omega)).mono ?_
    rintro e w5 ⟨⟨x, hx1, hx2, rfl⟩, hd5⟩
    have HD5 := hideIt (HD4.out.trans hd5)
    have HN5 := hideIt (HN4.out.from (hd5.from hrb))
    clear hd5 HN4
    have hrow := HN5.out.row
    rw [HM.out] at hrow
    obtain ⟨⟨v0, hcell⟩, hfz⟩ := own_wrow hrow (i * 5 + 1) (by omega)
    have HN6 := hideIt (HN5.out.put (i := i) (f := 1) (x := { nodeAt vs i with n := x }) (u := .int .i64 x) HM.out (by rw [HM.out]; exact hi) (by omega) rfl rfl rfl rfl rfl rfl)
    have HF6 := hideIt (HF.out.put (i := i) (x := { nodeAt vs i with n := x }) (by rw [HM.out]; exact hi) rfl rfl (HF.out.2.2 i (by rw [HM.out]; exact hi)).kind ⟨hx1, hx2⟩ (HF.out.2.2 i (by rw [HM.out]; exact hi)).size)
    have hbs : Below w.heap.size w5 (w5.setCell ⟨g, i * 5 + 1, none⟩ (.int .i64 x)) := (Below.refl w.heap.size w5).setCell hgl _
    have HD6 := hideIt (HD5.out.far hbs hrb (Nat.le_refl _))
    clear hbs
    clear hrow HN5 HD5
    go_wp2_with fail
    go_ret
    exact ⟨⟨_, _, KV, IV, rfl, HF6.out, HN6.out⟩, HD6.out⟩
  obtain rfl : t = 2 := by omega
  have HD5 := hideIt HD4.out
  have HN5 := hideIt HN4.out
  obtain ⟨w5, hw5⟩ : ∃ w5, w5 = w4 := ⟨_, rfl⟩
  subst hw5
  clear t0 t1 HN4
  have hrow := HN5.out.row
  rw [HM.out] at hrow
  obtain ⟨⟨v0, hcell⟩, hfz⟩ := own_wrow hrow (i * 5 + 2) (by omega)
  have HN6 := hideIt (HN5.out.put (i := i) (f := 2) (x := { nodeAt vs i with s := ⟨#[255]⟩ }) (u := .string ⟨#[255]⟩) HM.out (by rw [HM.out]; exact hi) (by omega) rfl rfl rfl rfl rfl rfl)
  have HF6 := hideIt (HF.out.put (i := i) (x := { nodeAt vs i with s := ⟨#[255]⟩ }) (by rw [HM.out]; exact hi) rfl rfl (HF.out.2.2 i (by rw [HM.out]; exact hi)).kind (HF.out.2.2 i (by rw [HM.out]; exact hi)).num (by show (⟨#[255]⟩ : ByteArray).size ≤ 60; decide))
  have hbs : Below w.heap.size w5 (w5.setCell ⟨g, i * 5 + 2, none⟩ (.string ⟨#[255]⟩)) := (Below.refl w.heap.size w5).setCell hgl _
  have HD6 := hideIt (HD5.out.far hbs hrb (Nat.le_refl _))
  clear hbs
  clear hrow HN5 HD5
  go_wp2_with fail
  go_ret
  exact ⟨⟨_, _, KV, IV, rfl, HF6.out, HN6.out⟩, HD6.out⟩
end Go.Proofs.YtcidjhnogldgmaaGreatDoor

namespace Go.Proofs.YtcidjhnogldgmaaGreatDoor
open Go.RowKit
set_option linter.unusedSimpArgs false
set_option linter.unusedVariables false
end Go.Proofs.YtcidjhnogldgmaaGreatDoor

namespace Go.Proofs.YtcidjhnogldgmaaGreatDoor
open Go.RowKit
set_option linter.unusedSimpArgs false
set_option linter.unusedVariables false
set_option maxHeartbeats 800000 in
theorem drawLengthOf_any (B : Nat) (v : Value) (n : Nat) (w : World) (h : CodeAt B w v n) (hB : B ≤ w.heap.size) :
    Calls Tryz.prog 5 #[v] w fun e w' => ∃ r vs KV IV, e = .returned r ∧ Fine 40 vs ∧ Nest w.heap.size w' r vs KV IV ∧ Below w.heap.size w w' := by
  have H := hideIt h
  obtain ⟨_, a, cap, rfl, _⟩ := h
  go_enter Tryz.func5, Tryz.ntmps5
  go_wp2_with fail
  refine (l1Open_any B _ n w H.out hB).mono ?_
  rintro e w1 ⟨rfl, hr, hb⟩
  have HR := hideIt hr
  have HB := hideIt hb
  have z1 := hb.size
  clear hr hb
  go_wp2_with fail
  refine (rdMaybe_any w.heap.size n w1 ⟨0, HR.out⟩).mono ?_
  rintro e w2 ⟨⟨r, vs, KV, IV, rfl, hf, hn⟩, hd⟩
  have HF := hideIt hf
  have HN := hideIt (hn.low z1)
  have HB2 := hideIt (HB.out.trans hd.below)
  obtain ⟨ar, cr, er⟩ := own_slice hn.row
  obtain ⟨M, hM⟩ : ∃ M, vs.length = M := ⟨_, rfl⟩
  rw [hM] at er
  subst er
  clear hf hn hd hM
  go_wp2_with fail
  go_ret
  exact ⟨_, vs, KV, IV, rfl, HF.out, HN.out, HB2.out⟩
end Go.Proofs.YtcidjhnogldgmaaGreatDoor
