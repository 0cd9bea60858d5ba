/-
  Rows of rows of steps: how they lie, laid by appending. No walk.
-/
import Derived.Test.YtbclgogolimbgaaWn5
import Derived.Test.YtbclgogolimbgaaPsZ
import Derived.Test.YtbclgogolimbgaaBSrch
namespace Go.Proofs.Ytbclgogolimbgaa
open Go.RowKit
set_option linter.unusedSimpArgs false
set_option linter.unusedVariables false

def stepCells (ps : List PS) : List Value := ps.flatMap fun x => [.bool x.named, .string x.key, .int .i64 x.pl]
theorem stepCells_len (ps : List PS) : (stepCells ps).length = ps.length * 3 := by
  induction ps with
  | nil => rfl
  | cons a ps ih => unfold stepCells at ih ⊢; rw [List.flatMap_cons, List.length_append, ih]; simp; omega
theorem stepCells_snoc (ps : List PS) (x : PS) : stepCells (ps ++ [x]) = stepCells ps ++ [.bool x.named, .string x.key, .int .i64 x.pl] := by
  unfold stepCells; rw [List.flatMap_append]; simp
theorem stepCells_get : ∀ (ps : List PS) (j : Nat), j < ps.length * 3 → (stepCells ps)[j]? = some (stepCell ps j) := by
  intro ps
  induction ps with
  | nil => intro j hj; simp at hj
  | cons a ps ih =>
    intro j hj
    have e : stepCells (a :: ps) = [.bool a.named, .string a.key, .int .i64 a.pl] ++ stepCells ps := rfl
    rw [e]
    by_cases h3 : j < 3
    · match j, h3 with
      | 0, _ => rfl
      | 1, _ => rfl
      | 2, _ => rfl
    · rw [List.getElem?_append_right (by simp; omega)]
      simp only [List.length_cons, List.length_nil] at hj ⊢
      rw [ih (j - 3) (by omega)]
      have e1 : (j - 3) % 3 = j % 3 := by omega
      have e2 : j / 3 = (j - 3) / 3 + 1 := by omega
      unfold stepCell
      rw [e1, e2]
      rfl
theorem stepCells_one (ps : List PS) : ∀ u ∈ stepCells ps, u.oneCell' = true := by
  intro u hu
  obtain ⟨x, _, hx⟩ := List.mem_flatMap.1 hu
  simp at hx
  rcases hx with rfl | rfl | rfl <;> rfl

/-- A row of steps that is own memory reads as such. -/
theorem own_steps {base : Nat} {w : World} {v : Value} {ps : List PS} (h : w.ownsRow base 82 3 v ps.length (stepCells ps)) (hs : Short 1048576 ps) : StepsAt w.heap.size w v ps := by
  refine ⟨hs.1, hs.2, ?_⟩
  rcases Nat.eq_zero_or_pos ps.length with e | e
  · rcases h.2 with ⟨rfl, _⟩ | ⟨g, cap, cur, rfl, _⟩
    · exact ⟨none, 0, by rw [e], fun hp => by omega⟩
    · exact ⟨_, cap, rfl, fun hp => by omega⟩
  · obtain ⟨g, cap, rfl, _, hlt⟩ := h.form e
    refine ⟨_, cap, rfl, fun _ => ⟨g, 0, rfl, hlt, fun i hi => ?_⟩⟩
    rw [Nat.zero_add]
    refine ⟨?_, ?_, ?_⟩
    · rw [h.cellAt _ (by omega), stepCells_get _ _ (by omega), stepCell0]
    · rw [h.cellAt _ (by omega), stepCells_get _ _ (by omega), stepCell1]
    · rw [h.cellAt _ (by omega), stepCells_get _ _ (by omega), stepCell2]

def rowP (Ls : List (List PS)) (i : Nat) : List PS := Ls.getD i []

structure RowsP (base : Nat) (w : World) (v : Value) (Ls : List (List PS)) (rs : Nat → Value) (lo : Nat → Nat) : Prop where
  row : w.ownsRow base 31 1 v Ls.length ((List.range Ls.length).map rs)
  own : ∀ i, i < Ls.length → w.ownsRow (lo i) 82 3 (rs i) (rowP Ls i).length (stepCells (rowP Ls i))
  low : ∀ i, i ≤ Ls.length → base ≤ lo i
  mono : ∀ i j, i ≤ j → j ≤ Ls.length → lo i ≤ lo j
  top : lo Ls.length ≤ w.heap.size
  inn : ∀ i, i < Ls.length → ∀ x, (rs i).ownBlock = some x → x < lo (i + 1)

theorem RowsP.start {base : Nat} {w : World} {v : Value} (h : w.ownsRow base 31 1 v 0 []) (hb : base ≤ w.heap.size) : RowsP base w v [] (fun _ => undef) (fun _ => base) :=
  ⟨by simpa using h, fun i hi => absurd hi (by simp), fun _ _ => Nat.le_refl _, fun _ _ _ _ => Nat.le_refl _, hb, fun i hi => absurd hi (by simp)⟩

theorem RowsP.below {base : Nat} {w w' : World} {v : Value} {Ls : List (List PS)} {rs : Nat → Value} {lo : Nat → Nat} (h : RowsP base w v Ls rs lo) (hb : Below w.heap.size w w') : RowsP base w' v Ls rs lo :=
  ⟨own_below h.row hb (fun x hx => (h.row.lt x hx).2), fun i hi => own_below (h.own i hi) hb (fun x hx => ((h.own i hi).lt x hx).2), h.low, h.mono, Nat.le_trans h.top hb.size, h.inn⟩

theorem RowsP.from {base : Nat} {w w' : World} {v : Value} {Ls : List (List PS)} {rs : Nat → Value} {lo : Nat → Nat} (h : RowsP base w v Ls rs lo) (hf : From base w w') : RowsP base w' v Ls rs lo :=
  ⟨own_from h.row hf, fun i hi => own_from (h.own i hi) (hf.mono (h.low i (by omega))), h.low, h.mono, Nat.le_trans h.top hf.1, h.inn⟩

theorem rowP_left {Ls Ms : List (List PS)} {i : Nat} (h : i < Ls.length) : rowP (Ls ++ Ms) i = rowP Ls i := by
  unfold rowP; rw [List.getD_eq_getElem?_getD, List.getD_eq_getElem?_getD, List.getElem?_append_left h]
theorem rowP_right {Ls Ms : List (List PS)} {i : Nat} (h : Ls.length ≤ i) : rowP (Ls ++ Ms) i = rowP Ms (i - Ls.length) := by
  unfold rowP; rw [List.getD_eq_getElem?_getD, List.getD_eq_getElem?_getD, List.getElem?_append_right h]

/-- Rows behind rows: those that were made in new memory are appended. -/
theorem RowsP.join {base : Nat} {w w1 w5 : World} {v v' u : Value} {Ls Ms : List (List PS)} {rs ss : Nat → Value} {lo mo : Nat → Nat} (h : RowsP base w v Ls rs lo) (hb : Below w.heap.size w w1) (h2 : RowsP w.heap.size w1 u Ms ss mo)
    (hown : w5.ownsRow base 31 1 v' (Ls.length + Ms.length) ((List.range Ls.length).map rs ++ (List.range Ms.length).map ss)) (hg : w1.grownBy w5 v.ownBlock) :
    RowsP base w5 v' (Ls ++ Ms) (fun i => if i < Ls.length then rs i else ss (i - Ls.length)) (fun i => if i < Ls.length then lo i else mo (i - Ls.length)) := by
  have h1 := h.below hb
  have hs := hb.size
  have hgs := hg.size
  have ht := h.top
  have kept : ∀ {b : Nat} {x : Value} {ps : List PS}, w1.ownsRow b 82 3 x ps.length (stepCells ps) → w5.ownsRow b 82 3 x ps.length (stepCells ps) := fun hx => hx.kept hg (own_apart hx h1.row (by decide))
  refine ⟨?_, fun i hi => ?_, fun i hi => ?_, fun i j hij hj => ?_, ?_, fun i hi x hx => ?_⟩
  · rw [List.length_append]
    have e : (List.range (Ls.length + Ms.length)).map (fun i => if i < Ls.length then rs i else ss (i - Ls.length)) = (List.range Ls.length).map rs ++ (List.range Ms.length).map ss := by
      rw [List.range_add, List.map_append]
      congr 1
      · apply List.map_congr_left; intro j hj; simp [List.mem_range.1 hj]
      · rw [List.map_map]; apply List.map_congr_left; intro j hj
        show (if Ls.length + j < Ls.length then rs (Ls.length + j) else ss (Ls.length + j - Ls.length)) = ss j
        rw [if_neg (by omega), show Ls.length + j - Ls.length = j by omega]
    rw [e]; exact hown
  · simp only [List.length_append] at hi
    by_cases e : i < Ls.length
    · simp only [if_pos e, rowP_left e]; exact kept (h1.own i e)
    · simp only [if_neg e, rowP_right (Nat.le_of_not_lt e)]; exact kept (h2.own (i - Ls.length) (by omega))
  · simp only [List.length_append] at hi
    by_cases e : i < Ls.length
    · simp only [if_pos e]; exact h.low i (by omega)
    · simp only [if_neg e]
      have := h2.low (i - Ls.length) (by omega)
      have := h.low Ls.length (Nat.le_refl _)
      omega
  · simp only [List.length_append] at hj
    by_cases e : j < Ls.length
    · simp only [if_pos e, if_pos (show i < Ls.length by omega)]; exact h.mono i j hij (by omega)
    · by_cases e1 : i < Ls.length
      · simp only [if_pos e1, if_neg e]
        have := h.mono i Ls.length (by omega) (Nat.le_refl _)
        have := h2.low (j - Ls.length) (by omega)
        omega
      · simp only [if_neg e1, if_neg e]; exact h2.mono _ _ (by omega) (by omega)
  · simp only [List.length_append, if_neg (show ¬ Ls.length + Ms.length < Ls.length by omega), show Ls.length + Ms.length - Ls.length = Ms.length by omega]
    have := h2.top; omega
  · simp only [List.length_append] at hi
    by_cases e : i < Ls.length
    · simp only [if_pos e] at hx
      have h3 := h.inn i e x hx
      by_cases e2 : i + 1 < Ls.length
      · simp only [if_pos e2]; exact h3
      · simp only [if_neg e2]
        have e3 : i + 1 = Ls.length := by omega
        rw [e3] at h3 ⊢
        have := h2.low (Ls.length - Ls.length) (by omega)
        omega
    · simp only [if_neg e] at hx
      simp only [if_neg (show ¬ i + 1 < Ls.length by omega), show i + 1 - Ls.length = i - Ls.length + 1 by omega]
      exact h2.inn _ (by omega) x hx

/-- One row more, in memory behind the others. -/
theorem RowsP.snoc {base : Nat} {w w5 : World} {v v' r : Value} {Ls : List (List PS)} {rs : Nat → Value} {lo : Nat → Nat} {ps : List PS} {o : Obj} (h : RowsP base w v Ls rs lo) (hr : w.ownsRow (lo Ls.length) 82 3 r ps.length (stepCells ps))
    (hown : w5.ownsRow base 31 1 v' (Ls.length + 1) ((List.range Ls.length).map rs ++ [r])) (hg : (w.alloc o).grownBy w5 v.ownBlock) :
    RowsP base w5 v' (Ls ++ [ps]) (updF rs Ls.length r) (fun i => if i ≤ Ls.length then lo i else w.heap.size) := by
  have hg1 : w.grownBy w5 v.ownBlock := (World.grownBy_alloc w o _).trans hg
  have hgs := hg1.size
  have ht := h.top
  have kept : ∀ {b : Nat} {x : Value} {ps : List PS}, w.ownsRow b 82 3 x ps.length (stepCells ps) → w5.ownsRow b 82 3 x ps.length (stepCells ps) := fun hx => hx.kept hg1 (own_apart hx h.row (by decide))
  refine ⟨?_, fun i hi => ?_, fun i hi => ?_, fun i j hij hj => ?_, ?_, fun i hi x hx => ?_⟩
  · rw [List.length_append, List.length_singleton, range_map_snoc]; exact hown
  · simp only [List.length_append, List.length_singleton] at hi
    by_cases e : i = Ls.length
    · subst e
      simp only [updF_same, rowP_right (Nat.le_refl _), Nat.le_refl, if_true, Nat.sub_self]
      exact kept hr
    · simp only [updF_other _ _ e, rowP_left (show i < Ls.length by omega), if_pos (show i ≤ Ls.length by omega)]
      exact kept (h.own i (by omega))
  · simp only [List.length_append, List.length_singleton] at hi
    by_cases e : i ≤ Ls.length
    · simp only [if_pos e]; exact h.low i e
    · simp only [if_neg e]; have := h.low Ls.length (Nat.le_refl _); omega
  · simp only [List.length_append, List.length_singleton] at hj
    by_cases e : j ≤ Ls.length
    · simp only [if_pos e, if_pos (show i ≤ Ls.length by omega)]; exact h.mono i j hij e
    · by_cases e1 : i ≤ Ls.length
      · simp only [if_pos e1, if_neg e]; have := h.mono i Ls.length e1 (Nat.le_refl _); omega
      · simp only [if_neg e1, if_neg e]; omega
  · simp only [List.length_append, List.length_singleton, if_neg (show ¬ Ls.length + 1 ≤ Ls.length by omega)]; omega
  · simp only [List.length_append, List.length_singleton] at hi
    by_cases e : i = Ls.length
    · subst e
      rw [updF_same] at hx
      simp only [if_neg (show ¬ Ls.length + 1 ≤ Ls.length by omega)]
      exact (hr.lt x hx).2
    · rw [updF_other _ _ e] at hx
      simp only [if_pos (show i + 1 ≤ Ls.length by omega)]
      exact h.inn i (by omega) x hx

/-- Rows of steps as they are read. -/
def RowsPAt (B : Nat) (w : World) (v : Value) (Ls : List (List PS)) : Prop :=
  Ls.length ≤ 1048576 ∧ ∃ a cap, v = .slice a Ls.length cap ∧ (0 < Ls.length → ∃ b, a = some ⟨b, 0, none⟩ ∧ b < B ∧ ∀ i, i < Ls.length → ∃ r, w.cell? ⟨b, i, none⟩ = some r ∧ StepsAt B w r (rowP Ls i))

theorem RowsP.read {base : Nat} {w : World} {v : Value} {Ls : List (List PS)} {rs : Nat → Value} {lo : Nat → Nat} (h : RowsP base w v Ls rs lo) (hm : Ls.length ≤ 1048576) (hs : ∀ i, i < Ls.length → Short 1048576 (rowP Ls i)) : RowsPAt w.heap.size w v Ls := by
  obtain ⟨a, c, e⟩ := own_slice h.row
  subst e
  refine ⟨hm, a, c, rfl, fun hp => ?_⟩
  obtain ⟨g, cap, e, _, hlt⟩ := h.row.form hp
  cases e
  refine ⟨g, rfl, hlt, fun i hi => ⟨rs i, ?_, own_steps (h.own i hi) (hs i hi)⟩⟩
  rw [h.row.cellAt i (by omega)]
  simp [hi]
end Go.Proofs.Ytbclgogolimbgaa
