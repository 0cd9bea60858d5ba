/-
  Rows of rows of nodes: how they lie, laid by appending. No walk.
-/
import Derived.Test.YtgmnihofkpjboaaDoorSPart
import Derived.Test.YtgmnihofkpjboaaDoorFromP
import Derived.Maps.Range
namespace Go.Proofs.YtgmnihofkpjboaaDoor
open Go.RowKit
set_option linter.unusedSimpArgs false
set_option linter.unusedVariables false

theorem From.only {base : Nat} {P : Nat → Prop} {a w w' : World} (h : From base a w) (ho : Only P w w') (hP : ∀ c, P c → c < base) : From base a w' :=
  ⟨Nat.le_trans h.1 ho.1, fun c h1 h2 => (ho.2 c (by have := h.1; omega) (fun p => by have := hP c p; omega)).trans (h.2 c h1 h2)⟩
theorem Nest.from {base : Nat} {w w' : World} {v : Value} {vs : List VN} {KV IV : Nat → Value} (h : Nest base w v vs KV IV) (hf : From base w w') : Nest base w' v vs KV IV :=
  ⟨own_from h.row hf, fun i hi => own_from (h.rk i hi) hf, fun i hi => own_from (h.ri i hi) hf, h.dkk, h.dii⟩

def blk (v : Value) : Nat := (v.ownBlock).getD 0
def knOf (vs : List VN) (i : Nat) : Nat := (nodeAt vs i).keys.length
def inOf (vs : List VN) (i : Nat) : Nat := (nodeAt vs i).kids.length

/-- Few nodes, with few keys and kids. -/
def Few (vs : List VN) : Prop := vs.length ≤ 80 ∧ ∀ i, i < vs.length → (nodeAt vs i).keys.length ≤ 80 ∧ (nodeAt vs i).kids.length ≤ 80

/-- A Nest, ready to be marked. -/
theorem Nest.mark {base : Nat} {w : World} {a : Option Addr} {n c : Nat} {vs : List VN} {KV IV : Nat → Value} (h : Nest base w (.slice a n c) vs KV IV) (hl : vs.length = n) (hf : Few vs) :
    0 < n → a = some ⟨blk (.slice a n c), 0, none⟩ ∧ Marky base w (blk (.slice a n c)) n (knOf vs) (inOf vs) (fun i => blk (KV i)) (fun i => blk (IV i)) := by
  subst hl
  intro hp
  obtain ⟨g, cap, e, _⟩ := h.row.form hp
  cases e
  exact ⟨rfl, Nest.marky h (by have := hf.1; omega) (fun i hi => by have := hf.2 i hi; omega)⟩

/-- The blocks of a Nest. -/
def InNest (r : Value) (n : Nat) (K I : Nat → Value) (x : Nat) : Prop := r.ownBlock = some x ∨ ∃ j, j < n ∧ ((K j).ownBlock = some x ∨ (I j).ownBlock = some x)

theorem Nest.inn {base : Nat} {w : World} {v : Value} {vs : List VN} {KV IV : Nat → Value} (h : Nest base w v vs KV IV) {x : Nat} (hx : InNest v vs.length KV IV x) : base ≤ x ∧ x < w.heap.size := by
  rcases hx with hx | ⟨j, hj, hx | hx⟩
  · exact h.row.lt x hx
  · exact (h.rk j hj).lt x hx
  · exact (h.ri j hj).lt x hx

theorem blk_of {w : World} {base e s n : Nat} {v : Value} {xs : List Value} (h : w.ownsRow base e s v n xs) (hn : 0 < n) : v.ownBlock = some (blk v) := by
  obtain ⟨g, cap, rfl, _⟩ := h.form hn
  rfl

theorem Nest.marked {base : Nat} {w : World} {v : Value} {vs : List VN} {KV IV : Nat → Value} (h : Nest base w v vs KV IV) {x : Nat} (hx : Marked (blk v) vs.length (knOf vs) (inOf vs) (fun i => blk (KV i)) (fun i => blk (IV i)) x) : InNest v vs.length KV IV x := by
  obtain ⟨hp, rfl | ⟨i, hi, ⟨hk, rfl⟩ | ⟨hk, rfl⟩⟩⟩ := hx
  · exact Or.inl (blk_of h.row hp)
  · exact Or.inr ⟨i, hi, Or.inl (blk_of (h.rk i hi) hk)⟩
  · exact Or.inr ⟨i, hi, Or.inr (blk_of (h.ri i hi) hk)⟩

/-- A row of slices lies apart from a Nest. -/
theorem Nest.far {base base' : Nat} {w : World} {v r : Value} {n : Nat} {xs : List Value} {vs : List VN} {KV IV : Nat → Value} (h : Nest base w v vs KV IV) (hr : w.ownsRow base' 25 1 r n xs) {x : Nat} (hx : InNest v vs.length KV IV x) : r.ownBlock ≠ some x := by
  intro e
  rcases hx with hx | ⟨j, hj, hx | hx⟩
  · rcases own_apart hr h.row (by decide) with e2 | e2
    · rw [e] at e2; cases e2
    · exact e2 (e.trans hx.symm)
  · rcases own_apart hr (h.rk j hj) (by decide) with e2 | e2
    · rw [e] at e2; cases e2
    · exact e2 (e.trans hx.symm)
  · rcases own_apart hr (h.ri j hj) (by decide) with e2 | e2
    · rw [e] at e2; cases e2
    · exact e2 (e.trans hx.symm)

def updF {α : Type} (F : Nat → α) (k : Nat) (v : α) (i : Nat) : α := if i = k then v else F i
theorem updF_same {α : Type} (F : Nat → α) (k : Nat) (v : α) : updF F k v k = v := if_pos rfl
theorem updF_other {α : Type} (F : Nat → α) {k i : Nat} (v : α) (h : i ≠ k) : updF F k v i = F i := if_neg h

structure Rows2 (base : Nat) (w : World) (v : Value) (m : Nat) (L : Nat → List VN) (rs : Nat → Value) (KV IV : Nat → Nat → Value) (lo : Nat → Nat) : Prop where
  row : w.ownsRow base 25 1 v m ((List.range m).map rs)
  nest : ∀ i, i < m → Nest (lo i) w (rs i) (L i) (KV i) (IV i)
  low : ∀ i, i ≤ m → base ≤ lo i
  mono : ∀ i j, i ≤ j → j ≤ m → lo i ≤ lo j
  top : lo m ≤ w.heap.size
  inn : ∀ i, i < m → ∀ x, InNest (rs i) (L i).length (KV i) (IV i) x → x < lo (i + 1)

theorem Rows2.start {base : Nat} {w : World} {v : Value} (h : w.ownsRow base 25 1 v 0 []) (hb : base ≤ w.heap.size) (L : Nat → List VN) : Rows2 base w v 0 L (fun _ => undef) (fun _ _ => undef) (fun _ _ => undef) (fun _ => base) :=
  ⟨by simpa using h, fun i hi => absurd hi (by omega), fun _ _ => Nat.le_refl _, fun _ _ _ _ => Nat.le_refl _, hb, fun i hi => absurd hi (by omega)⟩

theorem Rows2.below {base : Nat} {w w' : World} {v : Value} {m : Nat} {L : Nat → List VN} {rs : Nat → Value} {KV IV : Nat → Nat → Value} {lo : Nat → Nat} (h : Rows2 base w v m L rs KV IV lo) (hb : Below w.heap.size w w') : Rows2 base w' v m L rs KV IV lo :=
  ⟨own_below h.row hb (fun x hx => (h.row.lt x hx).2), fun i hi => (h.nest i hi).below hb, h.low, h.mono, Nat.le_trans h.top hb.size, h.inn⟩

theorem Rows2.from {base : Nat} {w w' : World} {v : Value} {m : Nat} {L : Nat → List VN} {rs : Nat → Value} {KV IV : Nat → Nat → Value} {lo : Nat → Nat} (h : Rows2 base w v m L rs KV IV lo) (hf : From base w w') : Rows2 base w' v m L rs KV IV lo :=
  ⟨own_from h.row hf, fun i hi => (h.nest i hi).from (hf.mono (h.low i (by omega))), h.low, h.mono, Nat.le_trans h.top hf.1, h.inn⟩

theorem range_map_snoc {m : Nat} {rs : Nat → Value} {r : Value} : (List.range (m + 1)).map (updF rs m r) = (List.range m).map rs ++ [r] := by
  rw [List.range_succ, List.map_append]
  congr 1
  · apply List.map_congr_left
    intro j hj
    exact updF_other _ _ (by have := List.mem_range.1 hj; omega)
  · simp [updF_same]

/-- One row more: made in new memory, then appended. -/
theorem Rows2.snoc {base : Nat} {w w1 w5 : World} {v v' r : Value} {m : Nat} {L : Nat → List VN} {rs : Nat → Value} {KV IV : Nat → Nat → Value} {lo : Nat → Nat} {K I : Nat → Value} {o : Obj} (h : Rows2 base w v m L rs KV IV lo) (hb : Below w.heap.size w w1) (hn : Nest w.heap.size w1 r (L m) K I)
    (hown : w5.ownsRow base 25 1 v' (m + 1) ((List.range m).map rs ++ [r])) (hg : (w1.alloc o).grownBy w5 v.ownBlock) :
    Rows2 base w5 v' (m + 1) L (updF rs m r) (updF KV m K) (updF IV m I) (fun i => if i < m then lo i else if i = m then w.heap.size else w1.heap.size) := by
  have h1 := h.below hb
  have hg1 : w1.grownBy w5 v.ownBlock := (World.grownBy_alloc w1 o _).trans hg
  have hs := hb.size
  have hgs := hg1.size
  have kept : ∀ {b : Nat} {u : Value} {vs : List VN} {A C : Nat → Value}, Nest b w1 u vs A C → Nest b w5 u vs A C := fun hx => hx.kept hg1 (own_apart hx.row h1.row (by decide)) (fun i hi => own_apart (hx.rk i hi) h1.row (by decide)) (fun i hi => own_apart (hx.ri i hi) h1.row (by decide))
  refine ⟨by rw [range_map_snoc]; exact hown, fun i hi => ?_, fun i hi => ?_, fun i j hij hj => ?_, ?_, fun i hi x hx => ?_⟩
  · by_cases e : i = m
    · subst e
      simp only [updF_same, Nat.lt_irrefl, if_true, if_false]
      exact kept hn
    · simp only [updF_other _ _ e, if_pos (show i < m by omega)]
      exact kept (h1.nest i (by omega))
  · have hl := h.low m (Nat.le_refl _)
    have ht := h.top
    by_cases e : i < m
    · simp only [if_pos e]; exact h.low i (by omega)
    · by_cases e2 : i = m
      · simp only [if_neg e, if_pos e2]; omega
      · simp only [if_neg e, if_neg e2]; omega
  · have ht := h.top
    by_cases e : j < m
    · simp only [if_pos e, if_pos (show i < m by omega)]; exact h.mono i j hij (by omega)
    · by_cases e1 : i < m
      · have := h.mono i m (by omega) (Nat.le_refl _)
        by_cases e2 : j = m
        · simp only [if_pos e1, if_neg e, if_pos e2]; omega
        · simp only [if_pos e1, if_neg e, if_neg e2]; omega
      · by_cases e2 : j = m
        · simp only [if_neg e1, if_neg e, if_pos e2, if_pos (show i = m by omega)]; omega
        · by_cases e3 : i = m
          · simp only [if_neg e1, if_neg e, if_neg e2, if_pos e3]; omega
          · simp only [if_neg e1, if_neg e, if_neg e2, if_neg e3]; omega
  · simp only [if_neg (show ¬ m + 1 < m by omega), if_neg (show ¬ m + 1 = m by omega)]; omega
  · have ht := h.top
    by_cases e : i = m
    · subst e
      simp only [updF_same] at hx
      simp only [if_neg (show ¬ i + 1 < i by omega), if_neg (show ¬ i + 1 = i by omega)]
      exact (hn.inn hx).2
    · simp only [updF_other _ _ e] at hx
      have := h.inn i (by omega) x hx
      by_cases e2 : i + 1 < m
      · simp only [if_pos e2]; exact this
      · obtain e3 : i + 1 = m := by omega
        rw [e3] at this
        simp only [if_neg e2, if_pos e3]; omega

/-- Rows of nodes as they are read. -/
def RowsAt (B : Nat) (w : World) (v : Value) (m : Nat) (L : Nat → List VN) : Prop :=
  m ≤ 1048576 ∧ ∃ a cap, v = .slice a m cap ∧ (0 < m → ∃ b, a = some ⟨b, 0, none⟩ ∧ b < B ∧ ∀ i, i < m → ∃ r, w.cell? ⟨b, i, none⟩ = some r ∧ NodesAt B w r (L i))

theorem Rows2.rows {base : Nat} {w : World} {v : Value} {m : Nat} {L : Nat → List VN} {rs : Nat → Value} {KV IV : Nat → Nat → Value} {lo : Nat → Nat} (h : Rows2 base w v m L rs KV IV lo) (hm : m ≤ 80) (hf : ∀ i, i < m → Few (L i) ∧ ∀ j, j < (L i).length → Fits (nodeAt (L i) j)) : RowsAt w.heap.size w v m L := by
  obtain ⟨a, c, e⟩ := own_slice h.row
  subst e
  refine ⟨by omega, a, c, rfl, fun hp => ?_⟩
  obtain ⟨g, cap, e, _, hlt⟩ := h.row.form hp
  cases e
  refine ⟨g, rfl, hlt, fun i hi => ⟨rs i, ?_, (h.nest i hi).nodes (by have := (hf i hi).1.1; omega) (hf i hi).2⟩⟩
  rw [h.row.cellAt i (by omega)]
  simp [hi]
end Go.Proofs.YtgmnihofkpjboaaDoor
