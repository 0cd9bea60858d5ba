/-
  Rows of rows of nodes, kept and put in another order. No walk.
-/
import Derived.Test.YtiamkmkbkehldaaDoorSSort
import Derived.Test.YtiamkmkbkehldaaDoorLowN
import Derived.Laws.OwnMore
namespace Go.Proofs.YtiamkmkbkehldaaDoor
open Go.RowKit
set_option linter.unusedSimpArgs false
set_option linter.unusedVariables false

theorem Rows2.congr {base : Nat} {w : World} {v : Value} {m : Nat} {L L' : Nat → List VN} {rs : Nat → Value} {KV IV : Nat → Nat → Value} {lo : Nat → Nat} (h : Rows2 base w v m L rs KV IV lo) (e : ∀ i, i < m → L' i = L i) : Rows2 base w v m L' rs KV IV lo :=
  ⟨h.row, fun i hi => by rw [e i hi]; exact h.nest i hi, h.low, h.mono, h.top, fun i hi x hx => by rw [e i hi] at hx; exact h.inn i hi x hx⟩

theorem Rows2.kept {base : Nat} {w w' : World} {v : Value} {m : Nat} {L : Nat → List VN} {rs : Nat → Value} {KV IV : Nat → Nat → Value} {lo : Nat → Nat} {x : Option Nat} (h : Rows2 base w v m L rs KV IV lo) (hg : w.grownBy w' x) (hr : v.ownBlock = none ∨ v.ownBlock ≠ x) (hn : ∀ i, i < m → ∀ y, InNest (rs i) (L i).length (KV i) (IV i) y → x ≠ some y) : Rows2 base w' v m L rs KV IV lo := by
  have go : ∀ {u : Value}, (∀ y, u.ownBlock = some y → x ≠ some y) → u.ownBlock = none ∨ u.ownBlock ≠ x := by
    intro u hu
    cases e : u.ownBlock with
    | none => exact Or.inl rfl
    | some y => exact Or.inr (fun e2 => hu y e e2.symm)
  refine ⟨h.row.kept hg hr, fun i hi => (h.nest i hi).kept hg (go fun y hy => hn i hi y (Or.inl hy)) (fun j hj => go fun y hy => hn i hi y (Or.inr ⟨j, hj, Or.inl hy⟩)) (fun j hj => go fun y hy => hn i hi y (Or.inr ⟨j, hj, Or.inr hy⟩)), h.low, h.mono, Nat.le_trans h.top hg.size, h.inn⟩

/-- Rows in another order, as they are read. -/
theorem Rows2.places {base B : Nat} {w w' : World} {v lv : Value} {m : Nat} {L : Nat → List VN} {rs : Nat → Value} {KV IV : Nat → Nat → Value} {lo : Nat → Nat} {ps : List Nat} (h : Rows2 base w v m L rs KV IV lo) (hb : Below w.heap.size w w') (hp : ∀ x ∈ ps, x < m) (hl : ps.length = m) (hm : m ≤ 80) (hf : ∀ i, i < m → Few (L i) ∧ ∀ j, j < (L i).length → Fits (nodeAt (L i) j))
    (hown : w'.ownsRow B 30 1 lv ps.length (ps.map rs)) : RowsAt w'.heap.size w' lv m (fun i => L (ps.getD i 0)) := by
  rw [hl] at hown
  obtain ⟨a, c, e⟩ := own_slice hown
  subst e
  refine ⟨by omega, a, c, rfl, fun hpos => ?_⟩
  obtain ⟨g, cap, e, _, hlt⟩ := hown.form (by omega)
  cases e
  refine ⟨g, rfl, hlt, fun i hi => ?_⟩
  have hi' : i < ps.length := by omega
  have hg : ps.getD i 0 = ps[i] := by rw [List.getD_eq_getElem?_getD, List.getElem?_eq_getElem hi']; rfl
  have hpm : ps.getD i 0 < m := by rw [hg]; exact hp _ (List.getElem_mem hi')
  refine ⟨rs (ps.getD i 0), ?_, ?_⟩
  · have hc := hown.cellAt i (show i < m * 1 by omega)
    rw [hc, List.getElem?_map, List.getElem?_eq_getElem hi', hg]; rfl
  · exact ((h.below hb).nest _ hpm).nodes (by have := (hf _ hpm).1.1; omega) (hf _ hpm).2

end Go.Proofs.YtiamkmkbkehldaaDoor

/-
  A value is drawn: nodes of its own, few.
-/
namespace Go.Proofs.YtiamkmkbkehldaaDoor
open Go.RowKit
set_option linter.unusedSimpArgs false
set_option linter.unusedVariables false

theorem RdAt.belowB {base : Nat} {w w' : World} {rb n p : Nat} (h : RdAt w rb n p) (hb : Below base w w') (hl : rb < base) : RdAt w' rb n p := by
  refine ⟨by have := hb.size; have := h.lt; omega, ?_, (below_cell hb hl).trans h.place, h.le, h.few, (frozen_same (hb.block rb hl)).trans h.free⟩
  obtain ⟨a, cap, h1, h2⟩ := h.src
  refine ⟨a, cap, (below_cell hb hl).trans h1, fun hp => ?_⟩
  obtain ⟨b, o, e, hlt, hx⟩ := h2 hp
  exact ⟨b, o, e, hlt, fun i hi => by obtain ⟨x, h3, h4⟩ := hx i hi; exact ⟨x, h3, (below_cell hb (by omega)).trans h4⟩⟩

/-- Blocks that came behind the start may turn, too. -/
theorem Drawn.far {rb n base : Nat} {a b c : World} (h : Drawn rb n a b) (k : Below base b c) (hb : rb < base) (ha : a.heap.size ≤ base) : Drawn rb n a c := by
  obtain ⟨p, hp⟩ := h.rd
  exact ⟨⟨p, hp.belowB k hb⟩, ⟨Nat.le_trans h.only.1 k.size, fun c hc hn => (k.block c (by omega)).trans (h.only.2 c hc hn)⟩, h.below.trans (k.mono (by omega))⟩

end Go.Proofs.YtiamkmkbkehldaaDoor

/-
  A value is drawn that is not right now and then: one field of one node may be another one.
-/
namespace Go.Proofs.YtiamkmkbkehldaaDoor
open Go.RowKit
set_option linter.unusedSimpArgs false
set_option linter.unusedVariables false

theorem nodeAt_set {vs : List VN} {i : Nat} {x : VN} (hi : i < vs.length) (j : Nat) : nodeAt (vs.set i x) j = if j = i then x else nodeAt vs j := by
  unfold nodeAt
  rw [List.getD_eq_getElem?_getD, List.getD_eq_getElem?_getD, List.getElem?_set]
  by_cases e : i = j
  · subst e; simp [hi]
  · have e' : ¬ j = i := fun h => e h.symm
    simp [e, e']

theorem nestCells_put {vs : List VN} {KV IV : Nat → Value} {i f : Nat} {x : VN} {u : Value} (hi : i < vs.length) (hf : f < 3) (h0 : Value.int .i64 x.kind = if f = 0 then u else .int .i64 (nodeAt vs i).kind) (h1 : Value.int .i64 x.n = if f = 1 then u else .int .i64 (nodeAt vs i).n) (h2 : Value.string x.s = if f = 2 then u else .string (nodeAt vs i).s) :
    nestCells (vs.set i x) KV IV = (nestCells vs KV IV).set (i * 5 + f) u := by
  apply List.ext_getElem
  · simp [nestCells]
  · intro j hj1 hj2
    rw [List.getElem_set]
    simp only [nestCells, List.getElem_map, List.getElem_range]
    unfold nestCell
    rw [nodeAt_set hi]
    by_cases e : j / 5 = i
    · rw [if_pos e, e]
      have ej : j = i * 5 + j % 5 := by omega
      have hr : j % 5 < 5 := by omega
      generalize j % 5 = r at ej hr
      subst ej
      match r, hr with
      | 0, _ => simp only [if_true]; rw [h0]; by_cases e2 : f = 0 <;> simp [e2]
      | 1, _ => simp; exact h1
      | 2, _ => simp; exact h2
      | 3, _ => simp; omega
      | 4, _ => simp; omega
    · have hne : ¬ i * 5 + f = j := by omega
      simp only [if_neg e, if_neg hne]

theorem Nest.put {base g n c : Nat} {w : World} {vs : List VN} {KV IV : Nat → Value} {i f : Nat} {x : VN} {u : Value} (h : Nest base w (.slice (some ⟨g, 0, none⟩) n c) vs KV IV) (hl : vs.length = n) (hi : i < vs.length) (hf : f < 3) (hu : u.oneCell' = true) (h0 : Value.int .i64 x.kind = if f = 0 then u else .int .i64 (nodeAt vs i).kind) (h1 : Value.int .i64 x.n = if f = 1 then u else .int .i64 (nodeAt vs i).n) (h2 : Value.string x.s = if f = 2 then u else .string (nodeAt vs i).s) (hk : x.keys = (nodeAt vs i).keys) (hd : x.kids = (nodeAt vs i).kids) :
    Nest base (w.setCell ⟨g, i * 5 + f, none⟩ u) (.slice (some ⟨g, 0, none⟩) n c) (vs.set i x) KV IV := by
  have hr := h.row
  rw [hl] at hr
  have hs := hr.stored (i * 5 + f) u
  have hlen : (vs.set i x).length = vs.length := List.length_set ..
  have hks : ∀ j, (nodeAt (vs.set i x) j).keys = (nodeAt vs j).keys := fun j => by rw [nodeAt_set hi]; split <;> simp_all
  have hds : ∀ j, (nodeAt (vs.set i x) j).kids = (nodeAt vs j).kids := fun j => by rw [nodeAt_set hi]; split <;> simp_all
  refine ⟨?_, fun j hj => ?_, fun j hj => ?_, fun a b ha hb => h.dkk a b (by omega) (by omega), fun a b ha hb => h.dii a b (by omega) (by omega)⟩
  · rw [hlen, hl, nestCells_put hi hf h0 h1 h2]; exact hs.1
  · rw [hks]; exact (h.rk j (by omega)).kept hs.2 (own_apart (h.rk j (by omega)) hr (by decide))
  · rw [hds]; exact (h.ri j (by omega)).kept hs.2 (own_apart (h.ri j (by omega)) hr (by decide))

theorem Fine.put {c i : Nat} {vs : List VN} {x : VN} (h : Fine c vs) (hi : i < vs.length) (hk : x.keys = (nodeAt vs i).keys) (hd : x.kids = (nodeAt vs i).kids) (h1 : -9223372036854775808 ≤ x.kind ∧ x.kind ≤ 9223372036854775807) (h2 : -9223372036854775808 ≤ x.n ∧ x.n ≤ 9223372036854775807) (h3 : x.s.size ≤ 60) : Fine c (vs.set i x) := by
  have hl : (vs.set i x).length = vs.length := List.length_set ..
  refine ⟨by rw [hl]; exact h.1, by rw [hl]; exact h.2.1, fun j hj => ?_⟩
  rw [hl] at hj ⊢
  rw [nodeAt_set hi]
  by_cases e : j = i
  · rw [if_pos e]
    have hx := h.2.2 i hi
    exact ⟨by rw [hk]; exact hx.keysN, by rw [hk]; exact hx.keysS, by rw [hd]; exact hx.kidsN, by rw [hd]; exact hx.kids, h3, h1, h2⟩
  · rw [if_neg e]; exact h.2.2 j hj

end Go.Proofs.YtiamkmkbkehldaaDoor
