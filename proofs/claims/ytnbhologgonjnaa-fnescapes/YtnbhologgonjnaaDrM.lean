/-
  A value is drawn that is not right now and then: one field of one node may be another one.
-/
import Derived.Test.YtnbhologgonjnaaDrV
import Derived.Laws.OwnMore
namespace Go.Proofs.Ytnbhologgonjnaa
open Go.RowKit
set_option linter.unusedSimpArgs false
set_option linter.unusedVariables false

theorem nodeAt_set {vs : List VN} {i : Nat} {x : VN} (hi : i < vs.length) (j : Nat) : nodeAt (vs.set i x) j = if j = i then x else nodeAt vs j := by
  unfold nodeAt
  rw [List.getD_eq_getElem?_getD, List.getD_eq_getElem?_getD, List.getElem?_set]
  by_cases e : i = j
  · subst e; simp [hi]
  · have e' : ¬ j = i := fun h => e h.symm
    simp [e, e']

theorem nestCells_put {vs : List VN} {KV IV : Nat → Value} {i f : Nat} {x : VN} {u : Value} (hi : i < vs.length) (hf : f < 3) (h0 : Value.int .i64 x.kind = if f = 0 then u else .int .i64 (nodeAt vs i).kind) (h1 : Value.int .i64 x.n = if f = 1 then u else .int .i64 (nodeAt vs i).n) (h2 : Value.string x.s = if f = 2 then u else .string (nodeAt vs i).s) :
    nestCells (vs.set i x) KV IV = (nestCells vs KV IV).set (i * 5 + f) u := by
  apply List.ext_getElem
  · simp [nestCells]
  · intro j hj1 hj2
    rw [List.getElem_set]
    simp only [nestCells, List.getElem_map, List.getElem_range]
    unfold nestCell
    rw [nodeAt_set hi]
    by_cases e : j / 5 = i
    · rw [if_pos e, e]
      have ej : j = i * 5 + j % 5 := by omega
      have hr : j % 5 < 5 := by omega
      generalize j % 5 = r at ej hr
      subst ej
      match r, hr with
      | 0, _ => simp only [if_true]; rw [h0]; by_cases e2 : f = 0 <;> simp [e2]
      | 1, _ => simp; exact h1
      | 2, _ => simp; exact h2
      | 3, _ => simp; omega
      | 4, _ => simp; omega
    · have hne : ¬ i * 5 + f = j := by omega
      simp only [if_neg e, if_neg hne]

theorem Fine.put {c i : Nat} {vs : List VN} {x : VN} (h : Fine c vs) (hi : i < vs.length) (hk : x.keys = (nodeAt vs i).keys) (hd : x.kids = (nodeAt vs i).kids) (h1 : -9223372036854775808 ≤ x.kind ∧ x.kind ≤ 9223372036854775807) (h2 : -9223372036854775808 ≤ x.n ∧ x.n ≤ 9223372036854775807) (h3 : x.s.size ≤ 60) : Fine c (vs.set i x) := by
  have hl : (vs.set i x).length = vs.length := List.length_set ..
  refine ⟨by rw [hl]; exact h.1, by rw [hl]; exact h.2.1, fun j hj => ?_⟩
  rw [hl] at hj ⊢
  rw [nodeAt_set hi]
  by_cases e : j = i
  · rw [if_pos e]
    have hx := h.2.2 i hi
    exact ⟨by rw [hk]; exact hx.keysN, by rw [hk]; exact hx.keysS, by rw [hd]; exact hx.kidsN, by rw [hd]; exact hx.kids, h3, h1, h2⟩
  · rw [if_neg e]; exact h.2.2 j hj

end Go.Proofs.Ytnbhologgonjnaa
