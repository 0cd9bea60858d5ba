/-
  The specification's part of a value: nodes from the part's first on, in new memory.
-/
import Derived.Test.YtgikginlgjglfaaDoorAppS
import Derived.Test.YtgikginlgjglfaaDoorFlat
import Derived.Test.YtgikginlgjglfaaDoorSpc3
import Derived.Test.YtgikginlgjglfaaDoorVal
import Derived.Test.YtgikginlgjglfaaDoorTree
namespace Go.Proofs.YtgikginlgjglfaaDoor
open Go.RowKit
set_option linter.unusedSimpArgs false
set_option linter.unusedVariables false

theorem run_snoc (vs : List VN) (d : Int) (a n : Nat) : run vs d a (n + 1) = run vs d a n ++ [shiftN d (nodeAt vs (a + n))] := by
  rw [← run_append]; simp [run]

theorem own_below {w w' : World} {base e s n : Nat} {v : Value} {xs : List Value} {B : Nat} (h : w.ownsRow base e s v n xs) (hb : Below B w w') (hB : ∀ x, v.ownBlock = some x → x < B) : w'.ownsRow base e s v n xs := by
  refine ⟨h.1, ?_⟩
  rcases h.2 with hn | ⟨g, cap, cur, rfl, hg, hgg, rest⟩
  · exact .inl hn
  · exact .inr ⟨g, cap, cur, rfl, hg, (hb.block g (hB g rfl)).trans hgg, rest⟩

theorem Nest.below {base : Nat} {w w' : World} {v : Value} {vs : List VN} {KV IV : Nat → Value} (h : Nest base w v vs KV IV) (hb : Below w.heap.size w w') : Nest base w' v vs KV IV :=
  ⟨own_below h.row hb (fun x hx => (h.row.lt x hx).2), fun i hi => own_below (h.rk i hi) hb (fun x hx => ((h.rk i hi).lt x hx).2), fun i hi => own_below (h.ri i hi) hb (fun x hx => ((h.ri i hi).lt x hx).2), h.dkk, h.dii⟩

theorem newcell (w : World) (cs : Array Value) (t b j : Nat) (v : Value) (hb : b = w.heap.size) (h : cs[j]? = some v) : (w.alloc (.cells cs t)).cell? ⟨b, j, none⟩ = some v := by
  subst hb
  rw [cell_of_row _ _ j cs t (0, 0) (heap_alloc_new w _)]; exact h

theorem own_mono {w : World} {base base' e s n : Nat} {v : Value} {xs : List Value} (h : w.ownsRow base e s v n xs) (hb : base' ≤ base) : w.ownsRow base' e s v n xs := by
  refine ⟨h.1, ?_⟩
  rcases h.2 with hn | ⟨g, cap, cur, rfl, hg, rest⟩
  · exact .inl hn
  · exact .inr ⟨g, cap, cur, rfl, by omega, rest⟩

theorem own_set {w : World} {base e s n : Nat} {v : Value} {xs : List Value} (h : w.ownsRow base e s v n xs) {b o : Nat} (u : Value) (hne : ∀ x, v.ownBlock = some x → x ≠ b) : (w.setCell ⟨b, o, none⟩ u).ownsRow base e s v n xs := by
  refine ⟨h.1, ?_⟩
  rcases h.2 with hn | ⟨g, cap, cur, rfl, hg, hgg, rest⟩
  · exact .inl hn
  · exact .inr ⟨g, cap, cur, rfl, hg, (Below.heap_setCell w _ u g (hne g rfl)).trans hgg, rest⟩

def shifted (l : List Int) (d : Int) (k : Nat) : List Value := (l.take k).map (fun q => .int .i64 (q + d))
theorem shifted_zero (l : List Int) (d : Int) : shifted l d 0 = [] := by simp [shifted]
theorem shifted_succ {l : List Int} {d : Int} {k : Nat} (h : k < l.length) : shifted l d (k + 1) = shifted l d k ++ [.int .i64 (intAt l k + d)] := by
  unfold shifted
  rw [List.take_add_one, List.map_append, List.getElem?_eq_getElem h, intAt_get h]
  simp
theorem shifted_all (l : List Int) (d : Int) : shifted l d l.length = (l.map (· + d)).map (.int .i64) := by simp [shifted]

theorem own_slice {w : World} {base e s n : Nat} {v : Value} {xs : List Value} (h : w.ownsRow base e s v n xs) : ∃ a c, v = .slice a n c := by
  rcases h.2 with ⟨rfl, rfl⟩ | ⟨g, cap, cur, rfl, _⟩
  · exact ⟨_, _, rfl⟩
  · exact ⟨_, _, rfl⟩

end Go.Proofs.YtgikginlgjglfaaDoor

/-
  A part's nodes: plain mathematics.
-/
namespace Go.Proofs.YtgikginlgjglfaaDoor
open Go.RowKit
set_option linter.unusedSimpArgs false
set_option linter.unusedVariables false

/-- There is a part: the value is right, and n one of its nodes. -/
def partB (vs : List VN) (n : Int) : Bool := okB vs && inB n 0 ((vs.length : Int) - 1)

/-- The part's nodes. -/
def partOf (vs : List VN) (n : Nat) : List VN := run vs (-(trF (tr (kidsOf vs) n))) (trF (tr (kidsOf vs) n)).toNat (n + 1 - (trF (tr (kidsOf vs) n)).toNat)

theorem keys_few {vs : List VN} (h : okB vs = true) : ∀ k, k < vs.length → kidsIn vs k = true ∧ (nodeAt vs k).kids.length ≤ 80 ∧ (nodeAt vs k).keys.length ≤ 80 := by
  intro k hk
  obtain ⟨h1, h2, _, h4⟩ := okB_parts h
  have hn := h2 k hk
  have := h4 k hk
  refine ⟨hn.2, by omega, ?_⟩
  by_cases e : (nodeAt vs k).kind = 6
  · have hb := hn.1
    unfold nodeB namedB at hb
    simp [e] at hb
    omega
  · have hb := hn.1
    unfold nodeB unnamedB at hb
    simp [e] at hb
    have := hb.1.1.2
    simp [this]

theorem lay_part {vs : List VN} (hok : okB vs = true) {f m : Nat} (hf : m < f) (hm : m < vs.length) : layT f (treeOf vs f m) 0 = partOf vs m ∧ (partOf vs m).length ≤ 80 := by
  obtain ⟨p1, _, p3, _⟩ := okB_parts hok
  obtain ⟨⟨a0, h0⟩, htr⟩ := p3 m hm
  have e : partOf vs m = run vs (-(a0 : Int)) a0 (m + 1 - a0) := by rw [partOf, htr]; simp [trF]
  rw [← lay_tree, lay_run vs f m 0 a0 h0 hf htr, e]
  exact ⟨by simp, by rw [run_length]; omega⟩

/-- A part's nodes fit, and are few. -/
theorem part_fits {vs : List VN} (hok : okB vs = true) (hf : ∀ i, i < vs.length → Fits (nodeAt vs i)) {m : Nat} (hm : m < vs.length) : ∀ i, i < (partOf vs m).length → Fits (nodeAt (partOf vs m) i) ∧ (nodeAt (partOf vs m) i).keys.length ≤ 80 ∧ (nodeAt (partOf vs m) i).kids.length ≤ 80 := by
  obtain ⟨p1, p2, p3, p4⟩ := okB_parts hok
  obtain ⟨⟨a0, h0⟩, htr⟩ := p3 m hm
  have e : partOf vs m = run vs (-(a0 : Int)) a0 (m + 1 - a0) := by rw [partOf, htr]; simp [trF]
  rw [e]
  intro i hi
  rw [run_length] at hi
  have en : nodeAt (run vs (-(a0 : Int)) a0 (m + 1 - a0)) i = shiftN (-(a0 : Int)) (nodeAt vs (a0 + i)) := by
    unfold run
    conv => lhs; unfold nodeAt
    rw [List.getD_eq_getElem?_getD, List.getElem?_map, List.getElem?_range' (by omega)]
    simp [nodeAt]
  rw [en]
  have f := hf (a0 + i) (by omega)
  have kf := keys_few hok (a0 + i) (by omega)
  refine ⟨⟨f.keysN, f.keysS, by simpa [shiftN] using f.kidsN, fun j hj => ?_, f.size, f.klo, f.khi, f.nlo, f.nhi⟩, kf.2.2, by simpa [shiftN] using kf.2.1⟩
  have hj' : j < (nodeAt vs (a0 + i)).kids.length := by simpa [shiftN] using hj
  have hb := kidsIn_get kf.1 hj'
  have ei : intAt (shiftN (-(a0 : Int)) (nodeAt vs (a0 + i))).kids j = intAt (nodeAt vs (a0 + i)).kids j + -(a0 : Int) := by
    rw [intAt_get hj, intAt_get hj']; simp [shiftN]
  rw [ei]
  omega
end Go.Proofs.YtgikginlgjglfaaDoor
