/-
  The specification's part of a value: nodes from the part's first on, in new memory.
-/
import Derived.Test.YtgmnihofkpjboaaDoorAppS
import Derived.Test.YtgmnihofkpjboaaDoorFlat
import Derived.Test.YtgmnihofkpjboaaDoorSpc3
import Derived.Test.YtgmnihofkpjboaaDoorVal
namespace Go.Proofs.YtgmnihofkpjboaaDoor
open Go.RowKit
set_option linter.unusedSimpArgs false
set_option linter.unusedVariables false

theorem run_snoc (vs : List VN) (d : Int) (a n : Nat) : run vs d a (n + 1) = run vs d a n ++ [shiftN d (nodeAt vs (a + n))] := by
  rw [← run_append]; simp [run]

theorem own_below {w w' : World} {base e s n : Nat} {v : Value} {xs : List Value} {B : Nat} (h : w.ownsRow base e s v n xs) (hb : Below B w w') (hB : ∀ x, v.ownBlock = some x → x < B) : w'.ownsRow base e s v n xs := by
  refine ⟨h.1, ?_⟩
  rcases h.2 with hn | ⟨g, cap, cur, rfl, hg, hgg, rest⟩
  · exact .inl hn
  · exact .inr ⟨g, cap, cur, rfl, hg, (hb.block g (hB g rfl)).trans hgg, rest⟩

theorem Nest.below {base : Nat} {w w' : World} {v : Value} {vs : List VN} {KV IV : Nat → Value} (h : Nest base w v vs KV IV) (hb : Below w.heap.size w w') : Nest base w' v vs KV IV :=
  ⟨own_below h.row hb (fun x hx => (h.row.lt x hx).2), fun i hi => own_below (h.rk i hi) hb (fun x hx => ((h.rk i hi).lt x hx).2), fun i hi => own_below (h.ri i hi) hb (fun x hx => ((h.ri i hi).lt x hx).2), h.dkk, h.dii⟩

theorem newcell (w : World) (cs : Array Value) (t b j : Nat) (v : Value) (hb : b = w.heap.size) (h : cs[j]? = some v) : (w.alloc (.cells cs t)).cell? ⟨b, j, none⟩ = some v := by
  subst hb
  rw [cell_of_row _ _ j cs t (0, 0) (heap_alloc_new w _)]; exact h

theorem own_mono {w : World} {base base' e s n : Nat} {v : Value} {xs : List Value} (h : w.ownsRow base e s v n xs) (hb : base' ≤ base) : w.ownsRow base' e s v n xs := by
  refine ⟨h.1, ?_⟩
  rcases h.2 with hn | ⟨g, cap, cur, rfl, hg, rest⟩
  · exact .inl hn
  · exact .inr ⟨g, cap, cur, rfl, by omega, rest⟩

theorem own_set {w : World} {base e s n : Nat} {v : Value} {xs : List Value} (h : w.ownsRow base e s v n xs) {b o : Nat} (u : Value) (hne : ∀ x, v.ownBlock = some x → x ≠ b) : (w.setCell ⟨b, o, none⟩ u).ownsRow base e s v n xs := by
  refine ⟨h.1, ?_⟩
  rcases h.2 with hn | ⟨g, cap, cur, rfl, hg, hgg, rest⟩
  · exact .inl hn
  · exact .inr ⟨g, cap, cur, rfl, hg, (Below.heap_setCell w _ u g (hne g rfl)).trans hgg, rest⟩

def shifted (l : List Int) (d : Int) (k : Nat) : List Value := (l.take k).map (fun q => .int .i64 (q + d))
theorem shifted_zero (l : List Int) (d : Int) : shifted l d 0 = [] := by simp [shifted]
theorem shifted_succ {l : List Int} {d : Int} {k : Nat} (h : k < l.length) : shifted l d (k + 1) = shifted l d k ++ [.int .i64 (intAt l k + d)] := by
  unfold shifted
  rw [List.take_add_one, List.map_append, List.getElem?_eq_getElem h, intAt_get h]
  simp
theorem shifted_all (l : List Int) (d : Int) : shifted l d l.length = (l.map (· + d)).map (.int .i64) := by simp [shifted]

theorem own_slice {w : World} {base e s n : Nat} {v : Value} {xs : List Value} (h : w.ownsRow base e s v n xs) : ∃ a c, v = .slice a n c := by
  rcases h.2 with ⟨rfl, rfl⟩ | ⟨g, cap, cur, rfl, _⟩
  · exact ⟨_, _, rfl⟩
  · exact ⟨_, _, rfl⟩

end Go.Proofs.YtgmnihofkpjboaaDoor
