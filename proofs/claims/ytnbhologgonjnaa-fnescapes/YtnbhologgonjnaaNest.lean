/-
  Nodes that were laid by appending: their row is own memory, and so are the rows of their keys and kids.
-/
import Derived.Test.YtnbhologgonjnaaMarkM
import Derived.Deep.AppendLies
namespace Go.Proofs.Ytnbhologgonjnaa
open Go.RowKit
set_option linter.unusedSimpArgs false
set_option linter.unusedVariables false

def nestCell (vs : List VN) (KV IV : Nat → Value) (j : Nat) : Value :=
  if j % 5 = 0 then .int .i64 (nodeAt vs (j / 5)).kind
  else if j % 5 = 1 then .int .i64 (nodeAt vs (j / 5)).n
  else if j % 5 = 2 then .string (nodeAt vs (j / 5)).s
  else if j % 5 = 3 then KV (j / 5)
  else IV (j / 5)

def nestCells (vs : List VN) (KV IV : Nat → Value) : List Value := (List.range (vs.length * 5)).map (nestCell vs KV IV)

def upd (F : Nat → Value) (k : Nat) (v : Value) (i : Nat) : Value := if i = k then v else F i
theorem upd_same (F : Nat → Value) (k : Nat) (v : Value) : upd F k v k = v := if_pos rfl
theorem upd_other (F : Nat → Value) {k i : Nat} (v : Value) (h : i ≠ k) : upd F k v i = F i := if_neg h

theorem nodeAt_snoc_lt {vs : List VN} {x : VN} {i : Nat} (h : i < vs.length) : nodeAt (vs ++ [x]) i = nodeAt vs i := by
  unfold nodeAt; rw [List.getD_eq_getElem?_getD, List.getD_eq_getElem?_getD, List.getElem?_append_left h]
theorem nodeAt_snoc_end {vs : List VN} {x : VN} : nodeAt (vs ++ [x]) vs.length = x := by
  unfold nodeAt; rw [List.getD_eq_getElem?_getD]; simp

theorem nestCells_snoc (vs : List VN) (x : VN) (KV IV : Nat → Value) (kv iv : Value) :
    nestCells (vs ++ [x]) (upd KV vs.length kv) (upd IV vs.length iv) = nestCells vs KV IV ++ [.int .i64 x.kind, .int .i64 x.n, .string x.s, kv, iv] := by
  unfold nestCells
  rw [List.length_append, show (vs.length + [x].length) * 5 = vs.length * 5 + 5 by simp; omega, List.range_add, List.map_append]
  congr 1
  · apply List.map_congr_left
    intro j hj
    have hj' : j < vs.length * 5 := List.mem_range.1 hj
    unfold nestCell
    rw [nodeAt_snoc_lt (show j / 5 < vs.length by omega), upd_other _ _ (show j / 5 ≠ vs.length by omega), upd_other _ _ (show j / 5 ≠ vs.length by omega)]
  · have e0 : ∀ k, k < 5 → (vs.length * 5 + k) % 5 = k := fun k hk => by omega
    have e1 : ∀ k, k < 5 → (vs.length * 5 + k) / 5 = vs.length := fun k hk => by omega
    have r5 : List.range 5 = [0, 1, 2, 3, 4] := rfl
    rw [r5]
    simp only [List.map_cons, List.map_nil, nestCell, e0 0 (by omega), e0 1 (by omega), e0 2 (by omega), e0 3 (by omega), e0 4 (by omega), e1 0 (by omega), e1 1 (by omega), e1 2 (by omega), e1 3 (by omega), e1 4 (by omega), nodeAt_snoc_end, upd_same]
    simp

/-- Two own rows of unlike types lie apart. -/
theorem own_apart {w : World} {b b' e e' s s' n n' : Nat} {v v' : Value} {xs xs' : List Value} (h : w.ownsRow b e s v n xs) (h' : w.ownsRow b' e' s' v' n' xs') (hne : e ≠ e') : v.ownBlock = none ∨ v.ownBlock ≠ v'.ownBlock := by
  rcases h.2 with ⟨rfl, _⟩ | ⟨g, cap, cur, rfl, _, hg, _⟩
  · exact Or.inl rfl
  · right
    rcases h'.2 with ⟨rfl, _⟩ | ⟨g', cap', cur', rfl, _, hg', _⟩
    · simp [Value.ownBlock]
    · intro e
      have e2 : g = g' := by simpa [Value.ownBlock] using e
      subst e2
      rw [hg] at hg'
      simp at hg'
      exact hne hg'.2

theorem nestCells_get (vs : List VN) (KV IV : Nat → Value) {j : Nat} (h : j < vs.length * 5) : (nestCells vs KV IV)[j]? = some (nestCell vs KV IV j) := by
  unfold nestCells; rw [List.getElem?_map, List.getElem?_range h]; rfl

theorem own_strs {base : Nat} {w : World} {v : Value} {l : List ByteArray} (h : w.ownsRow base 9 1 v l.length (l.map .string)) (h1 : l.length ≤ 8796093022208) (h2 : ∀ i, i < l.length → (keyAt l i).size ≤ 140737488355328) : StrsAt w.heap.size w v l := by
  refine ⟨h1, h2, ?_⟩
  rcases Nat.eq_zero_or_pos l.length with e | e
  · rcases h.2 with ⟨rfl, _⟩ | ⟨g, cap, cur, rfl, _⟩
    · exact ⟨none, 0, by rw [e], fun hp => by omega⟩
    · exact ⟨_, cap, rfl, fun hp => by omega⟩
  · obtain ⟨g, cap, rfl, _, hlt⟩ := h.form e
    refine ⟨_, cap, rfl, fun _ => ⟨g, 0, rfl, hlt, fun i hi => ?_⟩⟩
    rw [Nat.zero_add, h.cellAt i (by omega)]
    simp [keyAt, hi]

theorem own_ints {base : Nat} {w : World} {v : Value} {l : List Int} (h : w.ownsRow base 2 1 v l.length (l.map (.int .i64))) (h1 : l.length ≤ 17592186044416) (h2 : ∀ i, i < l.length → -9223372036854775808 ≤ intAt l i ∧ intAt l i ≤ 9223372036854775807) : IntsAt w.heap.size w v l := by
  refine ⟨h1, h2, ?_⟩
  rcases Nat.eq_zero_or_pos l.length with e | e
  · rcases h.2 with ⟨rfl, _⟩ | ⟨g, cap, cur, rfl, _⟩
    · exact ⟨none, 0, by rw [e], fun hp => by omega⟩
    · exact ⟨_, cap, rfl, fun hp => by omega⟩
  · obtain ⟨g, cap, rfl, _, hlt⟩ := h.form e
    refine ⟨_, cap, rfl, fun _ => ⟨g, 0, rfl, hlt, fun i hi => ?_⟩⟩
    rw [Nat.zero_add, h.cellAt i (by omega)]
    simp [intAt, hi]

theorem own_wrow {base e s g n cap : Nat} {w : World} {xs : List Value} (h : w.ownsRow base e s (.slice (some ⟨g, 0, none⟩) n cap) n xs) : WRow w g (n * s) := by
  intro j hj
  refine ⟨⟨xs[j]'(by have := h.1; omega), ?_⟩, h.frozenAt j⟩
  rw [h.cellAt j hj, List.getElem?_eq_getElem]

end Go.Proofs.Ytnbhologgonjnaa
