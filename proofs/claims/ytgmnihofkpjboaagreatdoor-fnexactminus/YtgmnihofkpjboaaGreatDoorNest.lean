/-
  Nodes that were laid by appending: their row is own memory, and so are the rows of their keys and kids.
-/
import Derived.Test.YtgmnihofkpjboaaGreatDoorMarkM
import Derived.Deep.AppendLies
namespace Go.Proofs.YtgmnihofkpjboaaGreatDoor
open Go.RowKit
set_option linter.unusedSimpArgs false
set_option linter.unusedVariables false

def nestCell (vs : List VN) (KV IV : Nat → Value) (j : Nat) : Value :=
  if j % 5 = 0 then .int .i64 (nodeAt vs (j / 5)).kind
  else if j % 5 = 1 then .int .i64 (nodeAt vs (j / 5)).n
  else if j % 5 = 2 then .string (nodeAt vs (j / 5)).s
  else if j % 5 = 3 then KV (j / 5)
  else IV (j / 5)

def nestCells (vs : List VN) (KV IV : Nat → Value) : List Value := (List.range (vs.length * 5)).map (nestCell vs KV IV)

def upd (F : Nat → Value) (k : Nat) (v : Value) (i : Nat) : Value := if i = k then v else F i
theorem upd_same (F : Nat → Value) (k : Nat) (v : Value) : upd F k v k = v := if_pos rfl
theorem upd_other (F : Nat → Value) {k i : Nat} (v : Value) (h : i ≠ k) : upd F k v i = F i := if_neg h

theorem nodeAt_snoc_lt {vs : List VN} {x : VN} {i : Nat} (h : i < vs.length) : nodeAt (vs ++ [x]) i = nodeAt vs i := by
  unfold nodeAt; rw [List.getD_eq_getElem?_getD, List.getD_eq_getElem?_getD, List.getElem?_append_left h]
theorem nodeAt_snoc_end {vs : List VN} {x : VN} : nodeAt (vs ++ [x]) vs.length = x := by
  unfold nodeAt; rw [List.getD_eq_getElem?_getD]; simp

theorem nestCells_snoc (vs : List VN) (x : VN) (KV IV : Nat → Value) (kv iv : Value) :
    nestCells (vs ++ [x]) (upd KV vs.length kv) (upd IV vs.length iv) = nestCells vs KV IV ++ [.int .i64 x.kind, .int .i64 x.n, .string x.s, kv, iv] := by
  unfold nestCells
  rw [List.length_append, show (vs.length + [x].length) * 5 = vs.length * 5 + 5 by simp; omega, List.range_add, List.map_append]
  congr 1
  · apply List.map_congr_left
    intro j hj
    have hj' : j < vs.length * 5 := List.mem_range.1 hj
    unfold nestCell
    rw [nodeAt_snoc_lt (show j / 5 < vs.length by omega), upd_other _ _ (show j / 5 ≠ vs.length by omega), upd_other _ _ (show j / 5 ≠ vs.length by omega)]
  · have e0 : ∀ k, k < 5 → (vs.length * 5 + k) % 5 = k := fun k hk => by omega
    have e1 : ∀ k, k < 5 → (vs.length * 5 + k) / 5 = vs.length := fun k hk => by omega
    have r5 : List.range 5 = [0, 1, 2, 3, 4] := rfl
    rw [r5]
    simp only [List.map_cons, List.map_nil, nestCell, e0 0 (by omega), e0 1 (by omega), e0 2 (by omega), e0 3 (by omega), e0 4 (by omega), e1 0 (by omega), e1 1 (by omega), e1 2 (by omega), e1 3 (by omega), e1 4 (by omega), nodeAt_snoc_end, upd_same]
    simp

/-- Two own rows of unlike types lie apart. -/
theorem own_apart {w : World} {b b' e e' s s' n n' : Nat} {v v' : Value} {xs xs' : List Value} (h : w.ownsRow b e s v n xs) (h' : w.ownsRow b' e' s' v' n' xs') (hne : e ≠ e') : v.ownBlock = none ∨ v.ownBlock ≠ v'.ownBlock := by
  rcases h.2 with ⟨rfl, _⟩ | ⟨g, cap, cur, rfl, _, hg, _⟩
  · exact Or.inl rfl
  · right
    rcases h'.2 with ⟨rfl, _⟩ | ⟨g', cap', cur', rfl, _, hg', _⟩
    · simp [Value.ownBlock]
    · intro e
      have e2 : g = g' := by simpa [Value.ownBlock] using e
      subst e2
      rw [hg] at hg'
      simp at hg'
      exact hne hg'.2

structure Nest (base : Nat) (w : World) (v : Value) (vs : List VN) (KV IV : Nat → Value) : Prop where
  row : w.ownsRow base 37 5 v vs.length (nestCells vs KV IV)
  rk : ∀ i, i < vs.length → w.ownsRow base 9 1 (KV i) (nodeAt vs i).keys.length ((nodeAt vs i).keys.map .string)
  ri : ∀ i, i < vs.length → w.ownsRow base 2 1 (IV i) (nodeAt vs i).kids.length ((nodeAt vs i).kids.map (.int .i64))
  dkk : ∀ i j, i < vs.length → j < vs.length → i ≠ j → ∀ x, (KV i).ownBlock = some x → (KV j).ownBlock ≠ some x
  dii : ∀ i j, i < vs.length → j < vs.length → i ≠ j → ∀ x, (IV i).ownBlock = some x → (IV j).ownBlock ≠ some x

theorem Nest.nil (base : Nat) (w : World) (KV IV : Nat → Value) : Nest base w (.slice none 0 0) [] KV IV :=
  ⟨World.ownsRow_nil _ _ _ _, fun i hi => absurd hi (by simp), fun i hi => absurd hi (by simp), fun i j hi => absurd hi (by simp), fun i j hi => absurd hi (by simp)⟩

theorem Nest.kept {base : Nat} {w w' : World} {v : Value} {vs : List VN} {KV IV : Nat → Value} {row : Option Nat} (h : Nest base w v vs KV IV) (hg : w.grownBy w' row) (hv : v.ownBlock = none ∨ v.ownBlock ≠ row)
    (hk : ∀ i, i < vs.length → (KV i).ownBlock = none ∨ (KV i).ownBlock ≠ row) (hi : ∀ i, i < vs.length → (IV i).ownBlock = none ∨ (IV i).ownBlock ≠ row) : Nest base w' v vs KV IV :=
  ⟨h.row.kept hg hv, fun i hi' => (h.rk i hi').kept hg (hk i hi'), fun i hi' => (h.ri i hi').kept hg (hi i hi'), h.dkk, h.dii⟩

/-- One node more. -/
theorem Nest.snoc {base : Nat} {w w' : World} {v v' : Value} {vs : List VN} {KV IV : Nat → Value} {x : VN} {kv iv : Value} (h : Nest base w v vs KV IV)
    (hk : w.ownsRow base 9 1 kv x.keys.length (x.keys.map .string)) (hi : w.ownsRow base 2 1 iv x.kids.length (x.kids.map (.int .i64)))
    (fk : ∀ i, i < vs.length → ∀ y, kv.ownBlock = some y → (KV i).ownBlock ≠ some y) (fi : ∀ i, i < vs.length → ∀ y, iv.ownBlock = some y → (IV i).ownBlock ≠ some y)
    (hown : w'.ownsRow base 37 5 v' (vs.length + 1) (nestCells vs KV IV ++ [.int .i64 x.kind, .int .i64 x.n, .string x.s, kv, iv])) (hg : w.grownBy w' v.ownBlock) :
    Nest base w' v' (vs ++ [x]) (upd KV vs.length kv) (upd IV vs.length iv) := by
  refine ⟨?_, fun i hi' => ?_, fun i hi' => ?_, fun i j hi' hj' e y => ?_, fun i j hi' hj' e y => ?_⟩
  · rw [nestCells_snoc]; simpa using hown
  · by_cases e : i = vs.length
    · subst e; rw [upd_same, nodeAt_snoc_end]; exact hk.kept hg (own_apart hk h.row (by decide))
    · have hl : i < vs.length := by simp at hi'; omega
      rw [upd_other _ _ e, nodeAt_snoc_lt hl]; exact (h.rk i hl).kept hg (own_apart (h.rk i hl) h.row (by decide))
  · by_cases e : i = vs.length
    · subst e; rw [upd_same, nodeAt_snoc_end]; exact hi.kept hg (own_apart hi h.row (by decide))
    · have hl : i < vs.length := by simp at hi'; omega
      rw [upd_other _ _ e, nodeAt_snoc_lt hl]; exact (h.ri i hl).kept hg (own_apart (h.ri i hl) h.row (by decide))
  · simp at hi' hj'
    by_cases e1 : i = vs.length
    · subst e1
      rw [upd_same, upd_other _ _ (fun e2 => e e2.symm)]
      exact fk j (by omega) y
    · by_cases e2 : j = vs.length
      · subst e2
        rw [upd_same, upd_other _ _ e1]
        intro h1 h2
        exact fk i (by omega) y h2 h1
      · rw [upd_other _ _ e1, upd_other _ _ e2]
        exact h.dkk i j (by omega) (by omega) e y
  · simp at hi' hj'
    by_cases e1 : i = vs.length
    · subst e1
      rw [upd_same, upd_other _ _ (fun e2 => e e2.symm)]
      exact fi j (by omega) y
    · by_cases e2 : j = vs.length
      · subst e2
        rw [upd_same, upd_other _ _ e1]
        intro h1 h2
        exact fi i (by omega) y h2 h1
      · rw [upd_other _ _ e1, upd_other _ _ e2]
        exact h.dii i j (by omega) (by omega) e y

theorem nestCells_get (vs : List VN) (KV IV : Nat → Value) {j : Nat} (h : j < vs.length * 5) : (nestCells vs KV IV)[j]? = some (nestCell vs KV IV j) := by
  unfold nestCells; rw [List.getElem?_map, List.getElem?_range h]; rfl

theorem own_strs {base : Nat} {w : World} {v : Value} {l : List ByteArray} (h : w.ownsRow base 9 1 v l.length (l.map .string)) (h1 : l.length ≤ 8796093022208) (h2 : ∀ i, i < l.length → (keyAt l i).size ≤ 140737488355328) : StrsAt w.heap.size w v l := by
  refine ⟨h1, h2, ?_⟩
  rcases Nat.eq_zero_or_pos l.length with e | e
  · rcases h.2 with ⟨rfl, _⟩ | ⟨g, cap, cur, rfl, _⟩
    · exact ⟨none, 0, by rw [e], fun hp => by omega⟩
    · exact ⟨_, cap, rfl, fun hp => by omega⟩
  · obtain ⟨g, cap, rfl, _, hlt⟩ := h.form e
    refine ⟨_, cap, rfl, fun _ => ⟨g, 0, rfl, hlt, fun i hi => ?_⟩⟩
    rw [Nat.zero_add, h.cellAt i (by omega)]
    simp [keyAt, hi]

theorem own_ints {base : Nat} {w : World} {v : Value} {l : List Int} (h : w.ownsRow base 2 1 v l.length (l.map (.int .i64))) (h1 : l.length ≤ 17592186044416) (h2 : ∀ i, i < l.length → -9223372036854775808 ≤ intAt l i ∧ intAt l i ≤ 9223372036854775807) : IntsAt w.heap.size w v l := by
  refine ⟨h1, h2, ?_⟩
  rcases Nat.eq_zero_or_pos l.length with e | e
  · rcases h.2 with ⟨rfl, _⟩ | ⟨g, cap, cur, rfl, _⟩
    · exact ⟨none, 0, by rw [e], fun hp => by omega⟩
    · exact ⟨_, cap, rfl, fun hp => by omega⟩
  · obtain ⟨g, cap, rfl, _, hlt⟩ := h.form e
    refine ⟨_, cap, rfl, fun _ => ⟨g, 0, rfl, hlt, fun i hi => ?_⟩⟩
    rw [Nat.zero_add, h.cellAt i (by omega)]
    simp [intAt, hi]

theorem Nest.nodes {base : Nat} {w : World} {v : Value} {vs : List VN} {KV IV : Nat → Value} (h : Nest base w v vs KV IV) (hn : vs.length ≤ 1759218604416) (hf : ∀ i, i < vs.length → Fits (nodeAt vs i)) : NodesAt w.heap.size w v vs := by
  refine ⟨hn, ?_⟩
  rcases Nat.eq_zero_or_pos vs.length with e | e
  · rcases h.row.2 with ⟨rfl, _⟩ | ⟨g, cap, cur, rfl, _⟩
    · exact ⟨none, 0, by rw [e], fun hp => by omega⟩
    · exact ⟨_, cap, rfl, fun hp => by omega⟩
  · obtain ⟨g, cap, rfl, _, hlt⟩ := h.row.form e
    refine ⟨_, cap, rfl, fun _ => ⟨g, 0, rfl, hlt, fun i hi => ⟨KV i, IV i, ?_⟩⟩⟩
    have f := hf i hi
    have q : ∀ k, k < 5 → (i * 5 + k) % 5 = k ∧ (i * 5 + k) / 5 = i := fun k hk => by omega
    have q0 := q 0 (by omega)
    rw [Nat.add_zero] at q0
    rw [Nat.zero_add]
    refine ⟨?_, ?_, ?_, ?_, ?_, ⟨own_strs (h.rk i hi) f.keysN f.keysS, own_ints (h.ri i hi) f.kidsN f.kidsB, f.size, f.klo, f.khi, f.nlo, f.nhi⟩⟩
    · rw [h.row.cellAt _ (by omega), nestCells_get _ _ _ (by omega), nestCell, q0.1, q0.2]; rfl
    · rw [h.row.cellAt _ (by omega), nestCells_get _ _ _ (by omega), nestCell, (q 1 (by omega)).1, (q 1 (by omega)).2]; rfl
    · rw [h.row.cellAt _ (by omega), nestCells_get _ _ _ (by omega), nestCell, (q 2 (by omega)).1, (q 2 (by omega)).2]; rfl
    · rw [h.row.cellAt _ (by omega), nestCells_get _ _ _ (by omega), nestCell, (q 3 (by omega)).1, (q 3 (by omega)).2]; rfl
    · rw [h.row.cellAt _ (by omega), nestCells_get _ _ _ (by omega), nestCell, (q 4 (by omega)).1, (q 4 (by omega)).2]; rfl

theorem own_wrow {base e s g n cap : Nat} {w : World} {xs : List Value} (h : w.ownsRow base e s (.slice (some ⟨g, 0, none⟩) n cap) n xs) : WRow w g (n * s) := by
  intro j hj
  refine ⟨⟨xs[j]'(by have := h.1; omega), ?_⟩, h.frozenAt j⟩
  rw [h.cellAt j hj, List.getElem?_eq_getElem]

theorem Nest.marky {base g cap : Nat} {w : World} {vs : List VN} {KV IV : Nat → Value} (h : Nest base w (.slice (some ⟨g, 0, none⟩) vs.length cap) vs KV IV) (hn : vs.length ≤ 1048576) (hk : ∀ i, i < vs.length → (nodeAt vs i).keys.length ≤ 1048576 ∧ (nodeAt vs i).kids.length ≤ 1048576) :
    Marky base w g vs.length (fun i => (nodeAt vs i).keys.length) (fun i => (nodeAt vs i).kids.length) (fun i => ((KV i).ownBlock).getD 0) (fun i => ((IV i).ownBlock).getD 0) := by
  have hl := h.row.lt g rfl
  have q : ∀ i k, k < 5 → (i * 5 + k) % 5 = k ∧ (i * 5 + k) / 5 = i := fun i k hk => by omega
  have fk : ∀ i, i < vs.length → 0 < (nodeAt vs i).keys.length → ∃ y c, KV i = .slice (some ⟨y, 0, none⟩) (nodeAt vs i).keys.length c ∧ base ≤ y ∧ y < w.heap.size := fun i hi hp => (h.rk i hi).form hp
  have fi : ∀ i, i < vs.length → 0 < (nodeAt vs i).kids.length → ∃ y c, IV i = .slice (some ⟨y, 0, none⟩) (nodeAt vs i).kids.length c ∧ base ≤ y ∧ y < w.heap.size := fun i hi hp => (h.ri i hi).form hp
  refine ⟨hl.1, hl.2, hn, own_wrow h.row, hk, fun i hi => ?_, fun i hi => ?_, fun i hi => ⟨fun hp => ?_, fun hp => ?_⟩, fun i j hi hj e hp hp' => ?_, fun i j hi hj hp hp' => ?_, fun i j hi hj e hp hp' => ?_⟩
  · have hc : w.cell? ⟨g, i * 5 + 3, none⟩ = some (KV i) := by
      rw [h.row.cellAt _ (by omega), nestCells_get _ _ _ (by omega), nestCell, (q i 3 (by omega)).1, (q i 3 (by omega)).2]; rfl
    rcases Nat.eq_zero_or_pos (nodeAt vs i).keys.length with e | e
    · rcases (h.rk i hi).2 with ⟨ek, _⟩ | ⟨y, c, cur, ek, _⟩
      · exact ⟨none, 0, by rw [hc, ek, e], fun hp => by omega⟩
      · exact ⟨_, c, by rw [hc, ek], fun hp => by omega⟩
    · obtain ⟨y, c, ek, h1, h2⟩ := fk i hi e
      have hr := h.rk i hi
      rw [ek] at hr
      refine ⟨_, c, by rw [hc, ek], fun _ => ?_⟩
      rw [ek]
      exact ⟨rfl, h1, h2, by have := own_wrow hr; simpa [Value.ownBlock] using this⟩
  · have hc : w.cell? ⟨g, i * 5 + 4, none⟩ = some (IV i) := by
      rw [h.row.cellAt _ (by omega), nestCells_get _ _ _ (by omega), nestCell, (q i 4 (by omega)).1, (q i 4 (by omega)).2]; rfl
    rcases Nat.eq_zero_or_pos (nodeAt vs i).kids.length with e | e
    · rcases (h.ri i hi).2 with ⟨ek, _⟩ | ⟨y, c, cur, ek, _⟩
      · exact ⟨none, 0, by rw [hc, ek, e], fun hp => by omega⟩
      · exact ⟨_, c, by rw [hc, ek], fun hp => by omega⟩
    · obtain ⟨y, c, ek, h1, h2⟩ := fi i hi e
      have hr := h.ri i hi
      rw [ek] at hr
      refine ⟨_, c, by rw [hc, ek], fun _ => ?_⟩
      rw [ek]
      exact ⟨rfl, h1, h2, by have := own_wrow hr; simpa [Value.ownBlock] using this⟩
  · obtain ⟨y, c, ek, _⟩ := fk i hi hp
    have := own_apart (h.rk i hi) h.row (by decide)
    rw [ek] at this ⊢
    simpa [Value.ownBlock] using this
  · obtain ⟨y, c, ek, _⟩ := fi i hi hp
    have := own_apart (h.ri i hi) h.row (by decide)
    rw [ek] at this ⊢
    simpa [Value.ownBlock] using this
  · obtain ⟨y, c, ek, _⟩ := fk i hi hp
    obtain ⟨y', c', ek', _⟩ := fk j hj hp'
    have := h.dkk i j hi hj e y (by rw [ek]; rfl)
    rw [ek'] at this
    simp only [ek, ek']
    intro e2
    exact this (by simp [Value.ownBlock] at e2 ⊢; exact e2.symm)
  · obtain ⟨y, c, ek, _⟩ := fk i hi hp
    obtain ⟨y', c', ek', _⟩ := fi j hj hp'
    have := own_apart (h.rk i hi) (h.ri j hj) (by decide)
    rw [ek, ek'] at this
    simp only [ek, ek']
    simpa [Value.ownBlock] using this
  · obtain ⟨y, c, ek, _⟩ := fi i hi hp
    obtain ⟨y', c', ek', _⟩ := fi j hj hp'
    have := h.dii i j hi hj e y (by rw [ek]; rfl)
    rw [ek'] at this
    simp only [ek, ek']
    intro e2
    exact this (by simp [Value.ownBlock] at e2 ⊢; exact e2.symm)
end Go.Proofs.YtgmnihofkpjboaaGreatDoor
