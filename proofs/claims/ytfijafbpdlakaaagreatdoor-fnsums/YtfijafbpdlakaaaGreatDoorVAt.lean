/-
  Rows of rows of nodes: how they lie, laid by appending. No walk.
-/
import Derived.Test.YtfijafbpdlakaaaGreatDoorSPart
import Derived.Maps.Range
import Derived.Test.YtfijafbpdlakaaaGreatDoorSpc2
import Derived.Test.YtfijafbpdlakaaaGreatDoorVal
namespace Go.Proofs.YtfijafbpdlakaaaGreatDoor
open Go.RowKit
set_option linter.unusedSimpArgs false
set_option linter.unusedVariables false

/-- All blocks from base on are as they were. -/
def From (base : Nat) (w w' : World) : Prop := w.heap.size ≤ w'.heap.size ∧ ∀ c, base ≤ c → c < w.heap.size → w'.heap[c]? = w.heap[c]?
theorem From.below {base : Nat} {a w w' : World} (h : From base a w) (hb : Below w.heap.size w w') : From base a w' :=
  ⟨Nat.le_trans h.1 hb.size, fun c h1 h2 => (hb.block c (by have := h.1; omega)).trans (h.2 c h1 h2)⟩
theorem From.only {base : Nat} {P : Nat → Prop} {a w w' : World} (h : From base a w) (ho : Only P w w') (hP : ∀ c, P c → c < base) : From base a w' :=
  ⟨Nat.le_trans h.1 ho.1, fun c h1 h2 => (ho.2 c (by have := h.1; omega) (fun p => by have := hP c p; omega)).trans (h.2 c h1 h2)⟩
theorem From.refl (base : Nat) (w : World) : From base w w := ⟨Nat.le_refl _, fun _ _ _ => rfl⟩
theorem From.mono {base base' : Nat} {w w' : World} (h : From base w w') (hb : base ≤ base') : From base' w w' := ⟨h.1, fun c h1 h2 => h.2 c (by omega) h2⟩

theorem own_from {w w' : World} {base e s n : Nat} {v : Value} {xs : List Value} (h : w.ownsRow base e s v n xs) (hf : From base w w') : w'.ownsRow base e s v n xs := by
  refine ⟨h.1, ?_⟩
  rcases h.2 with hn | ⟨g, cap, cur, rfl, hg, hgg, rest⟩
  · exact .inl hn
  · exact .inr ⟨g, cap, cur, rfl, hg, (hf.2 g hg (h.lt g rfl).2).trans hgg, rest⟩

theorem Nest.from {base : Nat} {w w' : World} {v : Value} {vs : List VN} {KV IV : Nat → Value} (h : Nest base w v vs KV IV) (hf : From base w w') : Nest base w' v vs KV IV :=
  ⟨own_from h.row hf, fun i hi => own_from (h.rk i hi) hf, fun i hi => own_from (h.ri i hi) hf, h.dkk, h.dii⟩

def blk (v : Value) : Nat := (v.ownBlock).getD 0
def knOf (vs : List VN) (i : Nat) : Nat := (nodeAt vs i).keys.length
def inOf (vs : List VN) (i : Nat) : Nat := (nodeAt vs i).kids.length

/-- Few nodes, with few keys and kids. -/
def Few (vs : List VN) : Prop := vs.length ≤ 80 ∧ ∀ i, i < vs.length → (nodeAt vs i).keys.length ≤ 80 ∧ (nodeAt vs i).kids.length ≤ 80

/-- A Nest, ready to be marked. -/
theorem Nest.mark {base : Nat} {w : World} {a : Option Addr} {n c : Nat} {vs : List VN} {KV IV : Nat → Value} (h : Nest base w (.slice a n c) vs KV IV) (hl : vs.length = n) (hf : Few vs) :
    0 < n → a = some ⟨blk (.slice a n c), 0, none⟩ ∧ Marky base w (blk (.slice a n c)) n (knOf vs) (inOf vs) (fun i => blk (KV i)) (fun i => blk (IV i)) := by
  subst hl
  intro hp
  obtain ⟨g, cap, e, _⟩ := h.row.form hp
  cases e
  exact ⟨rfl, Nest.marky h (by have := hf.1; omega) (fun i hi => by have := hf.2 i hi; omega)⟩

/-- The blocks of a Nest. -/
def InNest (r : Value) (n : Nat) (K I : Nat → Value) (x : Nat) : Prop := r.ownBlock = some x ∨ ∃ j, j < n ∧ ((K j).ownBlock = some x ∨ (I j).ownBlock = some x)

theorem Nest.inn {base : Nat} {w : World} {v : Value} {vs : List VN} {KV IV : Nat → Value} (h : Nest base w v vs KV IV) {x : Nat} (hx : InNest v vs.length KV IV x) : base ≤ x ∧ x < w.heap.size := by
  rcases hx with hx | ⟨j, hj, hx | hx⟩
  · exact h.row.lt x hx
  · exact (h.rk j hj).lt x hx
  · exact (h.ri j hj).lt x hx

theorem blk_of {w : World} {base e s n : Nat} {v : Value} {xs : List Value} (h : w.ownsRow base e s v n xs) (hn : 0 < n) : v.ownBlock = some (blk v) := by
  obtain ⟨g, cap, rfl, _⟩ := h.form hn
  rfl

theorem Nest.marked {base : Nat} {w : World} {v : Value} {vs : List VN} {KV IV : Nat → Value} (h : Nest base w v vs KV IV) {x : Nat} (hx : Marked (blk v) vs.length (knOf vs) (inOf vs) (fun i => blk (KV i)) (fun i => blk (IV i)) x) : InNest v vs.length KV IV x := by
  obtain ⟨hp, rfl | ⟨i, hi, ⟨hk, rfl⟩ | ⟨hk, rfl⟩⟩⟩ := hx
  · exact Or.inl (blk_of h.row hp)
  · exact Or.inr ⟨i, hi, Or.inl (blk_of (h.rk i hi) hk)⟩
  · exact Or.inr ⟨i, hi, Or.inr (blk_of (h.ri i hi) hk)⟩

/-- A row of slices lies apart from a Nest. -/
theorem Nest.far {base base' : Nat} {w : World} {v r : Value} {n : Nat} {xs : List Value} {vs : List VN} {KV IV : Nat → Value} (h : Nest base w v vs KV IV) (hr : w.ownsRow base' 24 1 r n xs) {x : Nat} (hx : InNest v vs.length KV IV x) : r.ownBlock ≠ some x := by
  intro e
  rcases hx with hx | ⟨j, hj, hx | hx⟩
  · rcases own_apart hr h.row (by decide) with e2 | e2
    · rw [e] at e2; cases e2
    · exact e2 (e.trans hx.symm)
  · rcases own_apart hr (h.rk j hj) (by decide) with e2 | e2
    · rw [e] at e2; cases e2
    · exact e2 (e.trans hx.symm)
  · rcases own_apart hr (h.ri j hj) (by decide) with e2 | e2
    · rw [e] at e2; cases e2
    · exact e2 (e.trans hx.symm)

def updF {α : Type} (F : Nat → α) (k : Nat) (v : α) (i : Nat) : α := if i = k then v else F i
theorem updF_same {α : Type} (F : Nat → α) (k : Nat) (v : α) : updF F k v k = v := if_pos rfl
theorem updF_other {α : Type} (F : Nat → α) {k i : Nat} (v : α) (h : i ≠ k) : updF F k v i = F i := if_neg h

structure Rows2 (base : Nat) (w : World) (v : Value) (m : Nat) (L : Nat → List VN) (rs : Nat → Value) (KV IV : Nat → Nat → Value) (lo : Nat → Nat) : Prop where
  row : w.ownsRow base 24 1 v m ((List.range m).map rs)
  nest : ∀ i, i < m → Nest (lo i) w (rs i) (L i) (KV i) (IV i)
  low : ∀ i, i ≤ m → base ≤ lo i
  mono : ∀ i j, i ≤ j → j ≤ m → lo i ≤ lo j
  top : lo m ≤ w.heap.size
  inn : ∀ i, i < m → ∀ x, InNest (rs i) (L i).length (KV i) (IV i) x → x < lo (i + 1)

theorem Rows2.start {base : Nat} {w : World} {v : Value} (h : w.ownsRow base 24 1 v 0 []) (hb : base ≤ w.heap.size) (L : Nat → List VN) : Rows2 base w v 0 L (fun _ => undef) (fun _ _ => undef) (fun _ _ => undef) (fun _ => base) :=
  ⟨by simpa using h, fun i hi => absurd hi (by omega), fun _ _ => Nat.le_refl _, fun _ _ _ _ => Nat.le_refl _, hb, fun i hi => absurd hi (by omega)⟩

theorem Rows2.below {base : Nat} {w w' : World} {v : Value} {m : Nat} {L : Nat → List VN} {rs : Nat → Value} {KV IV : Nat → Nat → Value} {lo : Nat → Nat} (h : Rows2 base w v m L rs KV IV lo) (hb : Below w.heap.size w w') : Rows2 base w' v m L rs KV IV lo :=
  ⟨own_below h.row hb (fun x hx => (h.row.lt x hx).2), fun i hi => (h.nest i hi).below hb, h.low, h.mono, Nat.le_trans h.top hb.size, h.inn⟩

theorem Rows2.from {base : Nat} {w w' : World} {v : Value} {m : Nat} {L : Nat → List VN} {rs : Nat → Value} {KV IV : Nat → Nat → Value} {lo : Nat → Nat} (h : Rows2 base w v m L rs KV IV lo) (hf : From base w w') : Rows2 base w' v m L rs KV IV lo :=
  ⟨own_from h.row hf, fun i hi => (h.nest i hi).from (hf.mono (h.low i (by omega))), h.low, h.mono, Nat.le_trans h.top hf.1, h.inn⟩

theorem range_map_snoc {m : Nat} {rs : Nat → Value} {r : Value} : (List.range (m + 1)).map (updF rs m r) = (List.range m).map rs ++ [r] := by
  rw [List.range_succ, List.map_append]
  congr 1
  · apply List.map_congr_left
    intro j hj
    exact updF_other _ _ (by have := List.mem_range.1 hj; omega)
  · simp [updF_same]

/-- One row more: made in new memory, then appended. -/
theorem Rows2.snoc {base : Nat} {w w1 w5 : World} {v v' r : Value} {m : Nat} {L : Nat → List VN} {rs : Nat → Value} {KV IV : Nat → Nat → Value} {lo : Nat → Nat} {K I : Nat → Value} {o : Obj} (h : Rows2 base w v m L rs KV IV lo) (hb : Below w.heap.size w w1) (hn : Nest w.heap.size w1 r (L m) K I)
    (hown : w5.ownsRow base 24 1 v' (m + 1) ((List.range m).map rs ++ [r])) (hg : (w1.alloc o).grownBy w5 v.ownBlock) :
    Rows2 base w5 v' (m + 1) L (updF rs m r) (updF KV m K) (updF IV m I) (fun i => if i < m then lo i else if i = m then w.heap.size else w1.heap.size) := by
  have h1 := h.below hb
  have hg1 : w1.grownBy w5 v.ownBlock := (World.grownBy_alloc w1 o _).trans hg
  have hs := hb.size
  have hgs := hg1.size
  have kept : ∀ {b : Nat} {u : Value} {vs : List VN} {A C : Nat → Value}, Nest b w1 u vs A C → Nest b w5 u vs A C := fun hx => hx.kept hg1 (own_apart hx.row h1.row (by decide)) (fun i hi => own_apart (hx.rk i hi) h1.row (by decide)) (fun i hi => own_apart (hx.ri i hi) h1.row (by decide))
  refine ⟨by rw [range_map_snoc]; exact hown, fun i hi => ?_, fun i hi => ?_, fun i j hij hj => ?_, ?_, fun i hi x hx => ?_⟩
  · by_cases e : i = m
    · subst e
      simp only [updF_same, Nat.lt_irrefl, if_true, if_false]
      exact kept hn
    · simp only [updF_other _ _ e, if_pos (show i < m by omega)]
      exact kept (h1.nest i (by omega))
  · have hl := h.low m (Nat.le_refl _)
    have ht := h.top
    by_cases e : i < m
    · simp only [if_pos e]; exact h.low i (by omega)
    · by_cases e2 : i = m
      · simp only [if_neg e, if_pos e2]; omega
      · simp only [if_neg e, if_neg e2]; omega
  · have ht := h.top
    by_cases e : j < m
    · simp only [if_pos e, if_pos (show i < m by omega)]; exact h.mono i j hij (by omega)
    · by_cases e1 : i < m
      · have := h.mono i m (by omega) (Nat.le_refl _)
        by_cases e2 : j = m
        · simp only [if_pos e1, if_neg e, if_pos e2]; omega
        · simp only [if_pos e1, if_neg e, if_neg e2]; omega
      · by_cases e2 : j = m
        · simp only [if_neg e1, if_neg e, if_pos e2, if_pos (show i = m by omega)]; omega
        · by_cases e3 : i = m
          · simp only [if_neg e1, if_neg e, if_neg e2, if_pos e3]; omega
          · simp only [if_neg e1, if_neg e, if_neg e2, if_neg e3]; omega
  · simp only [if_neg (show ¬ m + 1 < m by omega), if_neg (show ¬ m + 1 = m by omega)]; omega
  · have ht := h.top
    by_cases e : i = m
    · subst e
      simp only [updF_same] at hx
      simp only [if_neg (show ¬ i + 1 < i by omega), if_neg (show ¬ i + 1 = i by omega)]
      exact (hn.inn hx).2
    · simp only [updF_other _ _ e] at hx
      have := h.inn i (by omega) x hx
      by_cases e2 : i + 1 < m
      · simp only [if_pos e2]; exact this
      · obtain e3 : i + 1 = m := by omega
        rw [e3] at this
        simp only [if_neg e2, if_pos e3]; omega

/-- Rows of nodes as they are read. -/
def RowsAt (B : Nat) (w : World) (v : Value) (m : Nat) (L : Nat → List VN) : Prop :=
  m ≤ 1048576 ∧ ∃ a cap, v = .slice a m cap ∧ (0 < m → ∃ b, a = some ⟨b, 0, none⟩ ∧ b < B ∧ ∀ i, i < m → ∃ r, w.cell? ⟨b, i, none⟩ = some r ∧ NodesAt B w r (L i))

theorem Rows2.rows {base : Nat} {w : World} {v : Value} {m : Nat} {L : Nat → List VN} {rs : Nat → Value} {KV IV : Nat → Nat → Value} {lo : Nat → Nat} (h : Rows2 base w v m L rs KV IV lo) (hm : m ≤ 80) (hf : ∀ i, i < m → Few (L i) ∧ ∀ j, j < (L i).length → Fits (nodeAt (L i) j)) : RowsAt w.heap.size w v m L := by
  obtain ⟨a, c, e⟩ := own_slice h.row
  subst e
  refine ⟨by omega, a, c, rfl, fun hp => ?_⟩
  obtain ⟨g, cap, e, _, hlt⟩ := h.row.form hp
  cases e
  refine ⟨g, rfl, hlt, fun i hi => ⟨rs i, ?_, (h.nest i hi).nodes (by have := (hf i hi).1.1; omega) (hf i hi).2⟩⟩
  rw [h.row.cellAt i (by omega)]
  simp [hi]
end Go.Proofs.YtfijafbpdlakaaaGreatDoor

/-
  The length of a value, on its nodes: plain mathematics.
-/
namespace Go.Proofs.YtfijafbpdlakaaaGreatDoor
open Go.RowKit
set_option linter.unusedSimpArgs false
set_option linter.unusedVariables false

/-- The length of a value with that root; none of a truth value. -/
def lenK (x : VN) : Option Int :=
  if x.kind = 1 then some 0
  else if x.kind = 3 then some (max x.n (-x.n))
  else if x.kind = 4 then some (x.s.size : Int)
  else if x.kind = 5 ∨ x.kind = 6 then some (x.kids.length : Int)
  else none

def rootN (vs : List VN) : VN := nodeAt vs (vs.length - 1)
def oneNs (o : Option Int) : List VN := match o with
  | some n => leafN 3 n ByteArray.empty
  | none => []
def kindC (o : Option Int) : Int := match o with
  | some _ => 0
  | none => 2
def lenNs (vs : List VN) : List VN := if okB vs = true then oneNs (lenK (rootN vs)) else []
def lenC (vs : List VN) : Int := if okB vs = true then kindC (lenK (rootN vs)) else 1

theorem leaf_few (n : Int) (h1 : -9223372036854775808 ≤ n) (h2 : n ≤ 9223372036854775807) : Few (leafN 3 n ByteArray.empty) ∧ ∀ i, i < (leafN 3 n ByteArray.empty).length → Fits (nodeAt (leafN 3 n ByteArray.empty) i) := by
  have h0 : ∀ i, i < (leafN 3 n ByteArray.empty).length → i = 0 := fun i hi => by simp [leafN] at hi; omega
  refine ⟨⟨by simp [leafN], fun i hi => ?_⟩, fun i hi => ?_⟩
  · obtain rfl := h0 i hi
    exact ⟨by simp [leafN, nodeAt], by simp [leafN, nodeAt]⟩
  · obtain rfl := h0 i hi
    refine ⟨by simp [leafN, nodeAt], fun i hi => absurd hi (by simp [leafN, nodeAt]), by simp [leafN, nodeAt], fun i hi => absurd hi (by simp [leafN, nodeAt]), by simp [leafN, nodeAt], by simp [leafN, nodeAt], by simp [leafN, nodeAt], by simpa [leafN, nodeAt] using h1, by simpa [leafN, nodeAt] using h2⟩

theorem none_few : Few ([] : List VN) ∧ ∀ i, i < ([] : List VN).length → Fits (nodeAt [] i) := ⟨⟨by simp, fun i hi => absurd hi (by simp)⟩, fun i hi => absurd hi (by simp)⟩

/-- What a right value's root is. -/
theorem root_says {vs : List VN} (hok : okB vs = true) : (rootN vs).kind = 1 ∨ (rootN vs).kind = 2 ∨ ((rootN vs).kind = 3 ∧ -1000000000000000 ≤ (rootN vs).n ∧ (rootN vs).n ≤ 1000000000000000) ∨ ((rootN vs).kind = 4 ∧ (rootN vs).s.size ≤ 60) ∨ ((rootN vs).kind = 5 ∧ (rootN vs).kids.length ≤ 80) ∨ ((rootN vs).kind = 6 ∧ (rootN vs).kids.length ≤ 80) := by
  obtain ⟨p1, p2, _, p4⟩ := okB_parts hok
  have hn := (p2 (vs.length - 1) (by omega)).1
  have hk := p4 (vs.length - 1) (by omega)
  have hk' : (rootN vs).kids.length ≤ 80 := by unfold rootN; omega
  change nodeB (rootN vs) = true at hn
  unfold nodeB namedB at hn
  simp only [Bool.and_eq_true] at hn
  have h2 := hn.2
  by_cases k1 : (rootN vs).kind = 1
  · exact Or.inl k1
  by_cases k2 : (rootN vs).kind = 2
  · exact Or.inr (Or.inl k2)
  by_cases k3 : (rootN vs).kind = 3
  · simp [k3] at h2; exact Or.inr (Or.inr (Or.inl ⟨k3, by omega, by omega⟩))
  by_cases k4 : (rootN vs).kind = 4
  · simp [k4, textB] at h2; exact Or.inr (Or.inr (Or.inr (Or.inl ⟨k4, h2.1⟩)))
  by_cases k5 : (rootN vs).kind = 5
  · exact Or.inr (Or.inr (Or.inr (Or.inr (Or.inl ⟨k5, hk'⟩))))
  by_cases k6 : (rootN vs).kind = 6
  · exact Or.inr (Or.inr (Or.inr (Or.inr (Or.inr ⟨k6, hk'⟩))))
  simp [k1, k2, k3, k4, k5, k6] at h2

theorem len_range {vs : List VN} (hok : okB vs = true) {n : Int} (h : lenK (rootN vs) = some n) : 0 ≤ n ∧ n ≤ 1000000000000000 := by
  unfold lenK at h
  rcases root_says hok with k | k | ⟨k, a, b⟩ | ⟨k, a⟩ | ⟨k, a⟩ | ⟨k, a⟩ <;> simp [k] at h <;> omega

theorem len_few (vs : List VN) : Few (lenNs vs) ∧ ∀ i, i < (lenNs vs).length → Fits (nodeAt (lenNs vs) i) := by
  unfold lenNs
  split
  · rename_i hok
    cases h : lenK (rootN vs) with
    | none => exact none_few
    | some n =>
      have := len_range hok h
      exact leaf_few n (by omega) (by omega)
  · exact none_few
end Go.Proofs.YtfijafbpdlakaaaGreatDoor

/-
  impl.valuesAt: the values of all nodes.
-/
namespace Go.Proofs.YtfijafbpdlakaaaGreatDoor
open Go.RowKit
set_option linter.unusedSimpArgs false
set_option linter.unusedVariables false

/-- One more value is laid. -/
theorem valStep {s N k : Nat} {w W0 W : World} {vs : List VN} {VV : Nat → Value} {u : Value} (hrow : W.rowIs s 54 N (fillI VV k)) (hall : ∀ j, j < k → ValIs s W0.heap.size W0 vs (j + 1) j (VV j)) (hk : Keep s W0.heap.size W0 W) (hsz : W0.heap.size ≤ W.heap.size) (hs : s < W0.heap.size) (hb : Below s w W)
    (hv : ValIs s W.heap.size W vs (k + 1) k u) :
    (W.setCell ⟨s, k, none⟩ u).rowIs s 54 N (fillI (fun j => if j = k then u else VV j) (k + 1)) ∧ (∀ j, j < k + 1 → ValIs s (W.setCell ⟨s, k, none⟩ u).heap.size (W.setCell ⟨s, k, none⟩ u) vs (j + 1) j (if j = k then u else VV j)) ∧ Below s w (W.setCell ⟨s, k, none⟩ u) := by
  have hsz2 : (W.setCell ⟨s, k, none⟩ u).heap.size = W.heap.size := World.size_setCell _ _ _
  refine ⟨fillI_step hrow, fun j hj => ?_, hb.setCell (Nat.le_refl _) _⟩
  by_cases e : j = k
  · subst e
    rw [if_pos rfl]
    exact ValIs.keep (Keep.setCell W u) (by omega) (by omega) hv
  · rw [if_neg e]
    exact ValIs.keep (hk.trans (Keep.setCell W u)) (by omega) (by omega) (hall j (by omega))

set_option maxRecDepth 100000 in
set_option maxHeartbeats 6400000 in
theorem valuesAt_any (B : Nat) (v : Value) (vs : List VN) (w : World) (h : NodesAt B w v vs) (hB : B ≤ w.heap.size) (hn1 : 1 ≤ vs.length) (hn80 : vs.length ≤ 80) (hok : ∀ k, k < vs.length → nodeB (nodeAt vs k) = true ∧ kidsIn vs k = true) (hkn : ∀ k, k < vs.length → (nodeAt vs k).kids.length ≤ k) :
    Calls Tryz.prog 64 #[v] w fun e w' => ∃ VV : Nat → Value, e = .returned (.slice (some ⟨w.heap.size, 0, none⟩) vs.length vs.length) ∧
      w'.rowIs w.heap.size 54 vs.length VV ∧ (∀ j, j < vs.length → ValIs w.heap.size w'.heap.size w' vs (j + 1) j (VV j)) ∧ Below w.heap.size w w' := by
  obtain ⟨hlen, a, cap, rfl, hcell⟩ := h
  obtain ⟨b0, o0, rfl, hb0, hc⟩ := hcell (by omega)
  clear hcell
  have HOK := hideIt hok
  have HC := hideIt hc
  clear hok hc
  have hmk := run_make_row' (P := Tryz.prog) 57 54 .nilIface 16 Tryz.underlying57 infoVal rfl .i64 .i64 vs.length (by omega) (by omega)
  obtain ⟨i0, hi, hz0, hz1, hz2⟩ := info_parts infoVal
  go_enter Tryz.func64, Tryz.ntmps64
  go_wp2_with fail
  clear hmk
  have hr0 : (w.alloc (.cells (madeCells #[Value.nilIface] vs.length) 54)).rowIs w.heap.size 54 vs.length (fillI (fun _ => undef) 0) := (World.rowIs_made w _ _ _).congr fun i _ => by simp [fillI]
  have hbz : Below w.heap.size w (w.alloc (.cells (madeCells #[Value.nilIface] vs.length) 54)) := (Below.refl _ _).alloc (Nat.le_refl _) _
  go_loopw [14] (fun i wr => ∃ (k : Nat) (VV : Nat → Value), k ≤ vs.length ∧ i = .int .i64 k ∧ wr.rowIs w.heap.size 54 vs.length (fillI VV k) ∧ (∀ j, j < k → ValIs w.heap.size wr.heap.size wr vs (j + 1) j (VV j)) ∧ Below w.heap.size w wr) (fun i _ => vs.length - (intOf i).toNat)
  case atStart => exact ⟨0, _, Nat.zero_le _, rfl, hr0, fun j hj => by omega, hbz⟩
  case round =>
    obtain ⟨k, VV, hk, rfl, hrow, hall, hbel⟩ := hrel
    obtain ⟨W0, rfl⟩ : ∃ W0, W0 = wr := ⟨_, rfl⟩
    have HA := hideIt hall
    clear hall hr0 hbz
    by_cases hlt : k < vs.length
    · obtain ⟨ka, ki, hn⟩ := HC.out k hlt
      have hn' := hn.below (hbel.mono hB) hb0
      have c0 := hn'.c0
      have c1 := hn'.c1
      have c2 := hn'.c2
      have c3 := hn'.c3
      have c4 := hn'.c4
      have hsize := hbel.size
      have hlt0 := hrow.lt
      have HK := hideIt hn.inn.keys
      obtain ⟨_, _, aK, cK, eK, _⟩ := hn'.inn.keys
      obtain ⟨hkl, hkb, aI, cI, eI, hkc⟩ := hn'.inn.kids
      subst eK eI
      have HR := hideIt hrow
      clear hn hn' hrow
      go_wp2_with fail
      have x0 : (W0.alloc (.cells #[.int .i64 (nodeAt vs k).kind, .int .i64 (nodeAt vs k).n, .string (nodeAt vs k).s, .slice aK (nodeAt vs k).keys.length cK, .slice aI (nodeAt vs k).kids.length cI] 34)).cell? ⟨W0.heap.size, 0, none⟩ = some (.int .i64 (nodeAt vs k).kind) := by simp
      have x1 : (W0.alloc (.cells #[.int .i64 (nodeAt vs k).kind, .int .i64 (nodeAt vs k).n, .string (nodeAt vs k).s, .slice aK (nodeAt vs k).keys.length cK, .slice aI (nodeAt vs k).kids.length cI] 34)).cell? ⟨W0.heap.size, 1, none⟩ = some (.int .i64 (nodeAt vs k).n) := by simp
      have x2 : (W0.alloc (.cells #[.int .i64 (nodeAt vs k).kind, .int .i64 (nodeAt vs k).n, .string (nodeAt vs k).s, .slice aK (nodeAt vs k).keys.length cK, .slice aI (nodeAt vs k).kids.length cI] 34)).cell? ⟨W0.heap.size, 2, none⟩ = some (.string (nodeAt vs k).s) := by simp
      have x3 : (W0.alloc (.cells #[.int .i64 (nodeAt vs k).kind, .int .i64 (nodeAt vs k).n, .string (nodeAt vs k).s, .slice aK (nodeAt vs k).keys.length cK, .slice aI (nodeAt vs k).kids.length cI] 34)).cell? ⟨W0.heap.size, 3, none⟩ = some (.slice aK (nodeAt vs k).keys.length cK) := by simp
      have sW1 : (W0.alloc (.cells #[.int .i64 (nodeAt vs k).kind, .int .i64 (nodeAt vs k).n, .string (nodeAt vs k).s, .slice aK (nodeAt vs k).keys.length cK, .slice aI (nodeAt vs k).kids.length cI] 34)).heap.size = W0.heap.size + 1 := by simp
      have bW1 : Below W0.heap.size W0 (W0.alloc (.cells #[.int .i64 (nodeAt vs k).kind, .int .i64 (nodeAt vs k).n, .string (nodeAt vs k).s, .slice aK (nodeAt vs k).keys.length cK, .slice aI (nodeAt vs k).kids.length cI] 34)) := (Below.refl _ _).alloc (Nat.le_refl _) _
      have rW1 := hideIt (HR.out.alloc (.cells #[.int .i64 (nodeAt vs k).kind, .int .i64 (nodeAt vs k).n, .string (nodeAt vs k).s, .slice aK (nodeAt vs k).keys.length cK, .slice aI (nodeAt vs k).kids.length cI] 34))
      generalize (W0.alloc (.cells #[.int .i64 (nodeAt vs k).kind, .int .i64 (nodeAt vs k).n, .string (nodeAt vs k).s, .slice aK (nodeAt vs k).keys.length cK, .slice aI (nodeAt vs k).kids.length cI] 34)) = W1 at *
      have HsW := hideIt sW1
      have hW1gt : W0.heap.size < W1.heap.size := by omega
      have HX := hideIt (And.intro x0 (And.intro x1 (And.intro x2 x3)))
      have hsub : Below w.heap.size w W1 := hbel.trans (bW1.mono hsize)
      clear sW1 x0 x1 x2 x3 c0 c1 c2 c3 c4
      go_loopw [6, 22] (fun it i wr => ∃ c : Nat, c ≤ (nodeAt vs k).kids.length ∧ i = .int .i64 c ∧ wr.ownsRow W1.heap.size 54 1 it c ((List.range c).map fun j => VV (intAt (nodeAt vs k).kids j).toNat) ∧ Below W1.heap.size W1 wr) (fun _ i _ => (nodeAt vs k).kids.length - (intOf i).toNat)
      case atStart => exact ⟨0, Nat.zero_le _, rfl, World.ownsRow_nil _ _ _ _, Below.refl _ _⟩
      case round =>
        obtain ⟨c, hcl, rfl, hown, hb2⟩ := hrel
        by_cases hcc : c < (nodeAt vs k).kids.length
        · obtain ⟨b1, o1, rfl, hb1', hkc1⟩ := hkc (by omega)
          have hkr := kidsIn_get (HOK.out k hlt).2 hcc
          obtain ⟨q, hq⟩ : ∃ q : Nat, intAt (nodeAt vs k).kids c = (q : Int) := ⟨(intAt (nodeAt vs k).kids c).toNat, by omega⟩
          have hqk : q < k := by omega
          have hck : wr.cell? ⟨b1, o1 + c, none⟩ = some (.int .i64 (q : Int)) := by
            rw [← hq]; exact (below_cell hb2 (by omega)).trans ((below_cell bW1 (by omega)).trans (hkc1 c hcc))
          obtain ⟨tq, xq, hvq⟩ := (HA.out q hqk).iface
          have hcq : wr.cell? ⟨w.heap.size, q, none⟩ = some (.iface tq xq) := by
            refine (below_cell hb2 (by omega)).trans ?_
            rw [rW1.out.cell (by omega), fillI, if_pos hqk, hvq]
          have hqN : (q : Int) < (vs.length : Int) := by omega
          have HQ : Hid ((List.range (c + 1)).map (fun j => VV (intAt (nodeAt vs k).kids j).toNat) = (List.range c).map (fun j => VV (intAt (nodeAt vs k).kids j).toNat) ++ [.iface tq xq]) := by
            rw [Hid, List.range_succ, List.map_append]
            simp [hq, hvq]
          have hb2s := hb2.size
          have HB2 := hideIt hb2
          have h80 : (nodeAt vs k).kids.length ≤ 80 := by have := hkn k hlt; omega
          clear hkc hkc1 hq hkr hvq
          go_wp2_with (at_builtin; refine wpList_append_own _ rfl _ _ 57 rfl W1.heap.size 54 i0 .nilIface 1 16 Tryz.underlying57 hi hz0 hz1 hz2 rfl (by decide) _ _ _ rfl (hown.alloc _) ⟨wr.heap.size, 0, none⟩ 1 1 [.iface tq xq] rfl rfl ?c1 ?c2 ?c3 ?c4 ?c5 ?_)
          case c1 =>
            intro j u hj
            match j, hj with
            | 0, hj => simp at hj; subst hj; simp [Addr.add]
          case c2 => intro u hu; simp at hu; subst hu; rfl
          case c3 => unfold maxLen; omega
          case c4 => omega
          case c5 => simp; omega
          intro v' w3 hown' hgrow _
          have hb3 : Below W1.heap.size W1 w3 := (HB2.out.alloc hb2s _).grown hgrow (by simp; omega) (fun r hr => by
            rcases hown.2 with ⟨rfl, _⟩ | ⟨g, cp, cu, rfl, hbg, _⟩
            · simp [Value.ownBlock] at hr
            · simp [Value.ownBlock] at hr; omega)
          rw [← HQ.out] at hown'
          clear hgrow hown
          go_wp2_with fail
          go_roundw
          case rel => exact ⟨c + 1, by omega, by go_num, hown', hb3⟩
          case measure => simp [intOf]; omega
        · obtain rfl : c = (nodeAt vs k).kids.length := by omega
          have hb2s := hb2.size
          have hIt := hideIt (items_of_own (lo := w.heap.size) (P := fun j u => ValIs w.heap.size wr.heap.size wr vs k (intAt (nodeAt vs k).kids j).toNat u) hown (by omega) (fun j hj => by
            have hkr := kidsIn_get (HOK.out k hlt).2 hj
            obtain ⟨t, x, e⟩ := (HA.out (intAt (nodeAt vs k).kids j).toNat (by omega)).iface
            refine ⟨t, x, e, ?_⟩
            rw [← e]
            exact ValIs.more (by omega) (ValIs.keep ((Keep.of_below (bW1)).trans (Keep.of_below (hb2.mono (by omega)))) (by omega) (by omega) (HA.out _ (by omega)))))
          have hitv := hIt.out
          obtain ⟨ait, cpt, rfl, _⟩ := hitv
          have y0 : wr.cell? ⟨W0.heap.size, 0, none⟩ = some (.int .i64 (nodeAt vs k).kind) := (below_cell hb2 (by omega)).trans HX.out.1
          have y1 : wr.cell? ⟨W0.heap.size, 1, none⟩ = some (.int .i64 (nodeAt vs k).n) := (below_cell hb2 (by omega)).trans HX.out.2.1
          have y2 : wr.cell? ⟨W0.heap.size, 2, none⟩ = some (.string (nodeAt vs k).s) := (below_cell hb2 (by omega)).trans HX.out.2.2.1
          have y3 : wr.cell? ⟨W0.heap.size, 3, none⟩ = some (.slice aK (nodeAt vs k).keys.length cK) := (below_cell hb2 (by omega)).trans HX.out.2.2.2
          have rwr := rowIs_below rW1.out hb2 (by omega)
          have z0 := rwr.cell hlt
          have z1 := rwr.frozen k
          have HRW := hideIt rwr
          have HKE : Hid (Keep w.heap.size W0.heap.size W0 wr) := (Keep.of_below (bW1)).trans (Keep.of_below (hb2.mono (by omega)))
          have HBE : Hid (Below w.heap.size w wr) := hsub.trans (hb2.mono (by omega))
          have hszz : W0.heap.size ≤ wr.heap.size := by omega
          have HKY : Hid (StrsAt w.heap.size wr (.slice aK (nodeAt vs k).keys.length cK) (nodeAt vs k).keys) := (HK.out.wide hB).below HBE.out
          have HNB := hideIt (HOK.out k hlt).1
          clear hown rwr
          by_cases g2 : (nodeAt vs k).kind = 2
          · have S := valStep (u := .iface 105 (.agg #[.int .i64 (nodeAt vs k).n])) HRW.out HA.out HKE.out hszz hlt0 HBE.out (Or.inr (Or.inl ⟨g2, rfl⟩))
            have HS := hideIt S
            clear S
            go_wp2_with fail
            go_roundw
            case rel => exact ⟨k + 1, _, by omega, by go_num, HS.out.1, HS.out.2.1, HS.out.2.2⟩
            case measure => simp [intOf]; omega
          by_cases g3 : (nodeAt vs k).kind = 3
          · have S := valStep (u := .iface 86 (.agg #[.int .i64 (nodeAt vs k).n])) HRW.out HA.out HKE.out hszz hlt0 HBE.out (Or.inr (Or.inr (Or.inl ⟨g3, rfl⟩)))
            have HS := hideIt S
            clear S g2
            go_wp2_with fail
            go_roundw
            case rel => exact ⟨k + 1, _, by omega, by go_num, HS.out.1, HS.out.2.1, HS.out.2.2⟩
            case measure => simp [intOf]; omega
          by_cases g4 : (nodeAt vs k).kind = 4
          · have S := valStep (u := .iface 89 (.agg #[.string (nodeAt vs k).s])) HRW.out HA.out HKE.out hszz hlt0 HBE.out (Or.inr (Or.inr (Or.inr (Or.inl ⟨g4, rfl⟩))))
            have HS := hideIt S
            clear S g2 g3
            go_wp2_with fail
            go_roundw
            case rel => exact ⟨k + 1, _, by omega, by go_num, HS.out.1, HS.out.2.1, HS.out.2.2⟩
            case measure => simp [intOf]; omega
          by_cases g5 : (nodeAt vs k).kind = 5
          · have S := valStep (u := .iface 91 (.agg #[.slice ait (nodeAt vs k).kids.length cpt])) HRW.out HA.out HKE.out hszz hlt0 HBE.out (Or.inr (Or.inr (Or.inr (Or.inr (Or.inl ⟨g5, _, rfl, hIt.out⟩)))))
            have HS := hideIt S
            clear S g2 g3 g4
            go_wp2_with fail
            go_roundw
            case rel => exact ⟨k + 1, _, by omega, by go_num, HS.out.1, HS.out.2.1, HS.out.2.2⟩
            case measure => simp [intOf]; omega
          by_cases g6 : (nodeAt vs k).kind = 6
          · have S := valStep (u := .iface 94 (.agg #[.slice aK (nodeAt vs k).keys.length cK, .slice ait (nodeAt vs k).kids.length cpt])) HRW.out HA.out HKE.out hszz hlt0 HBE.out (Or.inr (Or.inr (Or.inr (Or.inr (Or.inr ⟨g6, _, _, rfl, HKY.out, hIt.out⟩)))))
            have HS := hideIt S
            clear S g2 g3 g4 g5
            go_wp2_with fail
            go_roundw
            case rel => exact ⟨k + 1, _, by omega, by go_num, HS.out.1, HS.out.2.1, HS.out.2.2⟩
            case measure => simp [intOf]; omega
          · have g1 : (nodeAt vs k).kind = 1 := by
              have := HNB.out
              unfold nodeB namedB at this
              by_cases e1 : (nodeAt vs k).kind = 1
              · exact e1
              · simp [e1, g2, g3, g4, g5, g6] at this
            have S := valStep (u := .iface 132 (.agg #[])) HRW.out HA.out HKE.out hszz hlt0 HBE.out (Or.inl ⟨g1, rfl⟩)
            have HS := hideIt S
            clear S g2 g3 g4 g5 g6
            go_wp2_with fail
            go_roundw
            case rel => exact ⟨k + 1, _, by omega, by go_num, HS.out.1, HS.out.2.1, HS.out.2.2⟩
            case measure => simp [intOf]; omega
    · obtain rfl : k = vs.length := by omega
      go_wp2_with fail
      go_ret
      exact ⟨VV, rfl, hrow.congr fun i hi => by simp [fillI, hi], HA.out, hbel⟩
end Go.Proofs.YtfijafbpdlakaaaGreatDoor
