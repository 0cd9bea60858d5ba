/-
  What the methods kind and parts say, and a type switch's tests, one fact a pair of types. (The same facts as in CmpF and CmpE, for texts that don't reach the order: never import both.)
-/
import Derived.Test.YtiamkmkbkehldaaDoorVal
import Derived.Test.YtiamkmkbkehldaaDoorWnM
import Derived.Test.YtiamkmkbkehldaaDoorPkT
import Derived.Maps.Range
namespace Go.Proofs.YtiamkmkbkehldaaDoor
open Go.RowKit
set_option linter.unusedSimpArgs false
set_option linter.unusedVariables false

theorem parts1_any (w : World) : Calls Tryd.prog 117 #[.agg #[]] w fun e w' => e = .returned (.slice none 0 0) ∧ Below w.heap.size w w' := by
  go_enter Tryd.func117, Tryd.ntmps117
  go_wp2_with fail
  go_ret
  exact ⟨rfl, (Below.refl _ _).alloc (Nat.le_refl _) _⟩
theorem parts2_any (n : Int) (w : World) : Calls Tryd.prog 111 #[.agg #[.int .i64 n]] w fun e w' => e = .returned (.slice none 0 0) ∧ Below w.heap.size w w' := by
  go_enter Tryd.func111, Tryd.ntmps111
  go_wp2_with fail
  go_ret
  exact ⟨rfl, (Below.refl _ _).alloc (Nat.le_refl _) _⟩
theorem parts3_any (n : Int) (w : World) : Calls Tryd.prog 113 #[.agg #[.int .i64 n]] w fun e w' => e = .returned (.slice none 0 0) ∧ Below w.heap.size w w' := by
  go_enter Tryd.func113, Tryd.ntmps113
  go_wp2_with fail
  go_ret
  exact ⟨rfl, (Below.refl _ _).alloc (Nat.le_refl _) _⟩
theorem parts4_any (s : ByteArray) (w : World) : Calls Tryd.prog 107 #[.agg #[.string s]] w fun e w' => e = .returned (.slice none 0 0) ∧ Below w.heap.size w w' := by
  go_enter Tryd.func107, Tryd.ntmps107
  go_wp2_with fail
  go_ret
  exact ⟨rfl, (Below.refl _ _).alloc (Nat.le_refl _) _⟩
theorem parts5_any (a : Option Addr) (n c : Nat) (w : World) : Calls Tryd.prog 115 #[.agg #[.slice a n c]] w fun e w' => e = .returned (.slice a n c) ∧ Below w.heap.size w w' := by
  go_enter Tryd.func115, Tryd.ntmps115
  go_wp2_with fail
  go_ret
  exact ⟨rfl, (Below.refl _ _).alloc (Nat.le_refl _) _⟩
theorem parts6_any (a : Option Addr) (n c : Nat) (a' : Option Addr) (n' c' : Nat) (w : World) : Calls Tryd.prog 109 #[.agg #[.slice a n c, .slice a' n' c']] w fun e w' => e = .returned (.slice a' n' c') ∧ Below w.heap.size w w' := by
  go_enter Tryd.func109, Tryd.ntmps109
  go_wp2_with fail
  go_ret
  exact ⟨rfl, (Below.refl _ _).alloc (Nat.le_refl _) _⟩

theorem Below.next {w w1 w2 : World} (h : Below w.heap.size w w1) (k : Below w1.heap.size w1 w2) : Below w.heap.size w w2 := h.trans (k.mono h.size)
end Go.Proofs.YtiamkmkbkehldaaDoor

/-
  spec.l1Add: the nodes of a value behind those that lie there, their kids shifted.
-/
namespace Go.Proofs.YtiamkmkbkehldaaDoor
open Go.RowKit
set_option linter.unusedSimpArgs false
set_option linter.unusedVariables false

end Go.Proofs.YtiamkmkbkehldaaDoor

/-
  Rows of rows of nodes: how they lie, laid by appending. No walk.
-/
namespace Go.Proofs.YtiamkmkbkehldaaDoor
open Go.RowKit
set_option linter.unusedSimpArgs false
set_option linter.unusedVariables false

/-- All blocks from base on are as they were. -/
def From (base : Nat) (w w' : World) : Prop := w.heap.size ≤ w'.heap.size ∧ ∀ c, base ≤ c → c < w.heap.size → w'.heap[c]? = w.heap[c]?
theorem From.below {base : Nat} {a w w' : World} (h : From base a w) (hb : Below w.heap.size w w') : From base a w' :=
  ⟨Nat.le_trans h.1 hb.size, fun c h1 h2 => (hb.block c (by have := h.1; omega)).trans (h.2 c h1 h2)⟩
theorem From.only {base : Nat} {P : Nat → Prop} {a w w' : World} (h : From base a w) (ho : Only P w w') (hP : ∀ c, P c → c < base) : From base a w' :=
  ⟨Nat.le_trans h.1 ho.1, fun c h1 h2 => (ho.2 c (by have := h.1; omega) (fun p => by have := hP c p; omega)).trans (h.2 c h1 h2)⟩
theorem From.refl (base : Nat) (w : World) : From base w w := ⟨Nat.le_refl _, fun _ _ _ => rfl⟩
theorem From.mono {base base' : Nat} {w w' : World} (h : From base w w') (hb : base ≤ base') : From base' w w' := ⟨h.1, fun c h1 h2 => h.2 c (by omega) h2⟩

theorem own_from {w w' : World} {base e s n : Nat} {v : Value} {xs : List Value} (h : w.ownsRow base e s v n xs) (hf : From base w w') : w'.ownsRow base e s v n xs := by
  refine ⟨h.1, ?_⟩
  rcases h.2 with hn | ⟨g, cap, cur, rfl, hg, hgg, rest⟩
  · exact .inl hn
  · exact .inr ⟨g, cap, cur, rfl, hg, (hf.2 g hg (h.lt g rfl).2).trans hgg, rest⟩

theorem Nest.from {base : Nat} {w w' : World} {v : Value} {vs : List VN} {KV IV : Nat → Value} (h : Nest base w v vs KV IV) (hf : From base w w') : Nest base w' v vs KV IV :=
  ⟨own_from h.row hf, fun i hi => own_from (h.rk i hi) hf, fun i hi => own_from (h.ri i hi) hf, h.dkk, h.dii⟩

def blk (v : Value) : Nat := (v.ownBlock).getD 0
def knOf (vs : List VN) (i : Nat) : Nat := (nodeAt vs i).keys.length
def inOf (vs : List VN) (i : Nat) : Nat := (nodeAt vs i).kids.length

/-- Few nodes, with few keys and kids. -/
def Few (vs : List VN) : Prop := vs.length ≤ 80 ∧ ∀ i, i < vs.length → (nodeAt vs i).keys.length ≤ 80 ∧ (nodeAt vs i).kids.length ≤ 80

/-- A Nest, ready to be marked. -/
theorem Nest.mark {base : Nat} {w : World} {a : Option Addr} {n c : Nat} {vs : List VN} {KV IV : Nat → Value} (h : Nest base w (.slice a n c) vs KV IV) (hl : vs.length = n) (hf : Few vs) :
    0 < n → a = some ⟨blk (.slice a n c), 0, none⟩ ∧ Marky base w (blk (.slice a n c)) n (knOf vs) (inOf vs) (fun i => blk (KV i)) (fun i => blk (IV i)) := by
  subst hl
  intro hp
  obtain ⟨g, cap, e, _⟩ := h.row.form hp
  cases e
  exact ⟨rfl, Nest.marky h (by have := hf.1; omega) (fun i hi => by have := hf.2 i hi; omega)⟩

/-- The blocks of a Nest. -/
def InNest (r : Value) (n : Nat) (K I : Nat → Value) (x : Nat) : Prop := r.ownBlock = some x ∨ ∃ j, j < n ∧ ((K j).ownBlock = some x ∨ (I j).ownBlock = some x)

theorem Nest.inn {base : Nat} {w : World} {v : Value} {vs : List VN} {KV IV : Nat → Value} (h : Nest base w v vs KV IV) {x : Nat} (hx : InNest v vs.length KV IV x) : base ≤ x ∧ x < w.heap.size := by
  rcases hx with hx | ⟨j, hj, hx | hx⟩
  · exact h.row.lt x hx
  · exact (h.rk j hj).lt x hx
  · exact (h.ri j hj).lt x hx

theorem blk_of {w : World} {base e s n : Nat} {v : Value} {xs : List Value} (h : w.ownsRow base e s v n xs) (hn : 0 < n) : v.ownBlock = some (blk v) := by
  obtain ⟨g, cap, rfl, _⟩ := h.form hn
  rfl

theorem Nest.marked {base : Nat} {w : World} {v : Value} {vs : List VN} {KV IV : Nat → Value} (h : Nest base w v vs KV IV) {x : Nat} (hx : Marked (blk v) vs.length (knOf vs) (inOf vs) (fun i => blk (KV i)) (fun i => blk (IV i)) x) : InNest v vs.length KV IV x := by
  obtain ⟨hp, rfl | ⟨i, hi, ⟨hk, rfl⟩ | ⟨hk, rfl⟩⟩⟩ := hx
  · exact Or.inl (blk_of h.row hp)
  · exact Or.inr ⟨i, hi, Or.inl (blk_of (h.rk i hi) hk)⟩
  · exact Or.inr ⟨i, hi, Or.inr (blk_of (h.ri i hi) hk)⟩

/-- A row of slices lies apart from a Nest. -/
theorem Nest.far {base base' : Nat} {w : World} {v r : Value} {n : Nat} {xs : List Value} {vs : List VN} {KV IV : Nat → Value} (h : Nest base w v vs KV IV) (hr : w.ownsRow base' 30 1 r n xs) {x : Nat} (hx : InNest v vs.length KV IV x) : r.ownBlock ≠ some x := by
  intro e
  rcases hx with hx | ⟨j, hj, hx | hx⟩
  · rcases own_apart hr h.row (by decide) with e2 | e2
    · rw [e] at e2; cases e2
    · exact e2 (e.trans hx.symm)
  · rcases own_apart hr (h.rk j hj) (by decide) with e2 | e2
    · rw [e] at e2; cases e2
    · exact e2 (e.trans hx.symm)
  · rcases own_apart hr (h.ri j hj) (by decide) with e2 | e2
    · rw [e] at e2; cases e2
    · exact e2 (e.trans hx.symm)

structure Rows2 (base : Nat) (w : World) (v : Value) (m : Nat) (L : Nat → List VN) (rs : Nat → Value) (KV IV : Nat → Nat → Value) (lo : Nat → Nat) : Prop where
  row : w.ownsRow base 30 1 v m ((List.range m).map rs)
  nest : ∀ i, i < m → Nest (lo i) w (rs i) (L i) (KV i) (IV i)
  low : ∀ i, i ≤ m → base ≤ lo i
  mono : ∀ i j, i ≤ j → j ≤ m → lo i ≤ lo j
  top : lo m ≤ w.heap.size
  inn : ∀ i, i < m → ∀ x, InNest (rs i) (L i).length (KV i) (IV i) x → x < lo (i + 1)

theorem Rows2.start {base : Nat} {w : World} {v : Value} (h : w.ownsRow base 30 1 v 0 []) (hb : base ≤ w.heap.size) (L : Nat → List VN) : Rows2 base w v 0 L (fun _ => undef) (fun _ _ => undef) (fun _ _ => undef) (fun _ => base) :=
  ⟨by simpa using h, fun i hi => absurd hi (by omega), fun _ _ => Nat.le_refl _, fun _ _ _ _ => Nat.le_refl _, hb, fun i hi => absurd hi (by omega)⟩

theorem Rows2.below {base : Nat} {w w' : World} {v : Value} {m : Nat} {L : Nat → List VN} {rs : Nat → Value} {KV IV : Nat → Nat → Value} {lo : Nat → Nat} (h : Rows2 base w v m L rs KV IV lo) (hb : Below w.heap.size w w') : Rows2 base w' v m L rs KV IV lo :=
  ⟨own_below h.row hb (fun x hx => (h.row.lt x hx).2), fun i hi => (h.nest i hi).below hb, h.low, h.mono, Nat.le_trans h.top hb.size, h.inn⟩

theorem Rows2.from {base : Nat} {w w' : World} {v : Value} {m : Nat} {L : Nat → List VN} {rs : Nat → Value} {KV IV : Nat → Nat → Value} {lo : Nat → Nat} (h : Rows2 base w v m L rs KV IV lo) (hf : From base w w') : Rows2 base w' v m L rs KV IV lo :=
  ⟨own_from h.row hf, fun i hi => (h.nest i hi).from (hf.mono (h.low i (by omega))), h.low, h.mono, Nat.le_trans h.top hf.1, h.inn⟩

/-- Rows of nodes as they are read. -/
def RowsAt (B : Nat) (w : World) (v : Value) (m : Nat) (L : Nat → List VN) : Prop :=
  m ≤ 1048576 ∧ ∃ a cap, v = .slice a m cap ∧ (0 < m → ∃ b, a = some ⟨b, 0, none⟩ ∧ b < B ∧ ∀ i, i < m → ∃ r, w.cell? ⟨b, i, none⟩ = some r ∧ NodesAt B w r (L i))

theorem Rows2.rows {base : Nat} {w : World} {v : Value} {m : Nat} {L : Nat → List VN} {rs : Nat → Value} {KV IV : Nat → Nat → Value} {lo : Nat → Nat} (h : Rows2 base w v m L rs KV IV lo) (hm : m ≤ 80) (hf : ∀ i, i < m → Few (L i) ∧ ∀ j, j < (L i).length → Fits (nodeAt (L i) j)) : RowsAt w.heap.size w v m L := by
  obtain ⟨a, c, e⟩ := own_slice h.row
  subst e
  refine ⟨by omega, a, c, rfl, fun hp => ?_⟩
  obtain ⟨g, cap, e, _, hlt⟩ := h.row.form hp
  cases e
  refine ⟨g, rfl, hlt, fun i hi => ⟨rs i, ?_, (h.nest i hi).nodes (by have := (hf i hi).1.1; omega) (hf i hi).2⟩⟩
  rw [h.row.cellAt i (by omega)]
  simp [hi]
end Go.Proofs.YtiamkmkbkehldaaDoor
