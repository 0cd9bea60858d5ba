/-
  A part's nodes: plain mathematics.
-/
import Derived.Test.YtpfnkpkcjefelaaSPart
import Derived.Test.YtpfnkpkcjefelaaWnM
import Derived.Test.YtpfnkpkcjefelaaStbA
import Derived.Maps.Range
namespace Go.Proofs.Ytpfnkpkcjefelaa
open Go.RowKit
set_option linter.unusedSimpArgs false
set_option linter.unusedVariables false

/-- There is a part: the value is right, and n one of its nodes. -/
def partB (vs : List VN) (n : Int) : Bool := okB vs && inB n 0 ((vs.length : Int) - 1)

/-- The part's nodes. -/
def partOf (vs : List VN) (n : Nat) : List VN := run vs (-(trF (tr (kidsOf vs) n))) (trF (tr (kidsOf vs) n)).toNat (n + 1 - (trF (tr (kidsOf vs) n)).toNat)

theorem keys_few {vs : List VN} (h : okB vs = true) : ∀ k, k < vs.length → kidsIn vs k = true ∧ (nodeAt vs k).kids.length ≤ 80 ∧ (nodeAt vs k).keys.length ≤ 80 := by
  intro k hk
  obtain ⟨h1, h2, _, h4⟩ := okB_parts h
  have hn := h2 k hk
  have := h4 k hk
  refine ⟨hn.2, by omega, ?_⟩
  by_cases e : (nodeAt vs k).kind = 6
  · have hb := hn.1
    unfold nodeB namedB at hb
    simp [e] at hb
    omega
  · have hb := hn.1
    unfold nodeB unnamedB at hb
    simp [e] at hb
    have := hb.1.1.2
    simp [this]

theorem lay_part {vs : List VN} (hok : okB vs = true) {f m : Nat} (hf : m < f) (hm : m < vs.length) : layT f (treeOf vs f m) 0 = partOf vs m ∧ (partOf vs m).length ≤ 80 := by
  obtain ⟨p1, _, p3, _⟩ := okB_parts hok
  obtain ⟨⟨a0, h0⟩, htr⟩ := p3 m hm
  have e : partOf vs m = run vs (-(a0 : Int)) a0 (m + 1 - a0) := by rw [partOf, htr]; simp [trF]
  rw [← lay_tree, lay_run vs f m 0 a0 h0 hf htr, e]
  exact ⟨by simp, by rw [run_length]; omega⟩

/-- A part's nodes fit, and are few. -/
theorem part_fits {vs : List VN} (hok : okB vs = true) (hf : ∀ i, i < vs.length → Fits (nodeAt vs i)) {m : Nat} (hm : m < vs.length) : ∀ i, i < (partOf vs m).length → Fits (nodeAt (partOf vs m) i) ∧ (nodeAt (partOf vs m) i).keys.length ≤ 80 ∧ (nodeAt (partOf vs m) i).kids.length ≤ 80 := by
  obtain ⟨p1, p2, p3, p4⟩ := okB_parts hok
  obtain ⟨⟨a0, h0⟩, htr⟩ := p3 m hm
  have e : partOf vs m = run vs (-(a0 : Int)) a0 (m + 1 - a0) := by rw [partOf, htr]; simp [trF]
  rw [e]
  intro i hi
  rw [run_length] at hi
  have en : nodeAt (run vs (-(a0 : Int)) a0 (m + 1 - a0)) i = shiftN (-(a0 : Int)) (nodeAt vs (a0 + i)) := by
    unfold run
    conv => lhs; unfold nodeAt
    rw [List.getD_eq_getElem?_getD, List.getElem?_map, List.getElem?_range' (by omega)]
    simp [nodeAt]
  rw [en]
  have f := hf (a0 + i) (by omega)
  have kf := keys_few hok (a0 + i) (by omega)
  refine ⟨⟨f.keysN, f.keysS, by simpa [shiftN] using f.kidsN, fun j hj => ?_, f.size, f.klo, f.khi, f.nlo, f.nhi⟩, kf.2.2, by simpa [shiftN] using kf.2.1⟩
  have hj' : j < (nodeAt vs (a0 + i)).kids.length := by simpa [shiftN] using hj
  have hb := kidsIn_get kf.1 hj'
  have ei : intAt (shiftN (-(a0 : Int)) (nodeAt vs (a0 + i))).kids j = intAt (nodeAt vs (a0 + i)).kids j + -(a0 : Int) := by
    rw [intAt_get hj, intAt_get hj']; simp [shiftN]
  rw [ei]
  omega
end Go.Proofs.Ytpfnkpkcjefelaa

/-
  Rows of rows of nodes: how they lie, laid by appending. No walk.
-/
namespace Go.Proofs.Ytpfnkpkcjefelaa
open Go.RowKit
set_option linter.unusedSimpArgs false
set_option linter.unusedVariables false

theorem From.only {base : Nat} {P : Nat → Prop} {a w w' : World} (h : From base a w) (ho : Only P w w') (hP : ∀ c, P c → c < base) : From base a w' :=
  ⟨Nat.le_trans h.1 ho.1, fun c h1 h2 => (ho.2 c (by have := h.1; omega) (fun p => by have := hP c p; omega)).trans (h.2 c h1 h2)⟩
theorem Nest.from {base : Nat} {w w' : World} {v : Value} {vs : List VN} {KV IV : Nat → Value} (h : Nest base w v vs KV IV) (hf : From base w w') : Nest base w' v vs KV IV :=
  ⟨own_from h.row hf, fun i hi => own_from (h.rk i hi) hf, fun i hi => own_from (h.ri i hi) hf, h.dkk, h.dii⟩

def blk (v : Value) : Nat := (v.ownBlock).getD 0
def knOf (vs : List VN) (i : Nat) : Nat := (nodeAt vs i).keys.length
def inOf (vs : List VN) (i : Nat) : Nat := (nodeAt vs i).kids.length

/-- Few nodes, with few keys and kids. -/
def Few (vs : List VN) : Prop := vs.length ≤ 80 ∧ ∀ i, i < vs.length → (nodeAt vs i).keys.length ≤ 80 ∧ (nodeAt vs i).kids.length ≤ 80

/-- A Nest, ready to be marked. -/
theorem Nest.mark {base : Nat} {w : World} {a : Option Addr} {n c : Nat} {vs : List VN} {KV IV : Nat → Value} (h : Nest base w (.slice a n c) vs KV IV) (hl : vs.length = n) (hf : Few vs) :
    0 < n → a = some ⟨blk (.slice a n c), 0, none⟩ ∧ Marky base w (blk (.slice a n c)) n (knOf vs) (inOf vs) (fun i => blk (KV i)) (fun i => blk (IV i)) := by
  subst hl
  intro hp
  obtain ⟨g, cap, e, _⟩ := h.row.form hp
  cases e
  exact ⟨rfl, Nest.marky h (by have := hf.1; omega) (fun i hi => by have := hf.2 i hi; omega)⟩

/-- The blocks of a Nest. -/
def InNest (r : Value) (n : Nat) (K I : Nat → Value) (x : Nat) : Prop := r.ownBlock = some x ∨ ∃ j, j < n ∧ ((K j).ownBlock = some x ∨ (I j).ownBlock = some x)

theorem Nest.inn {base : Nat} {w : World} {v : Value} {vs : List VN} {KV IV : Nat → Value} (h : Nest base w v vs KV IV) {x : Nat} (hx : InNest v vs.length KV IV x) : base ≤ x ∧ x < w.heap.size := by
  rcases hx with hx | ⟨j, hj, hx | hx⟩
  · exact h.row.lt x hx
  · exact (h.rk j hj).lt x hx
  · exact (h.ri j hj).lt x hx

theorem blk_of {w : World} {base e s n : Nat} {v : Value} {xs : List Value} (h : w.ownsRow base e s v n xs) (hn : 0 < n) : v.ownBlock = some (blk v) := by
  obtain ⟨g, cap, rfl, _⟩ := h.form hn
  rfl

theorem Nest.marked {base : Nat} {w : World} {v : Value} {vs : List VN} {KV IV : Nat → Value} (h : Nest base w v vs KV IV) {x : Nat} (hx : Marked (blk v) vs.length (knOf vs) (inOf vs) (fun i => blk (KV i)) (fun i => blk (IV i)) x) : InNest v vs.length KV IV x := by
  obtain ⟨hp, rfl | ⟨i, hi, ⟨hk, rfl⟩ | ⟨hk, rfl⟩⟩⟩ := hx
  · exact Or.inl (blk_of h.row hp)
  · exact Or.inr ⟨i, hi, Or.inl (blk_of (h.rk i hi) hk)⟩
  · exact Or.inr ⟨i, hi, Or.inr (blk_of (h.ri i hi) hk)⟩

/-- A row of slices lies apart from a Nest. -/
theorem Nest.far {base base' : Nat} {w : World} {v r : Value} {n : Nat} {xs : List Value} {vs : List VN} {KV IV : Nat → Value} (h : Nest base w v vs KV IV) (hr : w.ownsRow base' 24 1 r n xs) {x : Nat} (hx : InNest v vs.length KV IV x) : r.ownBlock ≠ some x := by
  intro e
  rcases hx with hx | ⟨j, hj, hx | hx⟩
  · rcases own_apart hr h.row (by decide) with e2 | e2
    · rw [e] at e2; cases e2
    · exact e2 (e.trans hx.symm)
  · rcases own_apart hr (h.rk j hj) (by decide) with e2 | e2
    · rw [e] at e2; cases e2
    · exact e2 (e.trans hx.symm)
  · rcases own_apart hr (h.ri j hj) (by decide) with e2 | e2
    · rw [e] at e2; cases e2
    · exact e2 (e.trans hx.symm)

def updF {α : Type} (F : Nat → α) (k : Nat) (v : α) (i : Nat) : α := if i = k then v else F i
theorem updF_same {α : Type} (F : Nat → α) (k : Nat) (v : α) : updF F k v k = v := if_pos rfl
theorem updF_other {α : Type} (F : Nat → α) {k i : Nat} (v : α) (h : i ≠ k) : updF F k v i = F i := if_neg h

structure Rows2 (base : Nat) (w : World) (v : Value) (m : Nat) (L : Nat → List VN) (rs : Nat → Value) (KV IV : Nat → Nat → Value) (lo : Nat → Nat) : Prop where
  row : w.ownsRow base 24 1 v m ((List.range m).map rs)
  nest : ∀ i, i < m → Nest (lo i) w (rs i) (L i) (KV i) (IV i)
  low : ∀ i, i ≤ m → base ≤ lo i
  mono : ∀ i j, i ≤ j → j ≤ m → lo i ≤ lo j
  top : lo m ≤ w.heap.size
  inn : ∀ i, i < m → ∀ x, InNest (rs i) (L i).length (KV i) (IV i) x → x < lo (i + 1)

theorem Rows2.start {base : Nat} {w : World} {v : Value} (h : w.ownsRow base 24 1 v 0 []) (hb : base ≤ w.heap.size) (L : Nat → List VN) : Rows2 base w v 0 L (fun _ => undef) (fun _ _ => undef) (fun _ _ => undef) (fun _ => base) :=
  ⟨by simpa using h, fun i hi => absurd hi (by omega), fun _ _ => Nat.le_refl _, fun _ _ _ _ => Nat.le_refl _, hb, fun i hi => absurd hi (by omega)⟩

theorem Rows2.below {base : Nat} {w w' : World} {v : Value} {m : Nat} {L : Nat → List VN} {rs : Nat → Value} {KV IV : Nat → Nat → Value} {lo : Nat → Nat} (h : Rows2 base w v m L rs KV IV lo) (hb : Below w.heap.size w w') : Rows2 base w' v m L rs KV IV lo :=
  ⟨own_below h.row hb (fun x hx => (h.row.lt x hx).2), fun i hi => (h.nest i hi).below hb, h.low, h.mono, Nat.le_trans h.top hb.size, h.inn⟩

theorem Rows2.from {base : Nat} {w w' : World} {v : Value} {m : Nat} {L : Nat → List VN} {rs : Nat → Value} {KV IV : Nat → Nat → Value} {lo : Nat → Nat} (h : Rows2 base w v m L rs KV IV lo) (hf : From base w w') : Rows2 base w' v m L rs KV IV lo :=
  ⟨own_from h.row hf, fun i hi => (h.nest i hi).from (hf.mono (h.low i (by omega))), h.low, h.mono, Nat.le_trans h.top hf.1, h.inn⟩

theorem range_map_snoc {m : Nat} {rs : Nat → Value} {r : Value} : (List.range (m + 1)).map (updF rs m r) = (List.range m).map rs ++ [r] := by
  rw [List.range_succ, List.map_append]
  congr 1
  · apply List.map_congr_left
    intro j hj
    exact updF_other _ _ (by have := List.mem_range.1 hj; omega)
  · simp [updF_same]

/-- One row more: made in new memory, then appended. -/
theorem Rows2.snoc {base : Nat} {w w1 w5 : World} {v v' r : Value} {m : Nat} {L : Nat → List VN} {rs : Nat → Value} {KV IV : Nat → Nat → Value} {lo : Nat → Nat} {K I : Nat → Value} {o : Obj} (h : Rows2 base w v m L rs KV IV lo) (hb : Below w.heap.size w w1) (hn : Nest w.heap.size w1 r (L m) K I)
    (hown : w5.ownsRow base 24 1 v' (m + 1) ((List.range m).map rs ++ [r])) (hg : (w1.alloc o).grownBy w5 v.ownBlock) :
    Rows2 base w5 v' (m + 1) L (updF rs m r) (updF KV m K) (updF IV m I) (fun i => if i < m then lo i else if i = m then w.heap.size else w1.heap.size) := by
  have h1 := h.below hb
  have hg1 : w1.grownBy w5 v.ownBlock := (World.grownBy_alloc w1 o _).trans hg
  have hs := hb.size
  have hgs := hg1.size
  have kept : ∀ {b : Nat} {u : Value} {vs : List VN} {A C : Nat → Value}, Nest b w1 u vs A C → Nest b w5 u vs A C := fun hx => hx.kept hg1 (own_apart hx.row h1.row (by decide)) (fun i hi => own_apart (hx.rk i hi) h1.row (by decide)) (fun i hi => own_apart (hx.ri i hi) h1.row (by decide))
  refine ⟨by rw [range_map_snoc]; exact hown, fun i hi => ?_, fun i hi => ?_, fun i j hij hj => ?_, ?_, fun i hi x hx => ?_⟩
  · by_cases e : i = m
    · subst e
      simp only [updF_same, Nat.lt_irrefl, if_true, if_false]
      exact kept hn
    · simp only [updF_other _ _ e, if_pos (show i < m by omega)]
      exact kept (h1.nest i (by omega))
  · have hl := h.low m (Nat.le_refl _)
    have ht := h.top
    by_cases e : i < m
    · simp only [if_pos e]; exact h.low i (by omega)
    · by_cases e2 : i = m
      · simp only [if_neg e, if_pos e2]; omega
      · simp only [if_neg e, if_neg e2]; omega
  · have ht := h.top
    by_cases e : j < m
    · simp only [if_pos e, if_pos (show i < m by omega)]; exact h.mono i j hij (by omega)
    · by_cases e1 : i < m
      · have := h.mono i m (by omega) (Nat.le_refl _)
        by_cases e2 : j = m
        · simp only [if_pos e1, if_neg e, if_pos e2]; omega
        · simp only [if_pos e1, if_neg e, if_neg e2]; omega
      · by_cases e2 : j = m
        · simp only [if_neg e1, if_neg e, if_pos e2, if_pos (show i = m by omega)]; omega
        · by_cases e3 : i = m
          · simp only [if_neg e1, if_neg e, if_neg e2, if_pos e3]; omega
          · simp only [if_neg e1, if_neg e, if_neg e2, if_neg e3]; omega
  · simp only [if_neg (show ¬ m + 1 < m by omega), if_neg (show ¬ m + 1 = m by omega)]; omega
  · have ht := h.top
    by_cases e : i = m
    · subst e
      simp only [updF_same] at hx
      simp only [if_neg (show ¬ i + 1 < i by omega), if_neg (show ¬ i + 1 = i by omega)]
      exact (hn.inn hx).2
    · simp only [updF_other _ _ e] at hx
      have := h.inn i (by omega) x hx
      by_cases e2 : i + 1 < m
      · simp only [if_pos e2]; exact this
      · obtain e3 : i + 1 = m := by omega
        rw [e3] at this
        simp only [if_neg e2, if_pos e3]; omega

/-- Rows of nodes as they are read. -/
def RowsAt (B : Nat) (w : World) (v : Value) (m : Nat) (L : Nat → List VN) : Prop :=
  m ≤ 1048576 ∧ ∃ a cap, v = .slice a m cap ∧ (0 < m → ∃ b, a = some ⟨b, 0, none⟩ ∧ b < B ∧ ∀ i, i < m → ∃ r, w.cell? ⟨b, i, none⟩ = some r ∧ NodesAt B w r (L i))

theorem Rows2.rows {base : Nat} {w : World} {v : Value} {m : Nat} {L : Nat → List VN} {rs : Nat → Value} {KV IV : Nat → Nat → Value} {lo : Nat → Nat} (h : Rows2 base w v m L rs KV IV lo) (hm : m ≤ 80) (hf : ∀ i, i < m → Few (L i) ∧ ∀ j, j < (L i).length → Fits (nodeAt (L i) j)) : RowsAt w.heap.size w v m L := by
  obtain ⟨a, c, e⟩ := own_slice h.row
  subst e
  refine ⟨by omega, a, c, rfl, fun hp => ?_⟩
  obtain ⟨g, cap, e, _, hlt⟩ := h.row.form hp
  cases e
  refine ⟨g, rfl, hlt, fun i hi => ⟨rs i, ?_, (h.nest i hi).nodes (by have := (hf i hi).1.1; omega) (hf i hi).2⟩⟩
  rw [h.row.cellAt i (by omega)]
  simp [hi]
end Go.Proofs.Ytpfnkpkcjefelaa

/-
  A nest of nodes, from a lower block on.
-/
namespace Go.Proofs.Ytpfnkpkcjefelaa
open Go.RowKit

theorem Nest.low {base base' : Nat} {w : World} {v : Value} {vs : List VN} {KV IV : Nat → Value} (h : Nest base w v vs KV IV) (hb : base' ≤ base) : Nest base' w v vs KV IV :=
  ⟨own_mono h.row hb, fun i hi => own_mono (h.rk i hi) hb, fun i hi => own_mono (h.ri i hi) hb, h.dkk, h.dii⟩
end Go.Proofs.Ytpfnkpkcjefelaa

/-
  A part of a right value is right. Plain mathematics.
-/
namespace Go.Proofs.Ytpfnkpkcjefelaa
open Go.RowKit
set_option linter.unusedSimpArgs false
set_option linter.unusedVariables false

theorem fold_cover {K : Nat → List Int} : ∀ (l : List Int) (b h : Nat) (q : Nat × Nat), l.foldl (stepKid (tr K)) (some (b, h)) = some q → h ≤ q.2 ∧ q.1 ≤ b ∧ ∀ m, q.1 ≤ m → m < b → ∃ k p, tr K k = some p ∧ p.1 ≤ m ∧ m ≤ k ∧ q.1 ≤ p.1 ∧ p.2 ≤ q.2 ∧ k < b := by
  intro l
  induction l with
  | nil => intro b h q e; simp at e; subst e; exact ⟨Nat.le_refl _, Nat.le_refl _, fun m h1 h2 => absurd h1 (by simp only; omega)⟩
  | cons k l ih =>
    intro b h q e
    obtain ⟨p, h1, h2, h3, h4⟩ := fold_cons_some e
    have hp := tr_le h3
    obtain ⟨i1, i2, i3⟩ := ih _ _ _ h4
    refine ⟨by omega, by omega, fun m hm1 hm2 => ?_⟩
    by_cases c : m < p.1
    · obtain ⟨k', p', a1, a2, a3, a4, a5, a6⟩ := i3 m hm1 c
      exact ⟨k', p', a1, a2, a3, a4, a5, by omega⟩
    · exact ⟨b - 1, p, h3, by omega, by omega, i2, by omega, by omega⟩

theorem tr_fold {K : Nat → List Int} {n : Nat} {p : Nat × Nat} (h : tr K n = some p) : ∃ q, (K n).reverse.foldl (stepKid (tr K)) (some (n, 0)) = some q ∧ p = (q.1, q.2 + 1) := by
  rw [tr_eq] at h
  cases e : (K n).reverse.foldl (stepKid (tr K)) (some (n, 0)) with
  | none => simp [e] at h
  | some q => simp [e] at h; exact ⟨q, rfl, h.symm⟩

/-- Below a node: no tree begins ahead of its first one, none is higher. -/
theorem tr_sub {K : Nat → List Int} : ∀ (N n : Nat) (p : Nat × Nat), n < N → tr K n = some p → ∀ m, p.1 ≤ m → m ≤ n → ∃ r, tr K m = some r ∧ p.1 ≤ r.1 ∧ r.2 ≤ p.2 := by
  intro N
  induction N with
  | zero => intro n p h; omega
  | succ N ih =>
    intro n p hN h m h1 h2
    by_cases e : m = n
    · subst e; exact ⟨p, h, Nat.le_refl _, Nat.le_refl _⟩
    · obtain ⟨q, hq, rfl⟩ := tr_fold h
      obtain ⟨_, _, hc⟩ := fold_cover _ _ _ _ hq
      obtain ⟨k, r, a1, a2, a3, a4, a5, a6⟩ := hc m h1 (by omega)
      obtain ⟨r', b1, b2, b3⟩ := ih k r (by omega) a1 m a2 a3
      exact ⟨r', b1, by simp only at *; omega, by simp only at *; omega⟩

theorem fold_shift {T T' : Nat → Option (Nat × Nat)} {a N : Nat} (hT : ∀ m p, T m = some p → p.1 ≤ m) (he : ∀ m p, a ≤ m → m < N → T m = some p → a ≤ p.1 → T' (m - a) = some (p.1 - a, p.2)) : ∀ (l : List Int) (b h : Nat) (q : Nat × Nat), b ≤ N → l.foldl (stepKid T) (some (b, h)) = some q → a ≤ q.1 → (l.map (· + -(a : Int))).foldl (stepKid T') (some (b - a, h)) = some (q.1 - a, q.2) := by
  intro l
  induction l with
  | nil => intro b h q _ e _; simp at e; subst e; rfl
  | cons k l ih =>
    intro b h q hb e hq
    obtain ⟨p, h1, h2, h3, h4⟩ := fold_cons_some e
    have hp := hT _ _ h3
    have hl := fold_le hT _ _ _ _ h4
    have ht := he (b - 1) p (by omega) (by omega) h3 (by omega)
    rw [List.map_cons, List.foldl_cons]
    have hs : stepKid T' (some (b - a, h)) (k + -(a : Int)) = some (p.1 - a, max h p.2) := by
      simp only [stepKid]
      rw [if_pos ⟨by omega, by omega⟩, show b - a - 1 = b - 1 - a by omega, ht]
      rfl
    rw [hs]
    exact ih _ _ _ (by omega) h4 hq

theorem run_nodeAt {vs : List VN} {d : Int} {a n i : Nat} (h : i < n) : nodeAt (run vs d a n) i = shiftN d (nodeAt vs (a + i)) := by
  unfold run
  unfold nodeAt
  simp [h]

theorem nodeB_shift (d : Int) (x : VN) : nodeB (shiftN d x) = nodeB x := by
  unfold nodeB unnamedB namedB shiftN
  simp

theorem tr_shift {vs : List VN} {q a h : Nat} (ht : tr (kidsOf vs) q = some (a, h)) : ∀ (N i : Nat), i < N → a + i ≤ q → ∀ p, tr (kidsOf vs) (a + i) = some p → tr (kidsOf (run vs (-(a : Int)) a (q + 1 - a))) i = some (p.1 - a, p.2) := by
  intro N
  induction N with
  | zero => intro i h; omega
  | succ N ih =>
    intro i hN hi p hp
    have hap := tr_le ht
    simp only at hap
    obtain ⟨r, hr, h1, _⟩ := tr_sub _ _ _ (Nat.lt_succ_self _) ht (a + i) (by simp only; omega) hi
    rw [hp] at hr
    simp only [Option.some.injEq] at hr
    subst hr
    obtain ⟨w, hw, rfl⟩ := tr_fold hp
    have hk : kidsOf (run vs (-(a : Int)) a (q + 1 - a)) i = (kidsOf vs (a + i)).map (· + -(a : Int)) := by
      unfold kidsOf
      rw [run_nodeAt (by omega)]
      rfl
    rw [tr_eq, hk, ← List.map_reverse]
    have := fold_shift (T := tr (kidsOf vs)) (T' := tr (kidsOf (run vs (-(a : Int)) a (q + 1 - a)))) (a := a) (N := a + i) (fun m p h => tr_le h)
      (fun m p h1 h2 h3 h4 => by
        have := ih (m - a) (by omega) (by omega) p (by rw [show a + (m - a) = m by omega]; exact h3)
        exact this) _ _ _ _ (Nat.le_refl _) hw h1
    rw [show a + i - a = i by omega] at this
    rw [this]
    rfl

theorem part_okB {vs : List VN} (hok : okB vs = true) {m : Nat} (hm : m < vs.length) : okB (partOf vs m) = true := by
  obtain ⟨p1, p2, p3, p4⟩ := okB_parts hok
  obtain ⟨⟨a0, h0⟩, htr⟩ := p3 m hm
  have e : partOf vs m = run vs (-(a0 : Int)) a0 (m + 1 - a0) := by rw [partOf, htr]; simp [trF]
  have ha := tr_le htr
  simp only at ha
  have hroot : ∃ h, tr (kidsOf vs) (vs.length - 1) = some (0, h) ∧ h ≤ 8 := by
    unfold okB rootB at hok
    simp only [Bool.and_eq_true] at hok
    have h := hok.2
    cases e : tr (kidsOf vs) (vs.length - 1) with
    | none => simp [e] at h
    | some p => obtain ⟨a, b⟩ := p; simp [e] at h; obtain ⟨rfl, h8⟩ := h; exact ⟨b, rfl, h8⟩
  obtain ⟨hr, hr1, hr2⟩ := hroot
  obtain ⟨r, hr3, _, hr5⟩ := tr_sub _ _ _ (Nat.lt_succ_self _) hr1 m (Nat.zero_le _) (by omega)
  rw [htr] at hr3
  simp only [Option.some.injEq] at hr3
  subst hr3
  simp only at hr5
  have hlen : (partOf vs m).length = m + 1 - a0 := by rw [e, run_length]
  rw [← okB_eq]
  unfold tabB
  rw [hlen]
  have s1 : sizeB (partOf vs m) = true := by unfold sizeB; rw [hlen]; simp; omega
  have s2 : ((List.range (m + 1 - a0)).all fun i => nodeB (nodeAt (partOf vs m) i)) = true := by
    rw [List.all_eq_true]
    intro i hi
    have hi' := List.mem_range.1 hi
    rw [e, run_nodeAt hi', nodeB_shift]
    exact (p2 (a0 + i) (by omega)).1
  have s3 : ((List.range (m + 1 - a0)).all fun i => (tr (kidsOf (partOf vs m)) i).isSome) = true := by
    rw [List.all_eq_true]
    intro i hi
    have hi' := List.mem_range.1 hi
    obtain ⟨p, hp⟩ := p3 (a0 + i) (by omega)
    rw [e, tr_shift htr (i + 1) i (by omega) (by omega) p hp]
    rfl
  have s4 : rootB (partOf vs m) = true := by
    unfold rootB
    rw [hlen, e, tr_shift htr (m + 1) (m + 1 - a0 - 1) (by omega) (by omega) (a0, h0) (by rw [show a0 + (m + 1 - a0 - 1) = m by omega]; exact htr)]
    simp
    omega
  rw [s1, s2, s3, s4]
  rfl
end Go.Proofs.Ytpfnkpkcjefelaa
