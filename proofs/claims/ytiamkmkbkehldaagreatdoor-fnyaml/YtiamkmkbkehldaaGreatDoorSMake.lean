/-
  Rows of rows of nodes: how they lie, laid by appending. No walk.
-/
import Derived.Test.YtiamkmkbkehldaaGreatDoorRowB
import Derived.Maps.Range
import Derived.Test.YtiamkmkbkehldaaGreatDoorSAdd
namespace Go.Proofs.YtiamkmkbkehldaaGreatDoor
open Go.RowKit
set_option linter.unusedSimpArgs false
set_option linter.unusedVariables false

/-- All blocks from base on are as they were. -/
def From (base : Nat) (w w' : World) : Prop := w.heap.size ≤ w'.heap.size ∧ ∀ c, base ≤ c → c < w.heap.size → w'.heap[c]? = w.heap[c]?
theorem From.below {base : Nat} {a w w' : World} (h : From base a w) (hb : Below w.heap.size w w') : From base a w' :=
  ⟨Nat.le_trans h.1 hb.size, fun c h1 h2 => (hb.block c (by have := h.1; omega)).trans (h.2 c h1 h2)⟩
theorem From.only {base : Nat} {P : Nat → Prop} {a w w' : World} (h : From base a w) (ho : Only P w w') (hP : ∀ c, P c → c < base) : From base a w' :=
  ⟨Nat.le_trans h.1 ho.1, fun c h1 h2 => (ho.2 c (by have := h.1; omega) (fun p => by have := hP c p; omega)).trans (h.2 c h1 h2)⟩
theorem From.refl (base : Nat) (w : World) : From base w w := ⟨Nat.le_refl _, fun _ _ _ => rfl⟩
theorem From.mono {base base' : Nat} {w w' : World} (h : From base w w') (hb : base ≤ base') : From base' w w' := ⟨h.1, fun c h1 h2 => h.2 c (by omega) h2⟩

theorem own_from {w w' : World} {base e s n : Nat} {v : Value} {xs : List Value} (h : w.ownsRow base e s v n xs) (hf : From base w w') : w'.ownsRow base e s v n xs := by
  refine ⟨h.1, ?_⟩
  rcases h.2 with hn | ⟨g, cap, cur, rfl, hg, hgg, rest⟩
  · exact .inl hn
  · exact .inr ⟨g, cap, cur, rfl, hg, (hf.2 g hg (h.lt g rfl).2).trans hgg, rest⟩

theorem Nest.from {base : Nat} {w w' : World} {v : Value} {vs : List VN} {KV IV : Nat → Value} (h : Nest base w v vs KV IV) (hf : From base w w') : Nest base w' v vs KV IV :=
  ⟨own_from h.row hf, fun i hi => own_from (h.rk i hi) hf, fun i hi => own_from (h.ri i hi) hf, h.dkk, h.dii⟩

def blk (v : Value) : Nat := (v.ownBlock).getD 0
def knOf (vs : List VN) (i : Nat) : Nat := (nodeAt vs i).keys.length
def inOf (vs : List VN) (i : Nat) : Nat := (nodeAt vs i).kids.length

/-- Few nodes, with few keys and kids. -/
def Few (vs : List VN) : Prop := vs.length ≤ 80 ∧ ∀ i, i < vs.length → (nodeAt vs i).keys.length ≤ 80 ∧ (nodeAt vs i).kids.length ≤ 80

/-- A Nest, ready to be marked. -/
theorem Nest.mark {base : Nat} {w : World} {a : Option Addr} {n c : Nat} {vs : List VN} {KV IV : Nat → Value} (h : Nest base w (.slice a n c) vs KV IV) (hl : vs.length = n) (hf : Few vs) :
    0 < n → a = some ⟨blk (.slice a n c), 0, none⟩ ∧ Marky base w (blk (.slice a n c)) n (knOf vs) (inOf vs) (fun i => blk (KV i)) (fun i => blk (IV i)) := by
  subst hl
  intro hp
  obtain ⟨g, cap, e, _⟩ := h.row.form hp
  cases e
  exact ⟨rfl, Nest.marky h (by have := hf.1; omega) (fun i hi => by have := hf.2 i hi; omega)⟩

/-- The blocks of a Nest. -/
def InNest (r : Value) (n : Nat) (K I : Nat → Value) (x : Nat) : Prop := r.ownBlock = some x ∨ ∃ j, j < n ∧ ((K j).ownBlock = some x ∨ (I j).ownBlock = some x)

theorem Nest.inn {base : Nat} {w : World} {v : Value} {vs : List VN} {KV IV : Nat → Value} (h : Nest base w v vs KV IV) {x : Nat} (hx : InNest v vs.length KV IV x) : base ≤ x ∧ x < w.heap.size := by
  rcases hx with hx | ⟨j, hj, hx | hx⟩
  · exact h.row.lt x hx
  · exact (h.rk j hj).lt x hx
  · exact (h.ri j hj).lt x hx

theorem blk_of {w : World} {base e s n : Nat} {v : Value} {xs : List Value} (h : w.ownsRow base e s v n xs) (hn : 0 < n) : v.ownBlock = some (blk v) := by
  obtain ⟨g, cap, rfl, _⟩ := h.form hn
  rfl

theorem Nest.marked {base : Nat} {w : World} {v : Value} {vs : List VN} {KV IV : Nat → Value} (h : Nest base w v vs KV IV) {x : Nat} (hx : Marked (blk v) vs.length (knOf vs) (inOf vs) (fun i => blk (KV i)) (fun i => blk (IV i)) x) : InNest v vs.length KV IV x := by
  obtain ⟨hp, rfl | ⟨i, hi, ⟨hk, rfl⟩ | ⟨hk, rfl⟩⟩⟩ := hx
  · exact Or.inl (blk_of h.row hp)
  · exact Or.inr ⟨i, hi, Or.inl (blk_of (h.rk i hi) hk)⟩
  · exact Or.inr ⟨i, hi, Or.inr (blk_of (h.ri i hi) hk)⟩

/-- A row of slices lies apart from a Nest. -/
theorem Nest.far {base base' : Nat} {w : World} {v r : Value} {n : Nat} {xs : List Value} {vs : List VN} {KV IV : Nat → Value} (h : Nest base w v vs KV IV) (hr : w.ownsRow base' 24 1 r n xs) {x : Nat} (hx : InNest v vs.length KV IV x) : r.ownBlock ≠ some x := by
  intro e
  rcases hx with hx | ⟨j, hj, hx | hx⟩
  · rcases own_apart hr h.row (by decide) with e2 | e2
    · rw [e] at e2; cases e2
    · exact e2 (e.trans hx.symm)
  · rcases own_apart hr (h.rk j hj) (by decide) with e2 | e2
    · rw [e] at e2; cases e2
    · exact e2 (e.trans hx.symm)
  · rcases own_apart hr (h.ri j hj) (by decide) with e2 | e2
    · rw [e] at e2; cases e2
    · exact e2 (e.trans hx.symm)

def updF {α : Type} (F : Nat → α) (k : Nat) (v : α) (i : Nat) : α := if i = k then v else F i
theorem updF_same {α : Type} (F : Nat → α) (k : Nat) (v : α) : updF F k v k = v := if_pos rfl
theorem updF_other {α : Type} (F : Nat → α) {k i : Nat} (v : α) (h : i ≠ k) : updF F k v i = F i := if_neg h

structure Rows2 (base : Nat) (w : World) (v : Value) (m : Nat) (L : Nat → List VN) (rs : Nat → Value) (KV IV : Nat → Nat → Value) (lo : Nat → Nat) : Prop where
  row : w.ownsRow base 24 1 v m ((List.range m).map rs)
  nest : ∀ i, i < m → Nest (lo i) w (rs i) (L i) (KV i) (IV i)
  low : ∀ i, i ≤ m → base ≤ lo i
  mono : ∀ i j, i ≤ j → j ≤ m → lo i ≤ lo j
  top : lo m ≤ w.heap.size
  inn : ∀ i, i < m → ∀ x, InNest (rs i) (L i).length (KV i) (IV i) x → x < lo (i + 1)

theorem Rows2.start {base : Nat} {w : World} {v : Value} (h : w.ownsRow base 24 1 v 0 []) (hb : base ≤ w.heap.size) (L : Nat → List VN) : Rows2 base w v 0 L (fun _ => undef) (fun _ _ => undef) (fun _ _ => undef) (fun _ => base) :=
  ⟨by simpa using h, fun i hi => absurd hi (by omega), fun _ _ => Nat.le_refl _, fun _ _ _ _ => Nat.le_refl _, hb, fun i hi => absurd hi (by omega)⟩

theorem Rows2.below {base : Nat} {w w' : World} {v : Value} {m : Nat} {L : Nat → List VN} {rs : Nat → Value} {KV IV : Nat → Nat → Value} {lo : Nat → Nat} (h : Rows2 base w v m L rs KV IV lo) (hb : Below w.heap.size w w') : Rows2 base w' v m L rs KV IV lo :=
  ⟨own_below h.row hb (fun x hx => (h.row.lt x hx).2), fun i hi => (h.nest i hi).below hb, h.low, h.mono, Nat.le_trans h.top hb.size, h.inn⟩

theorem Rows2.from {base : Nat} {w w' : World} {v : Value} {m : Nat} {L : Nat → List VN} {rs : Nat → Value} {KV IV : Nat → Nat → Value} {lo : Nat → Nat} (h : Rows2 base w v m L rs KV IV lo) (hf : From base w w') : Rows2 base w' v m L rs KV IV lo :=
  ⟨own_from h.row hf, fun i hi => (h.nest i hi).from (hf.mono (h.low i (by omega))), h.low, h.mono, Nat.le_trans h.top hf.1, h.inn⟩

theorem range_map_snoc {m : Nat} {rs : Nat → Value} {r : Value} : (List.range (m + 1)).map (updF rs m r) = (List.range m).map rs ++ [r] := by
  rw [List.range_succ, List.map_append]
  congr 1
  · apply List.map_congr_left
    intro j hj
    exact updF_other _ _ (by have := List.mem_range.1 hj; omega)
  · simp [updF_same]

/-- One row more: made in new memory, then appended. -/
theorem Rows2.snoc {base : Nat} {w w1 w5 : World} {v v' r : Value} {m : Nat} {L : Nat → List VN} {rs : Nat → Value} {KV IV : Nat → Nat → Value} {lo : Nat → Nat} {K I : Nat → Value} {o : Obj} (h : Rows2 base w v m L rs KV IV lo) (hb : Below w.heap.size w w1) (hn : Nest w.heap.size w1 r (L m) K I)
    (hown : w5.ownsRow base 24 1 v' (m + 1) ((List.range m).map rs ++ [r])) (hg : (w1.alloc o).grownBy w5 v.ownBlock) :
    Rows2 base w5 v' (m + 1) L (updF rs m r) (updF KV m K) (updF IV m I) (fun i => if i < m then lo i else if i = m then w.heap.size else w1.heap.size) := by
  have h1 := h.below hb
  have hg1 : w1.grownBy w5 v.ownBlock := (World.grownBy_alloc w1 o _).trans hg
  have hs := hb.size
  have hgs := hg1.size
  have kept : ∀ {b : Nat} {u : Value} {vs : List VN} {A C : Nat → Value}, Nest b w1 u vs A C → Nest b w5 u vs A C := fun hx => hx.kept hg1 (own_apart hx.row h1.row (by decide)) (fun i hi => own_apart (hx.rk i hi) h1.row (by decide)) (fun i hi => own_apart (hx.ri i hi) h1.row (by decide))
  refine ⟨by rw [range_map_snoc]; exact hown, fun i hi => ?_, fun i hi => ?_, fun i j hij hj => ?_, ?_, fun i hi x hx => ?_⟩
  · by_cases e : i = m
    · subst e
      simp only [updF_same, Nat.lt_irrefl, if_true, if_false]
      exact kept hn
    · simp only [updF_other _ _ e, if_pos (show i < m by omega)]
      exact kept (h1.nest i (by omega))
  · have hl := h.low m (Nat.le_refl _)
    have ht := h.top
    by_cases e : i < m
    · simp only [if_pos e]; exact h.low i (by omega)
    · by_cases e2 : i = m
      · simp only [if_neg e, if_pos e2]; omega
      · simp only [if_neg e, if_neg e2]; omega
  · have ht := h.top
    by_cases e : j < m
    · simp only [if_pos e, if_pos (show i < m by omega)]; exact h.mono i j hij (by omega)
    · by_cases e1 : i < m
      · have := h.mono i m (by omega) (Nat.le_refl _)
        by_cases e2 : j = m
        · simp only [if_pos e1, if_neg e, if_pos e2]; omega
        · simp only [if_pos e1, if_neg e, if_neg e2]; omega
      · by_cases e2 : j = m
        · simp only [if_neg e1, if_neg e, if_pos e2, if_pos (show i = m by omega)]; omega
        · by_cases e3 : i = m
          · simp only [if_neg e1, if_neg e, if_neg e2, if_pos e3]; omega
          · simp only [if_neg e1, if_neg e, if_neg e2, if_neg e3]; omega
  · simp only [if_neg (show ¬ m + 1 < m by omega), if_neg (show ¬ m + 1 = m by omega)]; omega
  · have ht := h.top
    by_cases e : i = m
    · subst e
      simp only [updF_same] at hx
      simp only [if_neg (show ¬ i + 1 < i by omega), if_neg (show ¬ i + 1 = i by omega)]
      exact (hn.inn hx).2
    · simp only [updF_other _ _ e] at hx
      have := h.inn i (by omega) x hx
      by_cases e2 : i + 1 < m
      · simp only [if_pos e2]; exact this
      · obtain e3 : i + 1 = m := by omega
        rw [e3] at this
        simp only [if_neg e2, if_pos e3]; omega

/-- Rows of nodes as they are read. -/
def RowsAt (B : Nat) (w : World) (v : Value) (m : Nat) (L : Nat → List VN) : Prop :=
  m ≤ 1048576 ∧ ∃ a cap, v = .slice a m cap ∧ (0 < m → ∃ b, a = some ⟨b, 0, none⟩ ∧ b < B ∧ ∀ i, i < m → ∃ r, w.cell? ⟨b, i, none⟩ = some r ∧ NodesAt B w r (L i))

theorem Rows2.rows {base : Nat} {w : World} {v : Value} {m : Nat} {L : Nat → List VN} {rs : Nat → Value} {KV IV : Nat → Nat → Value} {lo : Nat → Nat} (h : Rows2 base w v m L rs KV IV lo) (hm : m ≤ 80) (hf : ∀ i, i < m → Few (L i) ∧ ∀ j, j < (L i).length → Fits (nodeAt (L i) j)) : RowsAt w.heap.size w v m L := by
  obtain ⟨a, c, e⟩ := own_slice h.row
  subst e
  refine ⟨by omega, a, c, rfl, fun hp => ?_⟩
  obtain ⟨g, cap, e, _, hlt⟩ := h.row.form hp
  cases e
  refine ⟨g, rfl, hlt, fun i hi => ⟨rs i, ?_, (h.nest i hi).nodes (by have := (hf i hi).1.1; omega) (hf i hi).2⟩⟩
  rw [h.row.cellAt i (by omega)]
  simp [hi]
end Go.Proofs.YtiamkmkbkehldaaGreatDoor

/-
  spec.l1Make: the nodes of all parts, and a root behind them.
-/
namespace Go.Proofs.YtiamkmkbkehldaaGreatDoor
open Go.RowKit
set_option linter.unusedSimpArgs false
set_option linter.unusedVariables false

def catNs (L : Nat → List VN) : Nat → List VN
  | 0 => []
  | i + 1 => catNs L i ++ (L i).map (shiftN ((catNs L i).length : Int))
def catKs (L : Nat → List VN) : Nat → List Int
  | 0 => []
  | i + 1 => catKs L i ++ [((catNs L (i + 1)).length : Int) - 1]
def makeNs (kind : Int) (keys : List ByteArray) (L : Nat → List VN) (m : Nat) : List VN := catNs L m ++ [{ kind := kind, n := 0, s := ByteArray.empty, keys := keys, kids := catKs L m }]

theorem catKs_len (L : Nat → List VN) : ∀ i, (catKs L i).length = i := by
  intro i
  induction i with
  | zero => rfl
  | succ i ih => simp [catKs, ih]
theorem catNs_len (L : Nat → List VN) (i : Nat) : (catNs L (i + 1)).length = (catNs L i).length + (L i).length := by simp [catNs]
theorem catNs_mono (L : Nat → List VN) {i j : Nat} (h : i ≤ j) : (catNs L i).length ≤ (catNs L j).length := by
  induction j with
  | zero => obtain rfl : i = 0 := by omega
            exact Nat.le_refl _
  | succ j ih =>
    rcases Nat.lt_or_ge i (j + 1) with e | e
    · have := ih (by omega)
      rw [catNs_len]
      omega
    · obtain rfl : i = j + 1 := by omega
      exact Nat.le_refl _

/-- Nodes and kids, each in a row of its own. -/
structure Duo (base : Nat) (w wr : World) (v kv : Value) (ns : List VN) (ks : List Int) (KV IV : Nat → Value) : Prop where
  nest : Nest base wr v ns KV IV
  kids : wr.ownsRow base 2 1 kv ks.length (ks.map (.int .i64))
  ki : ∀ j, j < ns.length → ∀ y, kv.ownBlock = some y → (IV j).ownBlock ≠ some y
  frame : Below base w wr

theorem Duo.laid {base : Nat} {w wr w' : World} {v v' kv : Value} {ns add : List VN} {ks : List Int} {KV IV KV' IV' : Nat → Value} (h : Duo base w wr v kv ns ks KV IV) (l : Laid base wr w' v v' ns add KV IV KV' IV') (hb : base ≤ wr.heap.size) : Duo base w w' v' kv (ns ++ add) ks KV' IV' := by
  refine ⟨l.1, h.kids.kept l.2.1 (own_apart h.kids h.nest.row (by decide)), fun j hj y hy => ?_, h.frame.grown l.2.1 hb (fun k hk => (h.nest.row.lt k hk).1)⟩
  by_cases e : j < ns.length
  · rw [(l.2.2.2.1 j e).2]; exact h.ki j e y hy
  · intro e2
    have := (l.2.2.2.2 j (by omega) (by simpa using hj)).2 y e2
    have := (h.kids.lt y hy).2
    omega

theorem Duo.kid {base : Nat} {w wr w5 : World} {v kv kv' : Value} {ns : List VN} {ks : List Int} {KV IV : Nat → Value} {o : Obj} {q : Int} (h : Duo base w wr v kv ns ks KV IV) (hb : base ≤ wr.heap.size)
    (hown : w5.ownsRow base 2 1 kv' (ks.length + 1) (ks.map (.int .i64) ++ [.int .i64 q])) (hg : (wr.alloc o).grownBy w5 kv.ownBlock) (hat : kv'.ownBlock = kv.ownBlock ∨ kv'.ownBlock = some (wr.heap.size + 1)) :
    Duo base w w5 v kv' ns (ks ++ [q]) KV IV := by
  have hg1 : wr.grownBy w5 kv.ownBlock := (World.grownBy_alloc wr o _).trans hg
  have hkk : ∀ i, i < ns.length → (IV i).ownBlock = none ∨ (IV i).ownBlock ≠ kv.ownBlock := by
    intro i hi
    cases e : kv.ownBlock with
    | none => cases e2 : (IV i).ownBlock with
      | none => exact Or.inl rfl
      | some y => exact Or.inr (by simp)
    | some y => exact Or.inr (h.ki i hi y e)
  refine ⟨h.nest.kept hg1 (own_apart h.nest.row h.kids (by decide)) (fun i hi => own_apart (h.nest.rk i hi) h.kids (by decide)) hkk, by simpa using hown, fun j hj y hy => ?_, h.frame.grown hg1 hb (fun k hk => (h.kids.lt k hk).1)⟩
  rcases hat with e | e
  · exact h.ki j hj y (e ▸ hy)
  · rw [e] at hy
    simp at hy
    intro e2
    have := ((h.nest.ri j hj).lt y e2).2
    omega

set_option maxRecDepth 100000 in
set_option maxHeartbeats 3200000 in
theorem l1Make_any (B : Nat) (kind : Int) (kv0 u : Value) (keys : List ByteArray) (m : Nat) (L : Nat → List VN) (w : World) (hks : StrsAt B w kv0 keys) (hu : RowsAt B w u m L) (hB : B ≤ w.heap.size) (hm : m ≤ 100000) (hkn : keys.length ≤ 100000) (hn : (catNs L m).length + 1 ≤ 100000) (hnear : ∀ i, i < m → 0 < (L i).length ∧ ∀ j, j < (L i).length → Near (nodeAt (L i) j)) :
    Calls Tryz.prog 100 #[.int .i64 kind, kv0, u] w fun e w' => ∃ r KV IV, e = .returned r ∧ Nest w.heap.size w' r (makeNs kind keys L m) KV IV ∧ Below w.heap.size w w' := by
  have HU := hideIt hu
  have HKS := hideIt hks
  have HNR := hideIt hnear
  obtain ⟨_, au, cu, rfl, hcu⟩ := hu
  obtain ⟨_, _, aK, cK, rfl, hck⟩ := hks
  have HCU := hideIt hcu
  clear hcu hck hnear
  obtain ⟨i0, hi0, hz0, hs0, hy0⟩ := info_parts infoNode
  obtain ⟨i1, hi1, hz1, hs1, hy1⟩ := info_parts infoStr
  obtain ⟨i2, hi2, hz2, hs2, hy2⟩ := info_parts infoInt
  have hd0 : Duo w.heap.size w ((w.alloc (.cells #[] 73)).alloc (.cells #[] 2)) (.slice (some ⟨w.heap.size, 0, none⟩) 0 0) (.slice (some ⟨w.heap.size + 1, 0, none⟩) 0 0) (catNs L 0) (catKs L 0) (fun _ => undef) (fun _ => undef) := by
    refine ⟨⟨?_, fun i hi => absurd hi (by simp [catNs]), fun i hi => absurd hi (by simp [catNs]), fun i j hi => absurd hi (by simp [catNs]), fun i j hi => absurd hi (by simp [catNs])⟩, ?_, fun j hj => absurd hj (by simp [catNs]), ((Below.refl _ _).alloc (Nat.le_refl _) _).alloc (by simp) _⟩
    · exact (World.ownsRow_lit (base := w.heap.size) (e := 73) (size := 5) w #[] 0 (Nat.le_refl _) (by simp [maxLen]) rfl).alloc _
    · have := World.ownsRow_lit (base := w.heap.size) (e := 2) (size := 1) (w.alloc (.cells #[] 73)) #[] 0 (by simp) (by simp [maxLen]) rfl
      simpa [catKs] using this
  have HD0 := hideIt hd0
  clear hd0
  go_enter Tryz.func100, Tryz.ntmps100
  go_wp2_with fail
  go_loopw [7, 8, 9] (fun o kd i wr => ∃ (k : Nat) (KV IV : Nat → Value), k ≤ m ∧ i = .int .i64 k ∧ Duo w.heap.size w wr o kd (catNs L k) (catKs L k) KV IV) (fun _ _ i _ => m - (intOf i).toNat)
  case atStart => exact ⟨0, _, _, Nat.zero_le _, rfl, HD0.out⟩
  case round =>
    obtain ⟨k, KV, IV, hk, rfl, hduo⟩ := hrel
    have HD := hideIt hduo
    have zs := hduo.frame.size
    obtain ⟨ao, co, eo⟩ := own_slice hduo.nest.row
    obtain ⟨ai, ci, ei⟩ := own_slice hduo.kids
    obtain ⟨M, hM⟩ : ∃ M, (catNs L k).length = M := ⟨_, rfl⟩
    have HMM := hideIt hM
    have hMle : M ≤ (catNs L m).length := by rw [← hM]; exact catNs_mono L hk
    rw [hM] at eo
    rw [catKs_len] at ei
    subst eo ei
    clear hduo hM
    by_cases hlt : k < m
    · obtain ⟨b, rfl, hbB, hcell⟩ := HCU.out (by omega)
      obtain ⟨r, hcr, hnr⟩ := hcell k hlt
      have hcr' := (below_cell HD.out.frame (by omega)).trans hcr
      have HNK := hideIt (hnr.below (HD.out.frame.mono hB))
      obtain ⟨_, ar, cr, rfl, _⟩ := hnr
      have HL1 := hideIt (catNs_mono L (show k + 1 ≤ m by omega))
      have HLN := hideIt (catNs_len L k)
      obtain ⟨Lk, hLk⟩ : ∃ Lk, (L k).length = Lk := ⟨_, rfl⟩
      have HLK := hideIt hLk
      rw [hLk] at hcr'
      have hMb : M + Lk + 1 ≤ 100000 := by
        have h1 := HL1.out
        have h2 := HLN.out
        rw [HMM.out, hLk] at h2
        omega
      have HNK2 := hideIt HNK.out
      rw [hLk] at HNK2
      have hLp : 0 < Lk := by rw [← hLk]; exact (HNR.out k hlt).1
      clear hcell hcr hLk hMle
      go_wp2_with fail
      refine (l1Add_any B w.heap.size (.slice ao M co) (.slice ar Lk cr) (catNs L k) (L k) KV IV wr HD.out.nest HNK2.out hB zs (by rw [HMM.out, HLK.out]; omega) (HNR.out k hlt).2).mono ?_
      rintro e w3 ⟨v3, KV3, IV3, rfl, hl3⟩
      have hd3 := HD.out.laid hl3 zs
      have HD3 : Hid (Duo w.heap.size w w3 v3 (.slice ai k ci) (catNs L (k + 1)) (catKs L k) KV3 IV3) := hd3
      have z3 := HD3.out.frame.size
      obtain ⟨a3, c3, e3⟩ := own_slice HD3.out.nest.row
      obtain ⟨N, hN⟩ : ∃ N, (catNs L (k + 1)).length = N := ⟨_, rfl⟩
      have hN1 : N ≤ 100000 := by rw [← hN, HLN.out, HMM.out, HLK.out]; omega
      have hN0 : 1 ≤ N := by rw [← hN, HLN.out, HMM.out, HLK.out]; omega
      have HNN := hideIt hN
      rw [hN] at e3
      subst e3
      have HKD := hideIt HD3.out.kids
      rw [catKs_len] at HKD
      have HKS2 : Hid (catKs L (k + 1) = catKs L k ++ [(N : Int) - 1]) := by rw [Hid, ← HNN.out]; rfl
      clear hl3 hd3 hN
      go_wp2_with (at_builtin; refine wpList_append_own_at _ rfl _ _ 71 rfl w.heap.size 2 i2 (.int .i64 0) 1 8 Tryz.underlying71 hi2 hz2 hs2 hy2 rfl (by decide) _ _ _ rfl (HKD.out.alloc _) ⟨w3.heap.size, 0, none⟩ 1 1 [.int .i64 ((N : Int) - 1)] rfl rfl ?c1 ?c2 ?c3 ?c4 ?c5 ?_)
      case c1 => exact cell_one_new _ _ _
      case c2 => first | rfl | (intro u hu; simp at hu; subst hu; rfl)
      case c3 => unfold maxLen; omega
      case c4 => omega
      case c5 => first | omega | (simp; omega)
      intro kv' w5 hown hgrow _ hat
      have HD5 := hideIt (HD3.out.kid (by omega) (by rw [catKs_len]; exact hown) hgrow (by simpa using hat))
      clear hown hgrow hat
      go_wp2_with fail
      go_roundw
      case rel => exact ⟨k + 1, KV3, IV3, by omega, by go_num, by rw [HKS2.out]; exact HD5.out⟩
      case measure => simp [intOf]; omega
    · obtain rfl : k = m := by omega
      have HOWN : Hid ((wr.alloc (.cells #[] 9)).ownsRow w.heap.size 9 1 (.slice (some ⟨wr.heap.size, 0, none⟩) 0 0) 0 []) := World.ownsRow_lit wr #[] 0 zs (by simp [maxLen]) rfl
      have HSRC : Hid (0 < keys.length → ∃ ad, aK = some ad ∧ ∀ j u, (keys.map Value.string)[j]? = some u → (wr.alloc (.cells #[] 9)).cell? (ad.add j) = some u) := by
        intro hp
        obtain ⟨_, _, aK', cK', e, hck⟩ := HKS.out
        cases e
        obtain ⟨bk, ok, rfl, hbk, hcc⟩ := hck hp
        refine ⟨_, rfl, fun j u hj => ?_⟩
        have hj' : j < keys.length := by have := (List.getElem?_eq_some_iff.1 hj).1; simpa using this
        rw [show (⟨bk, ok, none⟩ : Addr).add j = ⟨bk, ok + j, none⟩ by simp [Addr.add], below_cell ((Below.refl _ wr).alloc (Nat.le_refl _) _) (by omega), below_cell HD.out.frame (by omega), hcc j hj']
        simp [hj', keyAt] at hj ⊢
        exact hj
      go_wp2_with (at_builtin; refine wpList_append_src rfl _ _ 70 rfl w.heap.size 9 i1 (.string ByteArray.empty) 1 16 Tryz.underlying70 hi1 hz1 hs1 hy1 rfl (by decide) _ 0 [] rfl HOWN.out aK keys.length cK (keys.map .string) rfl (by simp) HSRC.out ?c2 ?c3 ?c4 ?c5 ?_)
      case c2 => intro u hu; first | rfl | (obtain ⟨q, _, rfl⟩ := List.mem_map.1 hu; rfl)
      case c3 => unfold maxLen; omega
      case c4 => omega
      case c5 => first | omega | (simp; omega)
      intro vk w5 hk2 hg2 hat2
      (try simp only [Nat.zero_add, List.nil_append] at hk2)
      have hgg : wr.grownBy w5 none := (World.grownBy_alloc wr _ none).andThen hg2 (fun j hj => Or.inl (by simp [Value.ownBlock] at hj; omega))
      have nn : ∀ x : Option Nat, x = none ∨ x ≠ none := fun x => by cases x <;> simp
      have hnest5 := HD.out.nest.kept hgg (nn _) (fun _ _ => nn _) (fun _ _ => nn _)
      have hkids5 := HD.out.kids.kept hgg (nn _)
      have hb5 : Below w.heap.size w w5 := HD.out.frame.grown hgg zs (fun k hk => by cases hk)
      have HFK : Hid (∀ j, j < (catNs L k).length → ∀ y, vk.ownBlock = some y → (KV j).ownBlock ≠ some y) := by
        intro j hj y hy e
        have h1 := ((HD.out.nest.rk j hj).lt y e).2
        rcases hat2 with e2 | e2
        · rw [e2] at hy; simp [Value.ownBlock] at hy; omega
        · rw [e2] at hy; simp at hy; omega
      obtain ⟨ak, ck, hvk⟩ := own_slice hk2
      subst hvk
      have HN5 := hideIt hnest5
      have HK5 := hideIt hkids5
      have HV5 := hideIt hk2
      have HB5 := hideIt hb5
      have z5 := hb5.size
      have HROW := hideIt (hnest5.row.alloc (.cells #[.int .i64 kind, .int .i64 0, .string ⟨#[]⟩, .slice ak keys.length ck, .slice ai k ci] 73))
      rw [HMM.out] at HROW
      clear hnest5 hkids5 hb5 hk2 hg2 hat2 hgg nn HSRC HOWN
      go_wp2_with (at_builtin; go_loud (refine wpList_append_own_at _ rfl _ _ 24 rfl w.heap.size 73 i0 zeroNode 5 80 Tryz.underlying24 hi0 hz0 hs0 hy0 rfl (by decide) _ _ _ rfl HROW.out ⟨w5.heap.size, 0, none⟩ 1 1 [.int .i64 kind, .int .i64 0, .string ⟨#[]⟩, .slice ak keys.length ck, .slice ai k ci] rfl rfl ?c1 ?c2 ?c3 ?c4 ?c5 ?_))
      case c1 => exact news5_of _ _ _ _ _ _ _ (by simp)
      case c2 => intro u hu; simp at hu; rcases hu with rfl | rfl | rfl | rfl | rfl <;> rfl
      case c3 => unfold maxLen; omega
      case c4 => omega
      case c5 => simp; omega
      intro v' w6 hown hgrow _ hat
      have hg6 : w5.grownBy w6 (Value.slice ao M co).ownBlock := (World.grownBy_alloc w5 _ _).trans hgrow
      have HF := hideIt (Nest.snoc (x := { kind := kind, n := 0, s := ⟨#[]⟩, keys := keys, kids := catKs L k }) HN5.out HV5.out HK5.out HFK.out (fun j hj => HD.out.ki j hj) (by rw [HMM.out]; exact hown) hg6)
      have HB6 : Hid (Below w.heap.size w w6) := HB5.out.grown hg6 z5 (fun x hx => (HN5.out.row.lt x hx).1)
      clear hown hgrow hat hg6
      go_wp2_with fail
      go_ret
      exact ⟨_, _, _, rfl, HF.out, HB6.out⟩
end Go.Proofs.YtiamkmkbkehldaaGreatDoor
