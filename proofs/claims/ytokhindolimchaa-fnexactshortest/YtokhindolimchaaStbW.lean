/-
  Rows of rows of nodes: how they lie, laid by appending. No walk.
-/
import Derived.Test.YtokhindolimchaaTree
import Derived.Maps.Range
import Derived.Test.YtokhindolimchaaGotP
import Derived.Test.YtokhindolimchaaStb
import Derived.Test.YtokhindolimchaaMarkN
import Derived.Test.YtokhindolimchaaProg
import Derived.BigQuiet
import Derived.BigRegion
namespace Go.Proofs.Ytokhindolimchaa
open Go.RowKit
set_option linter.unusedSimpArgs false
set_option linter.unusedVariables false

/-- All blocks from base on are as they were. -/
def From (base : Nat) (w w' : World) : Prop := w.heap.size ≤ w'.heap.size ∧ ∀ c, base ≤ c → c < w.heap.size → w'.heap[c]? = w.heap[c]?
theorem From.below {base : Nat} {a w w' : World} (h : From base a w) (hb : Below w.heap.size w w') : From base a w' :=
  ⟨Nat.le_trans h.1 hb.size, fun c h1 h2 => (hb.block c (by have := h.1; omega)).trans (h.2 c h1 h2)⟩
theorem From.only {base : Nat} {P : Nat → Prop} {a w w' : World} (h : From base a w) (ho : Only P w w') (hP : ∀ c, P c → c < base) : From base a w' :=
  ⟨Nat.le_trans h.1 ho.1, fun c h1 h2 => (ho.2 c (by have := h.1; omega) (fun p => by have := hP c p; omega)).trans (h.2 c h1 h2)⟩
theorem From.refl (base : Nat) (w : World) : From base w w := ⟨Nat.le_refl _, fun _ _ _ => rfl⟩
theorem From.mono {base base' : Nat} {w w' : World} (h : From base w w') (hb : base ≤ base') : From base' w w' := ⟨h.1, fun c h1 h2 => h.2 c (by omega) h2⟩

theorem own_from {w w' : World} {base e s n : Nat} {v : Value} {xs : List Value} (h : w.ownsRow base e s v n xs) (hf : From base w w') : w'.ownsRow base e s v n xs := by
  refine ⟨h.1, ?_⟩
  rcases h.2 with hn | ⟨g, cap, cur, rfl, hg, hgg, rest⟩
  · exact .inl hn
  · exact .inr ⟨g, cap, cur, rfl, hg, (hf.2 g hg (h.lt g rfl).2).trans hgg, rest⟩

theorem Nest.from {base : Nat} {w w' : World} {v : Value} {vs : List VN} {KV IV : Nat → Value} (h : Nest base w v vs KV IV) (hf : From base w w') : Nest base w' v vs KV IV :=
  ⟨own_from h.row hf, fun i hi => own_from (h.rk i hi) hf, fun i hi => own_from (h.ri i hi) hf, h.dkk, h.dii⟩

def blk (v : Value) : Nat := (v.ownBlock).getD 0
def knOf (vs : List VN) (i : Nat) : Nat := (nodeAt vs i).keys.length
def inOf (vs : List VN) (i : Nat) : Nat := (nodeAt vs i).kids.length

/-- Few nodes, with few keys and kids. -/
def Few (vs : List VN) : Prop := vs.length ≤ 80 ∧ ∀ i, i < vs.length → (nodeAt vs i).keys.length ≤ 80 ∧ (nodeAt vs i).kids.length ≤ 80

/-- A Nest, ready to be marked. -/
theorem Nest.mark {base : Nat} {w : World} {a : Option Addr} {n c : Nat} {vs : List VN} {KV IV : Nat → Value} (h : Nest base w (.slice a n c) vs KV IV) (hl : vs.length = n) (hf : Few vs) :
    0 < n → a = some ⟨blk (.slice a n c), 0, none⟩ ∧ Marky base w (blk (.slice a n c)) n (knOf vs) (inOf vs) (fun i => blk (KV i)) (fun i => blk (IV i)) := by
  subst hl
  intro hp
  obtain ⟨g, cap, e, _⟩ := h.row.form hp
  cases e
  exact ⟨rfl, Nest.marky h (by have := hf.1; omega) (fun i hi => by have := hf.2 i hi; omega)⟩

/-- The blocks of a Nest. -/
def InNest (r : Value) (n : Nat) (K I : Nat → Value) (x : Nat) : Prop := r.ownBlock = some x ∨ ∃ j, j < n ∧ ((K j).ownBlock = some x ∨ (I j).ownBlock = some x)

theorem Nest.inn {base : Nat} {w : World} {v : Value} {vs : List VN} {KV IV : Nat → Value} (h : Nest base w v vs KV IV) {x : Nat} (hx : InNest v vs.length KV IV x) : base ≤ x ∧ x < w.heap.size := by
  rcases hx with hx | ⟨j, hj, hx | hx⟩
  · exact h.row.lt x hx
  · exact (h.rk j hj).lt x hx
  · exact (h.ri j hj).lt x hx

theorem blk_of {w : World} {base e s n : Nat} {v : Value} {xs : List Value} (h : w.ownsRow base e s v n xs) (hn : 0 < n) : v.ownBlock = some (blk v) := by
  obtain ⟨g, cap, rfl, _⟩ := h.form hn
  rfl

theorem Nest.marked {base : Nat} {w : World} {v : Value} {vs : List VN} {KV IV : Nat → Value} (h : Nest base w v vs KV IV) {x : Nat} (hx : Marked (blk v) vs.length (knOf vs) (inOf vs) (fun i => blk (KV i)) (fun i => blk (IV i)) x) : InNest v vs.length KV IV x := by
  obtain ⟨hp, rfl | ⟨i, hi, ⟨hk, rfl⟩ | ⟨hk, rfl⟩⟩⟩ := hx
  · exact Or.inl (blk_of h.row hp)
  · exact Or.inr ⟨i, hi, Or.inl (blk_of (h.rk i hi) hk)⟩
  · exact Or.inr ⟨i, hi, Or.inr (blk_of (h.ri i hi) hk)⟩

/-- A row of slices lies apart from a Nest. -/
theorem Nest.far {base base' : Nat} {w : World} {v r : Value} {n : Nat} {xs : List Value} {vs : List VN} {KV IV : Nat → Value} (h : Nest base w v vs KV IV) (hr : w.ownsRow base' 24 1 r n xs) {x : Nat} (hx : InNest v vs.length KV IV x) : r.ownBlock ≠ some x := by
  intro e
  rcases hx with hx | ⟨j, hj, hx | hx⟩
  · rcases own_apart hr h.row (by decide) with e2 | e2
    · rw [e] at e2; cases e2
    · exact e2 (e.trans hx.symm)
  · rcases own_apart hr (h.rk j hj) (by decide) with e2 | e2
    · rw [e] at e2; cases e2
    · exact e2 (e.trans hx.symm)
  · rcases own_apart hr (h.ri j hj) (by decide) with e2 | e2
    · rw [e] at e2; cases e2
    · exact e2 (e.trans hx.symm)

def updF {α : Type} (F : Nat → α) (k : Nat) (v : α) (i : Nat) : α := if i = k then v else F i
theorem updF_same {α : Type} (F : Nat → α) (k : Nat) (v : α) : updF F k v k = v := if_pos rfl
theorem updF_other {α : Type} (F : Nat → α) {k i : Nat} (v : α) (h : i ≠ k) : updF F k v i = F i := if_neg h

structure Rows2 (base : Nat) (w : World) (v : Value) (m : Nat) (L : Nat → List VN) (rs : Nat → Value) (KV IV : Nat → Nat → Value) (lo : Nat → Nat) : Prop where
  row : w.ownsRow base 24 1 v m ((List.range m).map rs)
  nest : ∀ i, i < m → Nest (lo i) w (rs i) (L i) (KV i) (IV i)
  low : ∀ i, i ≤ m → base ≤ lo i
  mono : ∀ i j, i ≤ j → j ≤ m → lo i ≤ lo j
  top : lo m ≤ w.heap.size
  inn : ∀ i, i < m → ∀ x, InNest (rs i) (L i).length (KV i) (IV i) x → x < lo (i + 1)

theorem Rows2.start {base : Nat} {w : World} {v : Value} (h : w.ownsRow base 24 1 v 0 []) (hb : base ≤ w.heap.size) (L : Nat → List VN) : Rows2 base w v 0 L (fun _ => undef) (fun _ _ => undef) (fun _ _ => undef) (fun _ => base) :=
  ⟨by simpa using h, fun i hi => absurd hi (by omega), fun _ _ => Nat.le_refl _, fun _ _ _ _ => Nat.le_refl _, hb, fun i hi => absurd hi (by omega)⟩

theorem Rows2.below {base : Nat} {w w' : World} {v : Value} {m : Nat} {L : Nat → List VN} {rs : Nat → Value} {KV IV : Nat → Nat → Value} {lo : Nat → Nat} (h : Rows2 base w v m L rs KV IV lo) (hb : Below w.heap.size w w') : Rows2 base w' v m L rs KV IV lo :=
  ⟨own_below h.row hb (fun x hx => (h.row.lt x hx).2), fun i hi => (h.nest i hi).below hb, h.low, h.mono, Nat.le_trans h.top hb.size, h.inn⟩

theorem Rows2.from {base : Nat} {w w' : World} {v : Value} {m : Nat} {L : Nat → List VN} {rs : Nat → Value} {KV IV : Nat → Nat → Value} {lo : Nat → Nat} (h : Rows2 base w v m L rs KV IV lo) (hf : From base w w') : Rows2 base w' v m L rs KV IV lo :=
  ⟨own_from h.row hf, fun i hi => (h.nest i hi).from (hf.mono (h.low i (by omega))), h.low, h.mono, Nat.le_trans h.top hf.1, h.inn⟩

theorem range_map_snoc {m : Nat} {rs : Nat → Value} {r : Value} : (List.range (m + 1)).map (updF rs m r) = (List.range m).map rs ++ [r] := by
  rw [List.range_succ, List.map_append]
  congr 1
  · apply List.map_congr_left
    intro j hj
    exact updF_other _ _ (by have := List.mem_range.1 hj; omega)
  · simp [updF_same]

/-- One row more: made in new memory, then appended. -/
theorem Rows2.snoc {base : Nat} {w w1 w5 : World} {v v' r : Value} {m : Nat} {L : Nat → List VN} {rs : Nat → Value} {KV IV : Nat → Nat → Value} {lo : Nat → Nat} {K I : Nat → Value} {o : Obj} (h : Rows2 base w v m L rs KV IV lo) (hb : Below w.heap.size w w1) (hn : Nest w.heap.size w1 r (L m) K I)
    (hown : w5.ownsRow base 24 1 v' (m + 1) ((List.range m).map rs ++ [r])) (hg : (w1.alloc o).grownBy w5 v.ownBlock) :
    Rows2 base w5 v' (m + 1) L (updF rs m r) (updF KV m K) (updF IV m I) (fun i => if i < m then lo i else if i = m then w.heap.size else w1.heap.size) := by
  have h1 := h.below hb
  have hg1 : w1.grownBy w5 v.ownBlock := (World.grownBy_alloc w1 o _).trans hg
  have hs := hb.size
  have hgs := hg1.size
  have kept : ∀ {b : Nat} {u : Value} {vs : List VN} {A C : Nat → Value}, Nest b w1 u vs A C → Nest b w5 u vs A C := fun hx => hx.kept hg1 (own_apart hx.row h1.row (by decide)) (fun i hi => own_apart (hx.rk i hi) h1.row (by decide)) (fun i hi => own_apart (hx.ri i hi) h1.row (by decide))
  refine ⟨by rw [range_map_snoc]; exact hown, fun i hi => ?_, fun i hi => ?_, fun i j hij hj => ?_, ?_, fun i hi x hx => ?_⟩
  · by_cases e : i = m
    · subst e
      simp only [updF_same, Nat.lt_irrefl, if_true, if_false]
      exact kept hn
    · simp only [updF_other _ _ e, if_pos (show i < m by omega)]
      exact kept (h1.nest i (by omega))
  · have hl := h.low m (Nat.le_refl _)
    have ht := h.top
    by_cases e : i < m
    · simp only [if_pos e]; exact h.low i (by omega)
    · by_cases e2 : i = m
      · simp only [if_neg e, if_pos e2]; omega
      · simp only [if_neg e, if_neg e2]; omega
  · have ht := h.top
    by_cases e : j < m
    · simp only [if_pos e, if_pos (show i < m by omega)]; exact h.mono i j hij (by omega)
    · by_cases e1 : i < m
      · have := h.mono i m (by omega) (Nat.le_refl _)
        by_cases e2 : j = m
        · simp only [if_pos e1, if_neg e, if_pos e2]; omega
        · simp only [if_pos e1, if_neg e, if_neg e2]; omega
      · by_cases e2 : j = m
        · simp only [if_neg e1, if_neg e, if_pos e2, if_pos (show i = m by omega)]; omega
        · by_cases e3 : i = m
          · simp only [if_neg e1, if_neg e, if_neg e2, if_pos e3]; omega
          · simp only [if_neg e1, if_neg e, if_neg e2, if_neg e3]; omega
  · simp only [if_neg (show ¬ m + 1 < m by omega), if_neg (show ¬ m + 1 = m by omega)]; omega
  · have ht := h.top
    by_cases e : i = m
    · subst e
      simp only [updF_same] at hx
      simp only [if_neg (show ¬ i + 1 < i by omega), if_neg (show ¬ i + 1 = i by omega)]
      exact (hn.inn hx).2
    · simp only [updF_other _ _ e] at hx
      have := h.inn i (by omega) x hx
      by_cases e2 : i + 1 < m
      · simp only [if_pos e2]; exact this
      · obtain e3 : i + 1 = m := by omega
        rw [e3] at this
        simp only [if_neg e2, if_pos e3]; omega

/-- Rows of nodes as they are read. -/
def RowsAt (B : Nat) (w : World) (v : Value) (m : Nat) (L : Nat → List VN) : Prop :=
  m ≤ 1048576 ∧ ∃ a cap, v = .slice a m cap ∧ (0 < m → ∃ b, a = some ⟨b, 0, none⟩ ∧ b < B ∧ ∀ i, i < m → ∃ r, w.cell? ⟨b, i, none⟩ = some r ∧ NodesAt B w r (L i))

theorem Rows2.rows {base : Nat} {w : World} {v : Value} {m : Nat} {L : Nat → List VN} {rs : Nat → Value} {KV IV : Nat → Nat → Value} {lo : Nat → Nat} (h : Rows2 base w v m L rs KV IV lo) (hm : m ≤ 80) (hf : ∀ i, i < m → Few (L i) ∧ ∀ j, j < (L i).length → Fits (nodeAt (L i) j)) : RowsAt w.heap.size w v m L := by
  obtain ⟨a, c, e⟩ := own_slice h.row
  subst e
  refine ⟨by omega, a, c, rfl, fun hp => ?_⟩
  obtain ⟨g, cap, e, _, hlt⟩ := h.row.form hp
  cases e
  refine ⟨g, rfl, hlt, fun i hi => ⟨rs i, ?_, (h.nest i hi).nodes (by have := (hf i hi).1.1; omega) (hf i hi).2⟩⟩
  rw [h.row.cellAt i (by omega)]
  simp [hi]
end Go.Proofs.Ytokhindolimchaa

/-
  Keys with their places put in order, one behind the other. Plain mathematics, and slices of a row.
-/
namespace Go.Proofs.Ytokhindolimchaa
open Go.RowKit
set_option linter.unusedSimpArgs false
set_option linter.unusedVariables false

/-- The first i keys in order with their places; none: two are the same. -/
def sortIn (ks : List ByteArray) : Nat → Option (List ByteArray × List Nat)
  | 0 => some ([], [])
  | i + 1 => match sortIn ks i with
    | none => none
    | some (ns, ps) => if hasK ns (keyAt ks i) = true then none else some (ns.take (posK ns (keyAt ks i)) ++ [keyAt ks i] ++ ns.drop (posK ns (keyAt ks i)), ps.take (posK ns (keyAt ks i)) ++ [i] ++ ps.drop (posK ns (keyAt ks i)))

theorem sortIn_len {ks : List ByteArray} : ∀ {i : Nat} {ns : List ByteArray} {ps : List Nat}, sortIn ks i = some (ns, ps) → ns.length = i ∧ ps.length = i := by
  intro i
  induction i with
  | zero => intro ns ps h; simp [sortIn] at h; obtain ⟨rfl, rfl⟩ := h; exact ⟨rfl, rfl⟩
  | succ i ih =>
    intro ns ps h
    rw [sortIn] at h
    split at h
    · cases h
    · rename_i ns0 ps0 h0
      obtain ⟨h1, h2⟩ := ih h0
      split at h
      · cases h
      · injection h with h
        injection h with e1 e2
        subst e1 e2
        have := (posK_spec (l := ns0) (keyAt ks i)).1
        simp
        omega

theorem sortIn_mem {ks : List ByteArray} : ∀ {i : Nat} {ns : List ByteArray} {ps : List Nat}, sortIn ks i = some (ns, ps) → ∀ x ∈ ps, x < i := by
  intro i
  induction i with
  | zero => intro ns ps h; simp [sortIn] at h; obtain ⟨rfl, rfl⟩ := h; simp
  | succ i ih =>
    intro ns ps h
    rw [sortIn] at h
    split at h
    · cases h
    · rename_i ns0 ps0 h0
      split at h
      · cases h
      · injection h with h
        injection h with e1 e2
        subst e1 e2
        intro x hx
        simp only [List.mem_append, List.mem_singleton] at hx
        rcases hx with (hx | hx) | hx
        · have := ih h0 x (List.mem_of_mem_take hx); omega
        · omega
        · have := ih h0 x (List.mem_of_mem_drop hx); omega

theorem sortIn_none {ks : List ByteArray} {i j : Nat} (h : sortIn ks i = none) (hij : i ≤ j) : sortIn ks j = none := by
  obtain ⟨d, rfl⟩ : ∃ d, j = i + d := ⟨j - i, by omega⟩
  clear hij
  induction d with
  | zero => exact h
  | succ d ih => rw [← Nat.add_assoc, sortIn, ih]

theorem sortIn_put {ks : List ByteArray} {i j : Nat} {ns : List ByteArray} {ps : List Nat} (h : sortIn ks i = some (ns, ps)) (hj : posK ns (keyAt ks i) = j) (hn : hasK ns (keyAt ks i) = false) : sortIn ks (i + 1) = some (ns.take j ++ [keyAt ks i] ++ ns.drop j, ps.take j ++ [i] ++ ps.drop j) := by
  rw [sortIn, h]
  simp only [hn, hj]
  rfl

theorem sortIn_twice {ks : List ByteArray} {i : Nat} {ns : List ByteArray} {ps : List Nat} (h : sortIn ks i = some (ns, ps)) (hn : hasK ns (keyAt ks i) = true) : sortIn ks (i + 1) = none := by
  rw [sortIn, h]
  simp only [hn]
  rfl

theorem hasK_at {l : List ByteArray} {key : ByteArray} {j : Nat} (hj : posK l key = j) : hasK l key = (decide (j < l.length) && decide ((keyAt l j).toList = key.toList)) := by unfold hasK; rw [hj]

theorem keyAt_mapGet {l : List ByteArray} {j : Nat} (hj : j < l.length) : (l.map Value.string)[j]? = some (.string (keyAt l j)) := by
  rw [List.getElem?_map, List.getElem?_eq_getElem hj]
  simp [keyAt, hj]

/-- A row of rows, by its cells alone. -/
def CellsAt (B : Nat) (w : World) (v : Value) (m : Nat) (cs : Nat → Value) : Prop :=
  ∃ a cap, v = .slice a m cap ∧ (∀ i, i < m → ∃ a n c, cs i = .slice a n c) ∧ (0 < m → ∃ b o, a = some ⟨b, o, none⟩ ∧ b < B ∧ ∀ i, i < m → w.cell? ⟨b, o + i, none⟩ = some (cs i))

theorem own_some {w : World} {base e s n x : Nat} {v : Value} {xs : List Value} (h : w.ownsRow base e s v n xs) (hx : v.ownBlock = some x) : ∃ cap, v = .slice (some ⟨x, 0, none⟩) n cap ∧ n ≤ cap := by
  rcases h.2 with ⟨rfl, _⟩ | ⟨g, cap, cur, rfl, _, _, hnc, _⟩
  · simp [Value.ownBlock] at hx
  · simp [Value.ownBlock] at hx
    subst hx
    exact ⟨cap, rfl, hnc⟩

theorem elemStr : Try.prog.elem 54 = 9 := by kernel_rfl
theorem elemRow : Try.prog.elem 123 = 24 := by kernel_rfl
theorem sizeStr (w : World) : (sizeOf 9).run Try.prog w = .ok 1 w := by
  obtain ⟨i, hi, hz, hs, hy⟩ := info_parts infoStr
  simp [sizeOf, typeInfo, hi, hs]
theorem infoRowV : (Try.prog.info? 24).map (fun i => (i.zero, i.size, i.bytes)) = some (some (.slice none 0 0), 1, 24) := by kernel_rfl
theorem sizeRow (w : World) : (sizeOf 24).run Try.prog w = .ok 1 w := by
  obtain ⟨i, hi, hz, hs, hy⟩ := info_parts infoRowV
  simp [sizeOf, typeInfo, hi, hs]

theorem sliced_to (g j cap : Nat) : sliced (some ⟨g, 0, none⟩) 0 j cap 1 = .slice (some ⟨g, 0, none⟩) j cap := by
  unfold sliced
  split
  · rename_i h; subst h; simp
  · simp [Addr.add]
theorem sliced_from (g j n cap : Nat) : ∃ ad, sliced (some ⟨g, 0, none⟩) j n cap 1 = .slice (some ad) (n - j) (cap - j) ∧ (j < n → n ≤ cap → ad = ⟨g, j, none⟩) := by
  unfold sliced
  split
  · rename_i h; subst h; exact ⟨_, rfl, fun h1 h2 => by omega⟩
  · exact ⟨_, rfl, fun _ _ => by simp [Addr.add]; intro h; exact h.symm⟩

theorem strs_to (g n cap j : Nat) (hj : j ≤ cap) (w : World) : (Instr.slice 54 (.slice (some ⟨g, 0, none⟩) n cap) none (some (.int .i64 (j : Int))) none).run Try.prog w = .ok (.slice (some ⟨g, 0, none⟩) j cap) w := by
  rw [run_slice_h (P := Try.prog) (w := w) 54 (some ⟨g, 0, none⟩) n cap (by rw [elemStr]; exact Try.underlying54) .i64 j (by omega) (by omega), elemStr, sizeStr]
  simp only [Result.andThen, Int.toNat_natCast, sliced_to]
theorem rows_to (g n cap j : Nat) (hj : j ≤ cap) (w : World) : (Instr.slice 123 (.slice (some ⟨g, 0, none⟩) n cap) none (some (.int .i64 (j : Int))) none).run Try.prog w = .ok (.slice (some ⟨g, 0, none⟩) j cap) w := by
  rw [run_slice_h (P := Try.prog) (w := w) 123 (some ⟨g, 0, none⟩) n cap (by rw [elemRow]; exact Try.underlying123) .i64 j (by omega) (by omega), elemRow, sizeRow]
  simp only [Result.andThen, Int.toNat_natCast, sliced_to]
theorem strs_from (g n cap j : Nat) (hj : j ≤ n) : ∃ ad, (∀ w, (Instr.slice 54 (.slice (some ⟨g, 0, none⟩) n cap) (some (.int .i64 (j : Int))) none none).run Try.prog w = .ok (.slice (some ad) (n - j) (cap - j)) w) ∧ (j < n → n ≤ cap → ad = ⟨g, j, none⟩) := by
  obtain ⟨ad, h1, h2⟩ := sliced_from g j n cap
  refine ⟨ad, fun w => ?_, h2⟩
  rw [run_slice_l (P := Try.prog) (w := w) 54 (some ⟨g, 0, none⟩) n cap (by rw [elemStr]; exact Try.underlying54) .i64 j (by omega) (by omega), elemStr, sizeStr]
  simp only [Result.andThen, Int.toNat_natCast, h1]
theorem rows_from (g n cap j : Nat) (hj : j ≤ n) : ∃ ad, (∀ w, (Instr.slice 123 (.slice (some ⟨g, 0, none⟩) n cap) (some (.int .i64 (j : Int))) none none).run Try.prog w = .ok (.slice (some ad) (n - j) (cap - j)) w) ∧ (j < n → n ≤ cap → ad = ⟨g, j, none⟩) := by
  obtain ⟨ad, h1, h2⟩ := sliced_from g j n cap
  refine ⟨ad, fun w => ?_, h2⟩
  rw [run_slice_l (P := Try.prog) (w := w) 123 (some ⟨g, 0, none⟩) n cap (by rw [elemRow]; exact Try.underlying123) .i64 j (by omega) (by omega), elemRow, sizeRow]
  simp only [Result.andThen, Int.toNat_natCast, h1]
end Go.Proofs.Ytokhindolimchaa

/-
  slices' swapRange and rotate at rows of numbers: what stands where behind them.
-/
namespace Go.Proofs.Ytokhindolimchaa
open Go.RowKit
set_option linter.unusedSimpArgs false
set_option linter.unusedVariables false

def nums (f : Nat → Int) (j : Nat) : Value := .int .i64 (f j)

theorem nums_set2 {w : World} {g t N : Nat} {f : Nat → Int} (h : w.rowIs g t N (nums f)) (x y : Nat) (u v : Int) : ((w.setCell ⟨g, x, none⟩ (.int .i64 u)).setCell ⟨g, y, none⟩ (.int .i64 v)).rowIs g t N (nums (fun p => if p = y then v else if p = x then u else f p)) := by
  refine ((h.set x _).set y _).congr fun p _ => ?_
  unfold nums
  by_cases e1 : p = y
  · simp [e1]
  · by_cases e2 : p = x
    · subst e2; simp [e1]
    · simp [e1, e2]

/-- Nothing but block g has turned; there may be more blocks. -/
def Sw (g : Nat) (w w' : World) : Prop := w'.os = w.os ∧ w'.tape = w.tape ∧ w'.output = w.output ∧ Only (· = g) w w'

theorem Sw.refl (g : Nat) (w : World) : Sw g w w := ⟨rfl, rfl, rfl, Only.refl _ _⟩
theorem Sw.trans {g : Nat} {a b c : World} (h : Sw g a b) (k : Sw g b c) : Sw g a c := ⟨k.1.trans h.1, k.2.1.trans h.2.1, k.2.2.1.trans h.2.2.1, h.2.2.2.trans k.2.2.2⟩
theorem Sw.set {g : Nat} {a b : World} (h : Sw g a b) (o : Nat) (v : Value) : Sw g a (b.setCell ⟨g, o, none⟩ v) := by
  have hb : Below g b (b.setCell ⟨g, o, none⟩ v) := (Below.refl _ _).setCell (p := ⟨g, o, none⟩) (Nat.le_refl _) v
  exact h.trans ⟨hb.os, hb.tape, hb.output, Only.set (P := (· = g)) b rfl v⟩
theorem Sw.drew {g : Nat} {a b : World} (h : Sw g a b) : Sw g a b.drew := ⟨h.1, h.2.1, h.2.2.1, h.2.2.2⟩
theorem Sw.drewN {g : Nat} {a b : World} (h : Sw g a b) (n : Nat) : Sw g a (b.drewN n) := ⟨h.1, h.2.1, h.2.2.1, h.2.2.2⟩
theorem Sw.below {g B : Nat} {a b : World} (h : Sw g a b) (hB : B ≤ g) (hs : B ≤ a.heap.size) : Below B a b := ⟨h.1, h.2.1, h.2.2.1, h.2.2.2.1, fun k hk => h.2.2.2.2 k (by omega) (by omega)⟩

set_option maxRecDepth 100000 in
set_option maxHeartbeats 4000000 in
theorem swapRange_any (g N cap : Nat) (f : Nat → Int) (a b n : Nat) (cf : Value) (w : World) (h : w.rowIs g 3 N (nums f)) (ha : a + n ≤ N) (hb : b + n ≤ N) (hd : a + n ≤ b ∨ b + n ≤ a) (hN : N ≤ 1099511627776) :
    Calls Try.prog 119 #[.slice (some ⟨g, 0, none⟩) N cap, .int .i64 a, .int .i64 b, .int .i64 n, cf] w fun e w' => e = .returned (.tuple #[]) ∧ w'.rowIs g 3 N (nums (swp a b n f)) ∧ Sw g w w' := by
  have HR := hideIt h
  clear h
  go_enter Try.func119, Try.ntmps119
  go_wp2_with fail
  go_loopw [10] (fun i wr => ∃ k : Nat, k ≤ n ∧ i = .int .i64 k ∧ wr.rowIs g 3 N (nums (swp a b k f)) ∧ Sw g w wr) (fun i _ => n - (intOf i).toNat)
  case atStart => exact ⟨0, Nat.zero_le _, rfl, HR.out.congr fun j _ => by unfold nums; rw [swp_zero], Sw.refl _ _⟩
  case round =>
    obtain ⟨k, hk, rfl, hrow, honly⟩ := hrel
    by_cases hlt : k < n
    · have c1 := hrow.cell (i := a + k) (by omega)
      have c2 := hrow.cell (i := b + k) (by omega)
      have f1 := hrow.frozen (a + k)
      have f2 := hrow.frozen (b + k)
      have hak : a + k < N := by omega
      have hbk : b + k < N := by omega
      have hakI : (a : Int) + (k : Int) < (N : Int) := by omega
      have hbkI : (b : Int) + (k : Int) < (N : Int) := by omega
      have ta : ((a : Int) + (k : Int)).toNat = a + k := by omega
      have tb : ((b : Int) + (k : Int)).toNat = b + k := by omega
      unfold nums at c1 c2
      have hnab : a + k ≠ b + k := by omega
      have hnba : b + k ≠ a + k := by omega
      have HNEW : Hid (((wr.setCell ⟨g, a + k, none⟩ (.int .i64 (swp a b k f (b + k)))).setCell ⟨g, b + k, none⟩ (.int .i64 (swp a b k f (a + k)))).drew.rowIs g 3 N (nums (swp a b (k + 1) f))) := by
        refine (nums_set2 hrow (a + k) (b + k) (swp a b k f (b + k)) (swp a b k f (a + k))).congr fun p _ => ?_
        unfold nums
        rw [swp_succ (by omega)]
      have HO := hideIt ((honly.set (a + k) (.int .i64 (swp a b k f (b + k)))).set (b + k) (.int .i64 (swp a b k f (a + k)))).drew
      clear hrow honly
      go_wp2_with fail
      go_region
      all_goals
        go_wp2_with fail
        go_roundw
        case rel => exact ⟨k + 1, by omega, by go_num, HNEW.out, HO.out⟩
        case measure => simp [intOf]; omega
    · obtain rfl : k = n := by omega
      go_wp2_with fail
      refine ⟨rfl, .tuple #[], results_none rfl _ _ _, rfl, hrow, honly⟩

set_option maxRecDepth 100000 in
set_option maxHeartbeats 4000000 in
theorem rotate_any (g N cap : Nat) (f : Nat → Int) (a m b : Nat) (cf : Value) (w : World) (h : w.rowIs g 3 N (nums f)) (h1 : a < m) (h2 : m < b) (h3 : b ≤ N) (hN : N ≤ 1099511627776) :
    Calls Try.prog 116 #[.slice (some ⟨g, 0, none⟩) N cap, .int .i64 a, .int .i64 m, .int .i64 b, cf] w fun e w' => e = .returned (.tuple #[]) ∧ w'.rowIs g 3 N (nums (rot a m b f)) ∧ Sw g w w' := by
  have HR := hideIt h
  clear h
  have i0 : (m : Int) - (a : Int) = ((m - a : Nat) : Int) := by omega
  have j0 : (b : Int) - (m : Int) = ((b - m : Nat) : Int) := by omega
  go_enter Try.func116, Try.ntmps116
  go_wp2_with fail
  go_loopw [10, 11] (fun vi vj wr => ∃ (s i j : Nat) (fk : Nat → Int), vi = .int .i64 i ∧ vj = .int .i64 j ∧ 0 < i ∧ 0 < j ∧ Hid (s + i = m) ∧ i ≤ m ∧ m + j ≤ b ∧ Hid (∀ p, rot s (s + i) (s + i + j) fk p = rot a m b f p) ∧ wr.rowIs g 3 N (nums fk) ∧ Sw g w wr) (fun vi vj _ => (intOf vi).toNat + (intOf vj).toNat)
  case atStart => exact ⟨a, m - a, b - m, f, by go_num, by go_num, by omega, by omega, (by rw [Hid]; omega), by omega, by omega, (fun p => by rw [show a + (m - a) = m by omega, show m + (b - m) = b by omega]), HR.out, Sw.refl _ _⟩
  case round =>
    obtain ⟨s, i, j, fk, rfl, rfl, hi, hj, HS, him, hjb, HT, hrow, hsw⟩ := hrel
    have HROW := hideIt hrow
    have HSW := hideIt hsw
    clear hrow hsw i0 j0
    have es : (m : Int) - (i : Int) = (s : Int) := by have := HS.out; omega
    by_cases e : i = j
    · have q : ((i : Int) != (j : Int)) = false := by rw [e]; simp
      have HE := hideIt e
      clear e
      go_wp2_with fail
      refine (swapRange_any g N cap fk s m i cf wr HROW.out (by have := HS.out; omega) (by have := HE.out; omega) (Or.inl (by have := HS.out; omega)) hN).mono ?_
      rintro e w1 ⟨rfl, hr1, hs1⟩
      go_wp2_with fail
      refine ⟨rfl, .tuple #[], results_none rfl _ _ _, rfl, hr1.congr fun p _ => ?_, HSW.out.trans hs1⟩
      unfold nums
      rw [← HT.out p, ← HS.out, ← HE.out, rot_same]
    · have q : ((i : Int) != (j : Int)) = true := by rw [bne_iff_ne]; omega
      have HE := hideIt e
      clear e
      by_cases c : j < i
      · have c' : (j : Int) < (i : Int) := by omega
        have es2 : (i : Int) - (j : Int) = ((i - j : Nat) : Int) := by omega
        have HT2 : Hid (∀ p, rot (s + j) (s + j + (i - j)) (s + j + (i - j) + j) (swp s m j fk) p = rot a m b f p) := fun p => by
          rw [← HT.out p, ← rot_more c hj fk p, ← HS.out, show s + j + (i - j) = s + i by omega]
        go_wp2_with fail
        refine (swapRange_any g N cap fk s m j cf wr HROW.out (by have := HS.out; omega) (by omega) (Or.inl (by have := HS.out; omega)) hN).mono ?_
        rintro e w1 ⟨rfl, hr1, hs1⟩
        go_wp2_with fail
        go_roundw
        case rel => exact ⟨s + j, i - j, j, swp s m j fk, by go_num, by go_num, by omega, hj, (by have := HS.out; rw [Hid]; omega), by omega, hjb, HT2, hr1, HSW.out.trans hs1⟩
        case measure => simp [intOf]; omega
      · have c' : ¬ (j : Int) < (i : Int) := by omega
        have es2 : (j : Int) - (i : Int) = ((j - i : Nat) : Int) := by have := HE.out; omega
        have es3 : (m : Int) + (j : Int) - (i : Int) = ((s + j : Nat) : Int) := by have := HS.out; omega
        have HT2 : Hid (∀ p, rot s (s + i) (s + i + (j - i)) (swp s (s + j) i fk) p = rot a m b f p) := fun p => by
          have := HE.out
          rw [← HT.out p, ← rot_less (show i < j by omega) hi fk p, show s + i + (j - i) = s + j by omega]
        go_wp2_with fail
        refine (swapRange_any g N cap fk s (s + j) i cf wr HROW.out (by have := HS.out; omega) (by have := HS.out; omega) (Or.inl (by have := HE.out; omega)) hN).mono ?_
        rintro e w1 ⟨rfl, hr1, hs1⟩
        go_wp2_with fail
        go_roundw
        case rel => exact ⟨s, i, j - i, swp s (s + j) i fk, by go_num, by go_num, hi, by have := HE.out; omega, HS, him, by omega, HT2, hr1, HSW.out.trans hs1⟩
        case measure => simp [intOf]; omega
end Go.Proofs.Ytokhindolimchaa
