/-
  What is drawn is fine: few nodes with few keys and parts. Plain mathematics, and rows of rows while the reader turns.
-/
import Derived.Test.YtagcgnhpdmhegaaMapP
import Derived.Test.YtagcgnhpdmhegaaStbS2
import Derived.Test.YtagcgnhpdmhegaaRd4
import Derived.Shelf.Small.Strs
import Derived.Test.YtagcgnhpdmhegaaProg
namespace Go.Proofs.Ytagcgnhpdmhegaa
open Go.RowKit
set_option linter.unusedSimpArgs false
set_option linter.unusedVariables false

structure FineN (c : Nat) (x : VN) : Prop where
  keysN : x.keys.length ≤ 3
  keysS : ∀ i, i < x.keys.length → (keyAt x.keys i).size ≤ 60
  kidsN : x.kids.length ≤ 3
  kids : ∀ j, j < x.kids.length → 0 ≤ intAt x.kids j ∧ intAt x.kids j < (c : Int)
  size : x.s.size ≤ 60
  kind : -9223372036854775808 ≤ x.kind ∧ x.kind ≤ 9223372036854775807
  num : -9223372036854775808 ≤ x.n ∧ x.n ≤ 9223372036854775807

def Fine (c : Nat) (vs : List VN) : Prop := 0 < vs.length ∧ vs.length ≤ c ∧ ∀ j, j < vs.length → FineN vs.length (nodeAt vs j)

theorem FineN.wide {c c' : Nat} {x : VN} (h : FineN c x) (hc : c ≤ c') : FineN c' x :=
  ⟨h.keysN, h.keysS, h.kidsN, fun j hj => by have := h.kids j hj; omega, h.size, h.kind, h.num⟩
theorem Fine.wide {c c' : Nat} {vs : List VN} (h : Fine c vs) (hc : c ≤ c') : Fine c' vs := ⟨h.1, by have := h.2.1; omega, h.2.2⟩

theorem intAt_shift (l : List Int) (d : Int) {j : Nat} (hj : j < l.length) : intAt (l.map (· + d)) j = intAt l j + d := by
  unfold intAt
  rw [List.getD_eq_getElem?_getD, List.getD_eq_getElem?_getD, List.getElem?_map, List.getElem?_eq_getElem hj]
  simp

theorem FineN.shift {c d c' : Nat} {x : VN} (h : FineN c x) (hc : c + d ≤ c') : FineN c' (shiftN (d : Int) x) := by
  refine ⟨h.keysN, h.keysS, by show (x.kids.map _).length ≤ 3; rw [List.length_map]; exact h.kidsN, fun j hj => ?_, h.size, h.kind, h.num⟩
  have hj' : j < x.kids.length := by have : j < (x.kids.map (· + (d : Int))).length := hj; rwa [List.length_map] at this
  have := h.kids j hj'
  show 0 ≤ intAt (x.kids.map (· + (d : Int))) j ∧ intAt (x.kids.map (· + (d : Int))) j < (c' : Int)
  rw [intAt_shift _ _ hj']
  omega

theorem nodeAt_l {xs ys : List VN} {i : Nat} (h : i < xs.length) : nodeAt (xs ++ ys) i = nodeAt xs i := by
  unfold nodeAt; rw [List.getD_eq_getElem?_getD, List.getD_eq_getElem?_getD, List.getElem?_append_left h]
theorem nodeAt_r {xs ys : List VN} {i : Nat} (h : xs.length ≤ i) : nodeAt (xs ++ ys) i = nodeAt ys (i - xs.length) := by
  unfold nodeAt; rw [List.getD_eq_getElem?_getD, List.getD_eq_getElem?_getD, List.getElem?_append_right h]
theorem nodeAt_sh {xs : List VN} {d : Int} {i : Nat} (h : i < xs.length) : nodeAt (xs.map (shiftN d)) i = shiftN d (nodeAt xs i) := by
  unfold nodeAt; rw [List.getD_eq_getElem?_getD, List.getD_eq_getElem?_getD, List.getElem?_map, List.getElem?_eq_getElem h]; rfl

theorem fine_cat {c m : Nat} {L : Nat → List VN} (h : ∀ i, i < m → Fine c (L i)) : ∀ i, i ≤ m → (catNs L i).length ≤ i * c ∧ ∀ j, j < (catNs L i).length → FineN (catNs L i).length (nodeAt (catNs L i) j) := by
  intro i
  induction i with
  | zero => intro _; exact ⟨by simp [catNs], fun j hj => absurd hj (by simp [catNs])⟩
  | succ i ih =>
    intro hi
    obtain ⟨h1, h2⟩ := ih (by omega)
    have hL := h i (by omega)
    have hl := catNs_len L i
    refine ⟨by rw [hl, Nat.succ_mul]; have := hL.2.1; omega, fun j hj => ?_⟩
    rw [hl] at hj ⊢
    show FineN _ (nodeAt (catNs L i ++ (L i).map (shiftN ((catNs L i).length : Int))) j)
    by_cases e : j < (catNs L i).length
    · rw [nodeAt_l e]; exact (h2 j e).wide (by omega)
    · rw [nodeAt_r (by omega), nodeAt_sh (by omega)]
      exact (hL.2.2 _ (by omega)).shift (by omega)

theorem catKs_at (L : Nat → List VN) : ∀ (m j : Nat), j < m → intAt (catKs L m) j = ((catNs L (j + 1)).length : Int) - 1 := by
  intro m
  induction m with
  | zero => intro j hj; omega
  | succ m ih =>
    intro j hj
    show intAt (catKs L m ++ [((catNs L (m + 1)).length : Int) - 1]) j = _
    by_cases e : j < m
    · have : intAt (catKs L m ++ [((catNs L (m + 1)).length : Int) - 1]) j = intAt (catKs L m) j := by
        unfold intAt; rw [List.getD_eq_getElem?_getD, List.getD_eq_getElem?_getD, List.getElem?_append_left (by rw [catKs_len]; exact e)]
      rw [this]; exact ih j e
    · obtain rfl : j = m := by omega
      unfold intAt
      rw [List.getD_eq_getElem?_getD, List.getElem?_append_right (by rw [catKs_len]; omega), catKs_len]
      simp

theorem fine_make {c m : Nat} {L : Nat → List VN} (h : ∀ i, i < m → Fine c (L i)) (hm : m ≤ 3) {kind : Int} (hk1 : 0 ≤ kind) (hk2 : kind ≤ 6) {keys : List ByteArray} (hk : keys.length ≤ 3) (hks : ∀ i, i < keys.length → (keyAt keys i).size ≤ 60) : Fine (3 * c + 1) (makeNs kind keys L m) := by
  obtain ⟨h1, h2⟩ := fine_cat h m (Nat.le_refl _)
  have hc : m * c ≤ 3 * c := Nat.mul_le_mul_right c hm
  have hl : (makeNs kind keys L m).length = (catNs L m).length + 1 := by unfold makeNs; simp
  refine ⟨by omega, by omega, fun j hj => ?_⟩
  rw [hl] at hj ⊢
  unfold makeNs
  by_cases e : j < (catNs L m).length
  · rw [nodeAt_l e]; exact (h2 j e).wide (by omega)
  · rw [nodeAt_r (by omega), show j - (catNs L m).length = 0 by omega]
    refine ⟨hk, hks, by show (catKs L m).length ≤ 3; rw [catKs_len]; exact hm, fun i hi => ?_, by show ByteArray.empty.size ≤ 60; decide, ⟨by show (-9223372036854775808 : Int) ≤ kind; omega, by show kind ≤ 9223372036854775807; omega⟩, by show (-9223372036854775808 : Int) ≤ 0 ∧ (0 : Int) ≤ 9223372036854775807; decide⟩
    have hi' : i < m := by have : i < (catKs L m).length := hi; rwa [catKs_len] at this
    show 0 ≤ intAt (catKs L m) i ∧ intAt (catKs L m) i < _
    rw [catKs_at L m i hi']
    have h3 := catNs_len L i
    have h4 := (h i hi').1
    have h5 := catNs_mono L (show i + 1 ≤ m by omega)
    omega

theorem Fine.few {c : Nat} {vs : List VN} (h : Fine c vs) (hc : c ≤ 80) : Few vs ∧ ∀ j, j < vs.length → Fits (nodeAt vs j) := by
  refine ⟨⟨by have := h.2.1; omega, fun i hi => ?_⟩, fun j hj => ?_⟩
  · have := h.2.2 i hi; exact ⟨by have := this.keysN; omega, by have := this.kidsN; omega⟩
  · have hx := h.2.2 j hj
    exact ⟨by have := hx.keysN; omega, fun i hi => by have := hx.keysS i hi; omega, by have := hx.kidsN; omega, fun i hi => by have := hx.kids i hi; have := h.2.1; omega, by have := hx.size; omega, hx.kind.1, hx.kind.2, hx.num.1, hx.num.2⟩
theorem Fine.near {c : Nat} {vs : List VN} (h : Fine c vs) (hc : c ≤ 80) : 0 < vs.length ∧ ∀ j, j < vs.length → Near (nodeAt vs j) := by
  refine ⟨h.1, fun j hj => ?_⟩
  have hx := h.2.2 j hj
  exact ⟨by have := hx.keysN; omega, by have := hx.kidsN; omega, fun i hi => by have := hx.kids i hi; have := h.2.1; omega⟩

theorem Drawn.from {rb n base : Nat} {w w' : World} (h : Drawn rb n w w') (hb : rb < base) : From base w w' := ⟨h.only.1, fun c h1 h2 => h.only.2 c h2 (by omega)⟩

/-- One row more, while blocks ahead of the rows may have turned: made in new memory, then appended. -/
theorem Rows2.snocF {base : Nat} {w w1 w5 : World} {v v' r : Value} {m : Nat} {L : Nat → List VN} {rs : Nat → Value} {KV IV : Nat → Nat → Value} {lo : Nat → Nat} {K I : Nat → Value} {o : Obj} (h : Rows2 base w v m L rs KV IV lo) (hb : From base w w1) (hn : Nest w.heap.size w1 r (L m) K I)
    (hown : w5.ownsRow base 22 1 v' (m + 1) ((List.range m).map rs ++ [r])) (hg : (w1.alloc o).grownBy w5 v.ownBlock) :
    Rows2 base w5 v' (m + 1) L (updF rs m r) (updF KV m K) (updF IV m I) (fun i => if i < m then lo i else if i = m then w.heap.size else w1.heap.size) := by
  have h1 := h.from hb
  have hg1 : w1.grownBy w5 v.ownBlock := (World.grownBy_alloc w1 o _).trans hg
  have hs := hb.1
  have hgs := hg1.size
  have kept : ∀ {b : Nat} {u : Value} {vs : List VN} {A C : Nat → Value}, Nest b w1 u vs A C → Nest b w5 u vs A C := fun hx => hx.kept hg1 (own_apart hx.row h1.row (by decide)) (fun i hi => own_apart (hx.rk i hi) h1.row (by decide)) (fun i hi => own_apart (hx.ri i hi) h1.row (by decide))
  refine ⟨by rw [range_map_snoc]; exact hown, fun i hi => ?_, fun i hi => ?_, fun i j hij hj => ?_, ?_, fun i hi x hx => ?_⟩
  · by_cases e : i = m
    · subst e
      simp only [updF_same, Nat.lt_irrefl, if_true, if_false]
      exact kept hn
    · simp only [updF_other _ _ e, if_pos (show i < m by omega)]
      exact kept (h1.nest i (by omega))
  · have hl := h.low m (Nat.le_refl _)
    have ht := h.top
    by_cases e : i < m
    · simp only [if_pos e]; exact h.low i (by omega)
    · by_cases e2 : i = m
      · simp only [if_neg e, if_pos e2]; omega
      · simp only [if_neg e, if_neg e2]; omega
  · have ht := h.top
    by_cases e : j < m
    · simp only [if_pos e, if_pos (show i < m by omega)]; exact h.mono i j hij (by omega)
    · by_cases e1 : i < m
      · have := h.mono i m (by omega) (Nat.le_refl _)
        by_cases e2 : j = m
        · simp only [if_pos e1, if_neg e, if_pos e2]; omega
        · simp only [if_pos e1, if_neg e, if_neg e2]; omega
      · by_cases e2 : j = m
        · simp only [if_neg e1, if_neg e, if_pos e2, if_pos (show i = m by omega)]; omega
        · by_cases e3 : i = m
          · simp only [if_neg e1, if_neg e, if_neg e2, if_pos e3]; omega
          · simp only [if_neg e1, if_neg e, if_neg e2, if_neg e3]; omega
  · simp only [if_neg (show ¬ m + 1 < m by omega), if_neg (show ¬ m + 1 = m by omega)]; omega
  · have ht := h.top
    by_cases e : i = m
    · subst e
      simp only [updF_same] at hx
      simp only [if_neg (show ¬ i + 1 < i by omega), if_neg (show ¬ i + 1 = i by omega)]
      exact (hn.inn hx).2
    · simp only [updF_other _ _ e] at hx
      have := h.inn i (by omega) x hx
      by_cases e2 : i + 1 < m
      · simp only [if_pos e2]; exact this
      · obtain e3 : i + 1 = m := by omega
        rw [e3] at this
        simp only [if_neg e2, if_pos e3]; omega

end Go.Proofs.Ytagcgnhpdmhegaa

/-
  Plain: nodes that are small enough, and lists and maps of such.
-/
namespace Go.Proofs.Ytagcgnhpdmhegaa
open Go.RowKit
set_option linter.unusedSimpArgs false
set_option linter.unusedVariables false

structure SmN (c : Nat) (x : VN) : Prop where
  keysN : x.keys.length ≤ 80
  keysS : ∀ i, i < x.keys.length → (keyAt x.keys i).size ≤ 60
  kidsN : x.kids.length ≤ 80
  kids : ∀ j, j < x.kids.length → 0 ≤ intAt x.kids j ∧ intAt x.kids j < (c : Int)
  size : x.s.size ≤ 60
  kind : 0 ≤ x.kind ∧ x.kind ≤ 6
  num : -9223372036854775808 ≤ x.n ∧ x.n ≤ 9223372036854775807
def SmNs (vs : List VN) : Prop := 0 < vs.length ∧ vs.length ≤ 80 ∧ ∀ j, j < vs.length → SmN vs.length (nodeAt vs j)
theorem SmN.wide {c c' : Nat} {x : VN} (h : SmN c x) (hc : c ≤ c') : SmN c' x :=
  ⟨h.keysN, h.keysS, h.kidsN, fun j hj => by have := h.kids j hj; omega, h.size, h.kind, h.num⟩
theorem SmN.shift {c d c' : Nat} {x : VN} (h : SmN c x) (hc : c + d ≤ c') : SmN c' (shiftN (d : Int) x) := by
  refine ⟨h.keysN, h.keysS, by show (x.kids.map _).length ≤ 80; rw [List.length_map]; exact h.kidsN, fun j hj => ?_, h.size, h.kind, h.num⟩
  have hj' : j < x.kids.length := by have : j < (x.kids.map (· + (d : Int))).length := hj; rwa [List.length_map] at this
  have := h.kids j hj'
  show 0 ≤ intAt (x.kids.map (· + (d : Int))) j ∧ intAt (x.kids.map (· + (d : Int))) j < (c' : Int)
  rw [intAt_shift _ _ hj']
  omega
theorem sm_cat {m : Nat} {L : Nat → List VN} (h : ∀ i, i < m → SmNs (L i)) : ∀ i, i ≤ m → ∀ j, j < (catNs L i).length → SmN (catNs L i).length (nodeAt (catNs L i) j) := by
  intro i
  induction i with
  | zero => intro _ j hj; exact absurd hj (by simp [catNs])
  | succ i ih =>
    intro hi j hj
    have h2 := ih (by omega)
    have hL := h i (by omega)
    have hl := catNs_len L i
    rw [hl] at hj ⊢
    show SmN _ (nodeAt (catNs L i ++ (L i).map (shiftN ((catNs L i).length : Int))) j)
    by_cases e : j < (catNs L i).length
    · rw [nodeAt_l e]; exact (h2 j e).wide (by omega)
    · rw [nodeAt_r (by omega), nodeAt_sh (by omega)]
      exact (hL.2.2 _ (by omega)).shift (by omega)
theorem sm_make {m : Nat} {L : Nat → List VN} (h : ∀ i, i < m → SmNs (L i)) (hm : (catNs L m).length + 1 ≤ 80) {kind : Int} (hk1 : 0 ≤ kind) (hk2 : kind ≤ 6) {keys : List ByteArray} (hk : keys.length ≤ 80) (hks : ∀ i, i < keys.length → (keyAt keys i).size ≤ 60) : SmNs (makeNs kind keys L m) := by
  have h2 := sm_cat h m (Nat.le_refl _)
  have hmm : m ≤ (catNs L m).length := by rw [cat_sum]; exact sumL_many (fun i hi => (h i hi).1)
  have hl : (makeNs kind keys L m).length = (catNs L m).length + 1 := by unfold makeNs; simp
  refine ⟨by omega, by omega, fun j hj => ?_⟩
  rw [hl] at hj ⊢
  unfold makeNs
  by_cases e : j < (catNs L m).length
  · rw [nodeAt_l e]; exact (h2 j e).wide (by omega)
  · rw [nodeAt_r (by omega), show j - (catNs L m).length = 0 by omega]
    refine ⟨hk, hks, by show (catKs L m).length ≤ 80; rw [catKs_len]; omega, fun i hi => ?_, by show ByteArray.empty.size ≤ 60; decide, ⟨by show (0 : Int) ≤ kind; omega, by show kind ≤ 6; omega⟩, by show (-9223372036854775808 : Int) ≤ 0 ∧ (0 : Int) ≤ 9223372036854775807; decide⟩
    have hi' : i < m := by have : i < (catKs L m).length := hi; rwa [catKs_len] at this
    show 0 ≤ intAt (catKs L m) i ∧ intAt (catKs L m) i < _
    rw [catKs_at L m i hi']
    have h3 := catNs_len L i
    have h4 := (h i hi').1
    have h5 := catNs_mono L (show i + 1 ≤ m by omega)
    omega
theorem SmNs.few {vs : List VN} (h : SmNs vs) : Few vs ∧ ∀ j, j < vs.length → Fits (nodeAt vs j) := by
  refine ⟨⟨by have := h.2.1; omega, fun i hi => ?_⟩, fun j hj => ?_⟩
  · have := h.2.2 i hi; exact ⟨by have := this.keysN; omega, by have := this.kidsN; omega⟩
  · have hx := h.2.2 j hj
    exact ⟨by have := hx.keysN; omega, fun i hi => by have := hx.keysS i hi; omega, by have := hx.kidsN; omega, fun i hi => by have := hx.kids i hi; have := h.2.1; omega, by have := hx.size; omega, by have := hx.kind.1; omega, by have := hx.kind.2; omega, hx.num.1, hx.num.2⟩
theorem SmNs.near {vs : List VN} (h : SmNs vs) : 0 < vs.length ∧ ∀ j, j < vs.length → Near (nodeAt vs j) := by
  refine ⟨h.1, fun j hj => ?_⟩
  have hx := h.2.2 j hj
  exact ⟨by have := hx.keysN; omega, by have := hx.kidsN; omega, fun i hi => by have := hx.kids i hi; have := h.2.1; omega⟩
theorem sm_leaf {k n : Int} {s : ByteArray} (hk : 0 ≤ k ∧ k ≤ 6) (hn : -9223372036854775808 ≤ n ∧ n ≤ 9223372036854775807) (hs : s.size ≤ 60) : SmNs (leafN k n s) := by
  refine ⟨by simp [leafN], by simp [leafN], fun j hj => ?_⟩
  obtain rfl : j = 0 := by simp [leafN] at hj; omega
  exact ⟨by simp [leafN, nodeAt], fun i hi => absurd hi (by simp [leafN, nodeAt]), by simp [leafN, nodeAt], fun i hi => absurd hi (by simp [leafN, nodeAt]), by simpa [leafN, nodeAt] using hs, by simpa [leafN, nodeAt] using hk, by simpa [leafN, nodeAt] using hn⟩
end Go.Proofs.Ytagcgnhpdmhegaa

/-
  The specification's l3Rc: its place in memory, numbers in bytes and texts.
-/
namespace Go.Proofs.Ytagcgnhpdmhegaa
open Go.RowKit
set_option linter.unusedSimpArgs false
set_option linter.unusedVariables false

theorem cellSc {w : World} {b i : Nat} {cs : Array Value} {T : TypeId} {z : Nat × Nat} {x : Value} (h : w.heap[b]? = some (.cells cs T z)) (hx : cs[i]? = some x) : w.cell? ⟨b, i, none⟩ = some x := by
  rw [Lib.cell_of_heap h]; exact hx
theorem ltH {w : World} {b : Nat} {o : Obj} (h : w.heap[b]? = some o) : b < w.heap.size := by
  rcases Nat.lt_or_ge b w.heap.size with h' | h'
  · exact h'
  · rw [Array.getElem?_eq_none h'] at h; cases h
theorem setH {w : World} {b i : Nat} {cs : Array Value} {T : TypeId} {z : Nat × Nat} (h : w.heap[b]? = some (.cells cs T z)) (u : Value) : (w.setCell ⟨b, i, none⟩ u).heap[b]? = some (.cells (cs.setIfInBounds i u) T z) := by
  simp [World.setCell, Array.getElem?_modify, h]
end Go.Proofs.Ytagcgnhpdmhegaa

/-
  The library's contract of strings.IndexByte at this program.
-/
namespace Go.Proofs
open Go.Shelf
def Try.ixRen : Go.Shelf.Ren := ⟨fun | 137 => 52 | 217 => 62 | 266 => 72 | n => n, fun | n => n, fun | n => n⟩
theorem Try.ixLays : Go.Proofs.Lays.n137 Try.prog Try.ixRen := {
  mixed := by kernel_rfl
  f137 := Try.func52.trans (congrArg some (by kernel_rfl))
  f217 := Try.func62.trans (congrArg some (by kernel_rfl))
  f266 := Try.func72.trans (congrArg some (by kernel_rfl))
  t3 := Try.underlying3
  a3 := Try.isAgg3
  z3 := Try.sizeOf3
  v3 := Try.zeroValue3
  t5 := Try.underlying5
  a5 := Try.isAgg5
  z5 := Try.sizeOf5
  v5 := Try.zeroValue5
  t9 := Try.underlying9
  a9 := Try.isAgg9
  z9 := Try.sizeOf9
  v9 := Try.zeroValue9
}
end Go.Proofs
namespace Go.Proofs.Ytagcgnhpdmhegaa
open Go.Shelf Go.RowKit
theorem indexByte_any (s : ByteArray) (c : UInt8) (w : World) : Calls Try.prog 52 #[.string s, .int .u8 (c.toNat : Int)] w fun e w' => e = .returned (.int .i64 (Lib.indexByte s.data.toList c)) ∧ w' = w := by
  have := Any.strings_IndexByte Try.ixLays s (c.toNat : Int) w
  have e : ((c.toNat : Int)).toNat.toUInt8 = c := by simp
  rw [e] at this
  exact this
end Go.Proofs.Ytagcgnhpdmhegaa

/-
  Plain: what stands at a place of a text, as JSON has it: blanks, digits, words, escapes, texts.
-/
namespace Go.Proofs.Ytagcgnhpdmhegaa
open Go.RowKit
set_option linter.unusedSimpArgs false
set_option linter.unusedVariables false

/-- Does the byte c stand at p? -/
def isAt (L : List UInt8) (p c : Nat) : Bool := decide (p < L.length) && decide (byAt L p = c)
theorem isAt_yes {L : List UInt8} {p c : Nat} : isAt L p c = true ↔ p < L.length ∧ byAt L p = c := by unfold isAt; simp
theorem isAt_no {L : List UInt8} {p c : Nat} : isAt L p c = false ↔ ¬ (p < L.length ∧ byAt L p = c) := by unfold isAt; simp

def runF (P : Nat → Bool) (L : List UInt8) : Nat → Nat → Nat
  | 0, p => p
  | f + 1, p => if P (byAt L p) = true then runF P L f (p + 1) else p
/-- The first place from p on whose byte is none of these. -/
def runJ (P : Nat → Bool) (L : List UInt8) (p : Nat) : Nat := runF P L (L.length - p) p
theorem runJ_yes {P : Nat → Bool} {L : List UInt8} {p : Nat} (h : p < L.length) (hb : P (byAt L p) = true) : runJ P L p = runJ P L (p + 1) := by
  unfold runJ
  rw [show L.length - p = L.length - (p + 1) + 1 by omega, runF, if_pos hb]
theorem runJ_no {P : Nat → Bool} {L : List UInt8} {p : Nat} (h : ¬ (p < L.length ∧ P (byAt L p) = true)) : runJ P L p = p := by
  unfold runJ
  by_cases hp : p < L.length
  · rw [show L.length - p = L.length - (p + 1) + 1 by omega, runF, if_neg (fun e => h ⟨hp, e⟩)]
  · rw [show L.length - p = 0 by omega, runF]
theorem runF_says (P : Nat → Bool) (L : List UInt8) : ∀ f p, p ≤ runF P L f p ∧ runF P L f p ≤ p + f ∧ (∀ j, p ≤ j → j < runF P L f p → P (byAt L j) = true) ∧ (runF P L f p < p + f → P (byAt L (runF P L f p)) = false) := by
  intro f
  induction f with
  | zero => intro p; exact ⟨Nat.le_refl _, Nat.le_refl _, fun j h1 h2 => by rw [runF] at h2; omega, fun h => by rw [runF] at h; omega⟩
  | succ f ih =>
    intro p
    rw [runF]
    by_cases h : P (byAt L p) = true
    · rw [if_pos h]
      obtain ⟨a1, a2, a3, a4⟩ := ih (p + 1)
      refine ⟨by omega, by omega, fun j h1 h2 => ?_, fun h2 => a4 (by omega)⟩
      by_cases e : j = p
      · rw [e]; exact h
      · exact a3 j (by omega) h2
    · rw [if_neg h]
      exact ⟨Nat.le_refl _, by omega, fun j h1 h2 => by omega, fun _ => by simpa using h⟩
theorem runJ_ge (P : Nat → Bool) (L : List UInt8) (p : Nat) : p ≤ runJ P L p := (runF_says P L _ p).1
theorem runJ_le {P : Nat → Bool} {L : List UInt8} {p : Nat} (h : p ≤ L.length) : runJ P L p ≤ L.length := by have := (runF_says P L (L.length - p) p).2.1; unfold runJ; omega
theorem runJ_in {P : Nat → Bool} {L : List UInt8} {p j : Nat} (h1 : p ≤ j) (h2 : j < runJ P L p) : P (byAt L j) = true := (runF_says P L _ p).2.2.1 j h1 h2
theorem runJ_end {P : Nat → Bool} {L : List UInt8} {p : Nat} (h : runJ P L p < L.length) : P (byAt L (runJ P L p)) = false := by
  refine (runF_says P L (L.length - p) p).2.2.2 ?_
  have := runJ_ge P L p
  unfold runJ at h this
  omega
theorem runJ_idem (P : Nat → Bool) (L : List UInt8) (p : Nat) : runJ P L (runJ P L p) = runJ P L p := by
  refine runJ_no (fun h => ?_)
  have := runJ_end h.1
  rw [h.2] at this
  cases this
theorem runJ_past {P : Nat → Bool} {L : List UInt8} {p : Nat} (h : L.length ≤ p) : runJ P L p = p := runJ_no (fun e => by omega)

def blankC (c : Nat) : Bool := decide (c = 32 ∨ c = 9 ∨ c = 10 ∨ c = 13)
abbrev skipJ (L : List UInt8) (p : Nat) : Nat := runJ blankC L p
def digC (c : Nat) : Bool := decide (48 ≤ c ∧ c ≤ 57)
abbrev dgJ (L : List UInt8) (p : Nat) : Nat := runJ digC L p
/-- The value of k digits at p. -/
def valF (L : List UInt8) (p : Nat) : Nat → Nat
  | 0 => 0
  | k + 1 => 10 * valF L p k + (byAt L (p + k) - 48)
theorem valF_mono (L : List UInt8) (p : Nat) : ∀ {k m : Nat}, k ≤ m → valF L p k ≤ valF L p m := by
  intro k m h
  induction h with
  | refl => exact Nat.le_refl _
  | step _ ih => rw [valF]; omega
/-- A number at p. -/
def numAt (L : List UInt8) (p : Nat) : Nat := if isAt L p 45 = true then p + 1 else p
def numJ (L : List UInt8) (p : Nat) : Option (Int × Nat) :=
  if dgJ L (numAt L p) = numAt L p ∨ (numAt L p + 1 < dgJ L (numAt L p) ∧ byAt L (numAt L p) = 48) ∨ 1000000000000000 < valF L (numAt L p) (dgJ L (numAt L p) - numAt L p) then none
  else some (if isAt L p 45 = true then -((valF L (numAt L p) (dgJ L (numAt L p) - numAt L p) : Nat) : Int) else ((valF L (numAt L p) (dgJ L (numAt L p) - numAt L p) : Nat) : Int), dgJ L (numAt L p))
theorem numJ_lt {L : List UInt8} {p q : Nat} {v : Int} (h : numJ L p = some (v, q)) : p < q ∧ (p ≤ L.length → q ≤ L.length) ∧ -1000000000000000 ≤ v ∧ v ≤ 1000000000000000 := by
  unfold numJ at h
  split at h
  · cases h
  · rename_i hn
    simp only [Option.some.injEq, Prod.mk.injEq] at h
    obtain ⟨rfl, rfl⟩ := h
    have h1 := runJ_ge digC L (numAt L p)
    have h2 : p ≤ numAt L p := by unfold numAt; split <;> omega
    refine ⟨by show p < runJ digC L (numAt L p); have : ¬ runJ digC L (numAt L p) = numAt L p := fun e => hn (.inl e); omega, fun hp => ?_, ?_⟩
    · refine runJ_le ?_
      unfold numAt
      split
      · rename_i e; have := (isAt_yes.1 e).1; omega
      · exact hp
    · have h3 : ¬ 1000000000000000 < valF L (numAt L p) (dgJ L (numAt L p) - numAt L p) := fun e => hn (.inr (.inr e))
      split <;> omega
/-- A word at p. -/
def wordAt (L : List UInt8) (p : Nat) (w : List UInt8) : Bool := decide ((L.drop p).take w.length = w)
def nullW : List UInt8 := [110, 117, 108, 108]
def trueW : List UInt8 := [116, 114, 117, 101]
def falseW : List UInt8 := [102, 97, 108, 115, 101]
theorem wordAt_le {L : List UInt8} {p : Nat} {w : List UInt8} (h : wordAt L p w = true) (hw : w ≠ []) : p + w.length ≤ L.length := by
  unfold wordAt at h
  simp only [decide_eq_true_eq] at h
  have := congrArg List.length h
  rw [List.length_take, List.length_drop] at this
  have : 0 < w.length := by cases w; exact absurd rfl hw; simp
  omega
theorem wordAt_first {L : List UInt8} {p : Nat} {c : UInt8} {w : List UInt8} (h : wordAt L p (c :: w) = true) : isAt L p c.toNat = true := by
  have hl := wordAt_le h (by simp)
  rw [List.length_cons] at hl
  rw [isAt_yes]
  refine ⟨by omega, ?_⟩
  unfold wordAt at h
  simp only [decide_eq_true_eq] at h
  have h1 := congrArg (fun l => l[0]?) h
  simp only [List.length_cons] at h1
  rw [List.getElem?_take, if_pos (by omega), List.getElem?_drop] at h1
  simp only [List.getElem?_cons_zero, Nat.add_zero] at h1
  unfold byAt
  rw [List.getD_eq_getElem?_getD, h1]; rfl

/-- What one letter behind a \ says. -/
def escC (c : Nat) : Option Nat :=
  if c = 34 then some 34 else if c = 92 then some 92 else if c = 47 then some 47 else if c = 98 then some 8 else if c = 102 then some 12 else if c = 110 then some 10 else if c = 114 then some 13 else if c = 116 then some 9 else none
def hexC (c : Nat) : Option Nat := if 48 ≤ c ∧ c ≤ 57 then some (c - 48) else if 97 ≤ c ∧ c ≤ 102 then some (c - 87) else if 65 ≤ c ∧ c ≤ 70 then some (c - 55) else none
theorem hexC_lt {c d : Nat} (h : hexC c = some d) : d < 16 := by
  unfold hexC at h
  split at h
  · simp at h; omega
  · split at h
    · simp at h; omega
    · split at h
      · simp at h; omega
      · cases h
/-- The value of k digits of sixteen at p; none: one is no digit. -/
def hexF (L : List UInt8) (p : Nat) : Nat → Option Nat
  | 0 => some 0
  | k + 1 => match hexF L p k with
    | none => none
    | some v => match hexC (byAt L (p + k)) with
      | none => none
      | some d => some (16 * v + d)
theorem hexF_lt (L : List UInt8) (p : Nat) : ∀ {k v : Nat}, hexF L p k = some v → v < 16 ^ k := by
  intro k
  induction k with
  | zero => intro v h; simp [hexF] at h; omega
  | succ k ih =>
    intro v h
    rw [hexF] at h
    cases e : hexF L p k with
    | none => simp [e] at h
    | some u =>
      simp only [e] at h
      cases e2 : hexC (byAt L (p + k)) with
      | none => simp [e2] at h
      | some d =>
        simp only [e2, Option.some.injEq] at h
        have := ih e
        have := hexC_lt e2
        rw [Nat.pow_succ]
        omega
def codeJ (L : List UInt8) (p : Nat) : Option (Nat × Nat) :=
  if L.length < p + 4 then none else match hexF L p 4 with
    | none => none
    | some v => if 127 < v then none else some (v, p + 4)
theorem hexF_step {L : List UInt8} {p k v d : Nat} (h : hexF L p k = some v) (hd : hexC (byAt L (p + k)) = some d) : hexF L p (k + 1) = some (16 * v + d) := by rw [hexF, h]; simp only [hd]
theorem hexF_none {L : List UInt8} {p k : Nat} (h : hexF L p k = none) : ∀ m, k ≤ m → hexF L p m = none := by
  intro m hm
  induction hm with
  | refl => exact h
  | step _ ih => rw [hexF, ih]
theorem hexF_stop {L : List UInt8} {p k v m : Nat} (h : hexF L p k = some v) (hd : hexC (byAt L (p + k)) = none) (hm : k < m) : hexF L p m = none := hexF_none (k := k + 1) (by rw [hexF, h]; simp only [hd]) m (by omega)
theorem codeJ_short {L : List UInt8} {p : Nat} (h : L.length < p + 4) : codeJ L p = none := by unfold codeJ; rw [if_pos h]
theorem codeJ_no {L : List UInt8} {p : Nat} (h : hexF L p 4 = none) : codeJ L p = none := by unfold codeJ; rw [h]; split <;> rfl
theorem codeJ_big {L : List UInt8} {p v : Nat} (h : hexF L p 4 = some v) (hv : 127 < v) : codeJ L p = none := by
  unfold codeJ
  split
  · rfl
  · rw [h]; simp only [if_pos hv]
theorem codeJ_yes {L : List UInt8} {p v : Nat} (hp : p + 4 ≤ L.length) (h : hexF L p 4 = some v) (hv : v ≤ 127) : codeJ L p = some (v, p + 4) := by
  unfold codeJ
  rw [if_neg (by omega), h]
  simp only [if_neg (by omega : ¬ 127 < v)]
/-- What stands behind a \. -/
def escJ (L : List UInt8) (p : Nat) : Option (Nat × Nat) :=
  if L.length ≤ p then none else match escC (byAt L p) with
    | some b => some (b, p + 1)
    | none => if byAt L p = 117 then codeJ L (p + 1) else none
theorem escJ_says {L : List UInt8} {p b q : Nat} (h : escJ L p = some (b, q)) : p < q ∧ q ≤ L.length ∧ b ≤ 127 := by
  unfold escJ at h
  split at h
  · cases h
  · rename_i hp
    cases e : escC (byAt L p) with
    | some b' =>
      simp only [e, Option.some.injEq, Prod.mk.injEq] at h
      obtain ⟨rfl, rfl⟩ := h
      refine ⟨by omega, by omega, ?_⟩
      unfold escC at e
      repeat (split at e; · simp at e; omega)
      cases e
    | none =>
      simp only [e] at h
      split at h
      · unfold codeJ at h
        split at h
        · cases h
        · rename_i h4
          cases e2 : hexF L (p + 1) 4 with
          | none => simp [e2] at h
          | some v =>
            simp only [e2] at h
            split at h
            · cases h
            · rename_i hv
              simp only [Option.some.injEq, Prod.mk.injEq] at h
              obtain ⟨rfl, rfl⟩ := h
              exact ⟨by omega, by omega, by omega⟩
      · cases h
def textF (L : List UInt8) : Nat → Nat → Option (List UInt8 × Nat)
  | 0, _ => none
  | f + 1, p => if byAt L p = 34 then some ([], p + 1)
    else if byAt L p = 92 then match escJ L (p + 1) with
      | none => none
      | some (b, q) => match textF L f q with
        | none => none
        | some (l, z) => some (UInt8.ofNat b :: l, z)
    else if byAt L p < 32 ∨ 127 < byAt L p then none
    else match textF L f (p + 1) with
      | none => none
      | some (l, z) => some (UInt8.ofNat (byAt L p) :: l, z)
/-- A text behind its first quote. -/
def txJ (L : List UInt8) (p : Nat) : Option (List UInt8 × Nat) := textF L (L.length - p) p
theorem byAt_past {L : List UInt8} {p : Nat} (h : L.length ≤ p) : byAt L p = 0 := by
  unfold byAt
  rw [List.getD_eq_getElem?_getD, List.getElem?_eq_none h]; rfl
theorem textF_past {L : List UInt8} {p : Nat} (h : L.length ≤ p) (f : Nat) : textF L f p = none := by
  cases f with
  | zero => rfl
  | succ f => rw [textF, byAt_past h]; rfl
theorem textF_same (L : List UInt8) : ∀ m p f g, L.length - p ≤ m → L.length - p ≤ f → L.length - p ≤ g → textF L f p = textF L g p := by
  intro m
  induction m with
  | zero => intro p f g h _ _; rw [textF_past (by omega), textF_past (by omega)]
  | succ m ih =>
    intro p f g h hf hg
    by_cases hp : L.length ≤ p
    · rw [textF_past hp, textF_past hp]
    · obtain ⟨f, rfl⟩ : ∃ f', f = f' + 1 := ⟨f - 1, by omega⟩
      obtain ⟨g, rfl⟩ : ∃ g', g = g' + 1 := ⟨g - 1, by omega⟩
      have key : ∀ q, p < q → textF L f q = textF L g q := fun q hq => ih q f g (by omega) (by omega) (by omega)
      rw [textF, textF, key (p + 1) (by omega)]
      cases e : escJ L (p + 1) with
      | none => rfl
      | some x =>
        obtain ⟨b, q⟩ := x
        have := escJ_says e
        dsimp only
        rw [key q (by omega)]
theorem txJ_eq {L : List UInt8} {p : Nat} (h : p < L.length) : txJ L p = if byAt L p = 34 then some ([], p + 1)
    else if byAt L p = 92 then match escJ L (p + 1) with
      | none => none
      | some (b, q) => match txJ L q with
        | none => none
        | some (l, z) => some (UInt8.ofNat b :: l, z)
    else if byAt L p < 32 ∨ 127 < byAt L p then none
    else match txJ L (p + 1) with
      | none => none
      | some (l, z) => some (UInt8.ofNat (byAt L p) :: l, z) := by
  have e1 : textF L (L.length - (p + 1)) (p + 1) = txJ L (p + 1) := rfl
  conv => lhs; unfold txJ
  rw [show L.length - p = L.length - (p + 1) + 1 by omega, textF, e1]
  cases e : escJ L (p + 1) with
  | none => rfl
  | some x =>
    obtain ⟨b, q⟩ := x
    have := escJ_says e
    dsimp only
    rw [textF_same L L.length q (L.length - (p + 1)) (L.length - q) (by omega) (by omega) (by omega)]
    rfl
theorem txJ_past {L : List UInt8} {p : Nat} (h : L.length ≤ p) : txJ L p = none := textF_past h _
theorem txJ_says {L : List UInt8} : ∀ m p l q, L.length - p ≤ m → txJ L p = some (l, q) → p < q ∧ q ≤ L.length ∧ l.length < q - p ∧ ∀ c ∈ l, c.toNat ≤ 127 := by
  intro m
  induction m with
  | zero => intro p l q h e; rw [txJ_past (by omega)] at e; cases e
  | succ m ih =>
    intro p l q h e
    by_cases hp : L.length ≤ p
    · rw [txJ_past hp] at e; cases e
    · rw [txJ_eq (by omega)] at e
      split at e
      · simp only [Option.some.injEq, Prod.mk.injEq] at e
        obtain ⟨rfl, rfl⟩ := e
        exact ⟨by omega, by omega, by simp, fun c hc => absurd hc (by simp)⟩
      · split at e
        · cases e1 : escJ L (p + 1) with
          | none => simp [e1] at e
          | some x =>
            obtain ⟨b, z⟩ := x
            simp only [e1] at e
            obtain ⟨a1, a2, a3⟩ := escJ_says e1
            cases e2 : txJ L z with
            | none => simp [e2] at e
            | some y =>
              obtain ⟨l2, z2⟩ := y
              simp only [e2, Option.some.injEq, Prod.mk.injEq] at e
              obtain ⟨rfl, rfl⟩ := e
              obtain ⟨b1, b2, b3, b4⟩ := ih z l2 z2 (by omega) e2
              refine ⟨by omega, b2, by simp; omega, fun c hc => ?_⟩
              rcases List.mem_cons.1 hc with rfl | hc
              · rw [UInt8.toNat_ofNat']; omega
              · exact b4 c hc
        · split at e
          · cases e
          · rename_i hr
            cases e2 : txJ L (p + 1) with
            | none => simp [e2] at e
            | some y =>
              obtain ⟨l2, z2⟩ := y
              simp only [e2, Option.some.injEq, Prod.mk.injEq] at e
              obtain ⟨rfl, rfl⟩ := e
              obtain ⟨b1, b2, b3, b4⟩ := ih (p + 1) l2 z2 (by omega) e2
              refine ⟨by omega, b2, by simp; omega, fun c hc => ?_⟩
              rcases List.mem_cons.1 hc with rfl | hc
              · rw [UInt8.toNat_ofNat']; omega
              · exact b4 c hc
end Go.Proofs.Ytagcgnhpdmhegaa
