/-
  Rows of rows of nodes, kept and put in another order. No walk.
-/
import Derived.Test.YtagcgnhpdmhegaaJrP
import Derived.Test.YtagcgnhpdmhegaaSSort
import Derived.Test.YtagcgnhpdmhegaaCbR
import Derived.Test.YtagcgnhpdmhegaaJrV
import Derived.Test.YtagcgnhpdmhegaaJrF
import Derived.Test.YtagcgnhpdmhegaaRd4
namespace Go.Proofs.Ytagcgnhpdmhegaa
open Go.RowKit
set_option linter.unusedSimpArgs false
set_option linter.unusedVariables false

theorem Rows2.congr {base : Nat} {w : World} {v : Value} {m : Nat} {L L' : Nat → List VN} {rs : Nat → Value} {KV IV : Nat → Nat → Value} {lo : Nat → Nat} (h : Rows2 base w v m L rs KV IV lo) (e : ∀ i, i < m → L' i = L i) : Rows2 base w v m L' rs KV IV lo :=
  ⟨h.row, fun i hi => by rw [e i hi]; exact h.nest i hi, h.low, h.mono, h.top, fun i hi x hx => by rw [e i hi] at hx; exact h.inn i hi x hx⟩

theorem Rows2.kept {base : Nat} {w w' : World} {v : Value} {m : Nat} {L : Nat → List VN} {rs : Nat → Value} {KV IV : Nat → Nat → Value} {lo : Nat → Nat} {x : Option Nat} (h : Rows2 base w v m L rs KV IV lo) (hg : w.grownBy w' x) (hr : v.ownBlock = none ∨ v.ownBlock ≠ x) (hn : ∀ i, i < m → ∀ y, InNest (rs i) (L i).length (KV i) (IV i) y → x ≠ some y) : Rows2 base w' v m L rs KV IV lo := by
  have go : ∀ {u : Value}, (∀ y, u.ownBlock = some y → x ≠ some y) → u.ownBlock = none ∨ u.ownBlock ≠ x := by
    intro u hu
    cases e : u.ownBlock with
    | none => exact Or.inl rfl
    | some y => exact Or.inr (fun e2 => hu y e e2.symm)
  refine ⟨h.row.kept hg hr, fun i hi => (h.nest i hi).kept hg (go fun y hy => hn i hi y (Or.inl hy)) (fun j hj => go fun y hy => hn i hi y (Or.inr ⟨j, hj, Or.inl hy⟩)) (fun j hj => go fun y hy => hn i hi y (Or.inr ⟨j, hj, Or.inr hy⟩)), h.low, h.mono, Nat.le_trans h.top hg.size, h.inn⟩

theorem sortIn_keys {ks : List ByteArray} : ∀ {i : Nat} {ns : List ByteArray} {ps : List Nat}, sortIn ks i = some (ns, ps) → ∀ x ∈ ns, ∃ j, j < i ∧ x = keyAt ks j := by
  intro i
  induction i with
  | zero => intro ns ps h; simp [sortIn] at h; obtain ⟨rfl, rfl⟩ := h; simp
  | succ i ih =>
    intro ns ps h
    rw [sortIn] at h
    split at h
    · cases h
    · rename_i ns0 ps0 h0
      split at h
      · cases h
      · injection h with h
        injection h with e1 e2
        subst e1 e2
        intro x hx
        simp only [List.mem_append, List.mem_singleton] at hx
        rcases hx with (hx | hx) | hx
        · obtain ⟨j, h1, h2⟩ := ih h0 x (List.mem_of_mem_take hx); exact ⟨j, by omega, h2⟩
        · exact ⟨i, by omega, hx⟩
        · obtain ⟨j, h1, h2⟩ := ih h0 x (List.mem_of_mem_drop hx); exact ⟨j, by omega, h2⟩

theorem keyAt_mem {l : List ByteArray} {i : Nat} (h : i < l.length) : keyAt l i ∈ l := by
  unfold keyAt
  rw [List.getD_eq_getElem?_getD, List.getElem?_eq_getElem h]
  exact List.getElem_mem h

theorem keyAt_snoc {l : List ByteArray} {s : ByteArray} {i : Nat} (h : i < l.length + 1) : keyAt (l ++ [s]) i = if i < l.length then keyAt l i else s := by
  unfold keyAt
  split
  · rename_i e; rw [List.getD_eq_getElem?_getD, List.getD_eq_getElem?_getD, List.getElem?_append_left e]
  · rename_i e
    obtain rfl : i = l.length := by omega
    simp

/-- Rows in another order, as they are read. -/
theorem Rows2.places {base B : Nat} {w w' : World} {v lv : Value} {m : Nat} {L : Nat → List VN} {rs : Nat → Value} {KV IV : Nat → Nat → Value} {lo : Nat → Nat} {ps : List Nat} (h : Rows2 base w v m L rs KV IV lo) (hb : Below w.heap.size w w') (hp : ∀ x ∈ ps, x < m) (hl : ps.length = m) (hm : m ≤ 80) (hf : ∀ i, i < m → Few (L i) ∧ ∀ j, j < (L i).length → Fits (nodeAt (L i) j))
    (hown : w'.ownsRow B 22 1 lv ps.length (ps.map rs)) : RowsAt w'.heap.size w' lv m (fun i => L (ps.getD i 0)) := by
  rw [hl] at hown
  obtain ⟨a, c, e⟩ := own_slice hown
  subst e
  refine ⟨by omega, a, c, rfl, fun hpos => ?_⟩
  obtain ⟨g, cap, e, _, hlt⟩ := hown.form (by omega)
  cases e
  refine ⟨g, rfl, hlt, fun i hi => ?_⟩
  have hi' : i < ps.length := by omega
  have hg : ps.getD i 0 = ps[i] := by rw [List.getD_eq_getElem?_getD, List.getElem?_eq_getElem hi']; rfl
  have hpm : ps.getD i 0 < m := by rw [hg]; exact hp _ (List.getElem_mem hi')
  refine ⟨rs (ps.getD i 0), ?_, ?_⟩
  · have hc := hown.cellAt i (show i < m * 1 by omega)
    rw [hc, List.getElem?_map, List.getElem?_eq_getElem hi', hg]; rfl
  · exact ((h.below hb).nest _ hpm).nodes (by have := (hf _ hpm).1.1; omega) (hf _ hpm).2

end Go.Proofs.Ytagcgnhpdmhegaa

/-
  Plain: what the specification reads is small, counts its nodes, and goes on.
-/
namespace Go.Proofs.Ytagcgnhpdmhegaa
open Go.RowKit
set_option linter.unusedSimpArgs false
set_option linter.unusedVariables false

def SpOk (S : Nat → Nat → Option (List VN × Nat × Nat)) : Prop := ∀ p c ns q d, c ≤ 80 → S p c = some (ns, q, d) → SmNs ns ∧ d = c + ns.length ∧ d ≤ 80 ∧ p < q
def WOk (W : Nat → Option (ByteArray × Nat)) : Prop := ∀ p s q, W p = some (s, q) → s.size ≤ 60 ∧ p < q

theorem items_fine {S : Nat → Nat → Option (List VN × Nat × Nat)} (H : SpOk S) : ∀ {k p c : Nat} {l : List (List VN)} {q d : Nat}, c ≤ 80 → spItems S k p c = some (l, q, d) → d = c + sumL (rowAt l) k ∧ d ≤ 80 ∧ l.length = k ∧ (∀ i, i < k → SmNs (rowAt l i)) ∧ p ≤ q := by
  intro k
  induction k with
  | zero => intro p c l q d hc h; simp [spItems] at h; obtain ⟨rfl, rfl, rfl⟩ := h; exact ⟨by simp [sumL], hc, rfl, fun i hi => by omega, Nat.le_refl _⟩
  | succ k ih =>
    intro p c l q d hc h
    rw [spItems] at h
    cases e1 : S p c with
    | none => simp [e1] at h
    | some x =>
      obtain ⟨n1, q1, d1⟩ := x
      simp only [e1] at h
      cases e2 : spItems S k q1 d1 with
      | none => simp [e2] at h
      | some y =>
        obtain ⟨m, z, d2⟩ := y
        simp only [e2, Option.some.injEq, Prod.mk.injEq] at h
        obtain ⟨rfl, rfl, rfl⟩ := h
        obtain ⟨a1, a2, a3, a4⟩ := H _ _ _ _ _ hc e1
        obtain ⟨b1, b2, b3, b4, b5⟩ := ih a3 e2
        refine ⟨?_, b2, by simp [b3], fun i hi => ?_, by omega⟩
        · rw [sumL_cons, rowAt_cons]
          show d2 = c + (n1.length + _)
          omega
        · cases i with
          | zero => exact a1
          | succ i => exact b4 i (by omega)
theorem pairs_fine {W : Nat → Option (ByteArray × Nat)} {S : Nat → Nat → Option (List VN × Nat × Nat)} (HW : WOk W) (H : SpOk S) : ∀ {k p c : Nat} {ks : List ByteArray} {l : List (List VN)} {q d : Nat}, c ≤ 80 → spPairs W S k p c = some (ks, l, q, d) → d = c + sumL (rowAt l) k ∧ d ≤ 80 ∧ l.length = k ∧ (∀ i, i < k → SmNs (rowAt l i)) ∧ p ≤ q ∧ ks.length = k ∧ (∀ i, i < k → (keyAt ks i).size ≤ 60) := by
  intro k
  induction k with
  | zero => intro p c ks l q d hc h; simp [spPairs] at h; obtain ⟨rfl, rfl, rfl, rfl⟩ := h; exact ⟨by simp [sumL], hc, rfl, fun i hi => by omega, Nat.le_refl _, rfl, fun i hi => by omega⟩
  | succ k ih =>
    intro p c ks l q d hc h
    rw [spPairs] at h
    cases e0 : W p with
    | none => simp [e0] at h
    | some x =>
      obtain ⟨s, q0⟩ := x
      simp only [e0] at h
      cases e1 : S q0 c with
      | none => simp [e1] at h
      | some x =>
        obtain ⟨n1, q1, d1⟩ := x
        simp only [e1] at h
        cases e2 : spPairs W S k q1 d1 with
        | none => simp [e2] at h
        | some y =>
          obtain ⟨ks1, m, z, d2⟩ := y
          simp only [e2, Option.some.injEq, Prod.mk.injEq] at h
          obtain ⟨rfl, rfl, rfl, rfl⟩ := h
          obtain ⟨w1, w2⟩ := HW _ _ _ e0
          obtain ⟨a1, a2, a3, a4⟩ := H _ _ _ _ _ hc e1
          obtain ⟨b1, b2, b3, b4, b5, b6, b7⟩ := ih a3 e2
          refine ⟨?_, b2, by simp [b3], fun i hi => ?_, by omega, by simp [b6], fun i hi => ?_⟩
          · rw [sumL_cons, rowAt_cons]
            show d2 = c + (n1.length + _)
            omega
          · cases i with
            | zero => exact a1
            | succ i => exact b4 i (by omega)
          · cases i with
            | zero => exact w1
            | succ i => exact b7 i (by omega)
theorem sorted_fine {ks ns : List ByteArray} {ps : List Nat} {l : List (List VN)} (h : sortIn ks ks.length = some (ns, ps)) (hl : ∀ i, i < ks.length → SmNs (rowAt l i)) (hk : ∀ i, i < ks.length → (keyAt ks i).size ≤ 60) (h80 : ks.length ≤ 80) :
    ns.length = ks.length ∧ ps.length = ks.length ∧ (∀ i, i < ks.length → ps.getD i 0 < ks.length) ∧ (∀ i, i < ks.length → SmNs (rowAt l (ps.getD i 0))) ∧ (∀ i, i < ns.length → (keyAt ns i).size ≤ 60) ∧ (catNs (fun j => rowAt l (ps.getD j 0)) ks.length).length = sumL (rowAt l) ks.length := by
  obtain ⟨h1, h2⟩ := sortIn_len h
  obtain ⟨s1, s2⟩ := srt_sorted h
  have hp : ∀ i, i < ks.length → ps.getD i 0 < ks.length := fun i hi => by have := srt_lt hi; rw [s1] at this; exact this
  refine ⟨h1, h2, hp, fun i hi => hl _ (hp i hi), fun i hi => ?_, ?_⟩
  · obtain ⟨j, a1, a2⟩ := sortIn_keys h _ (keyAt_mem hi)
    rw [a2]; exact hk j a1
  · rw [cat_sum, ← s1, sumL_perm (rowAt l) (srt_perm ks)]
theorem row_fine {W : Nat → Option (ByteArray × Nat)} {S : Nat → Nat → Option (List VN × Nat × Nat)} (HW : WOk W) (H : SpOk S) {named : Bool} {many deep p c : Nat} {ns : List VN} {q d : Nat} (h1 : 1 ≤ c) (hc : c ≤ 80) (h : spRow W S named many deep p c = some (ns, q, d)) : SmNs ns ∧ d + 1 = c + ns.length ∧ d ≤ 80 ∧ p ≤ q := by
  unfold spRow at h
  split at h
  · cases h
  rename_i hm
  cases named
  · simp only [Bool.false_eq_true, if_false] at h
    cases e : spItems S many p c with
    | none => simp [e] at h
    | some x =>
      obtain ⟨l, q1, d1⟩ := x
      simp only [e, Option.some.injEq, Prod.mk.injEq] at h
      obtain ⟨rfl, rfl, rfl⟩ := h
      obtain ⟨b1, b2, b3, b4, b5⟩ := items_fine H hc e
      refine ⟨sm_make (by rw [b3]; exact b4) (by rw [cat_sum, b3]; omega) (by omega) (by omega) (by simp) (fun i hi => absurd hi (by simp)), by rw [make_len, cat_sum, b3]; omega, b2, b5⟩
  · simp only [if_true] at h
    cases e : spPairs W S many p c with
    | none => simp [e] at h
    | some x =>
      obtain ⟨ks, l, q1, d1⟩ := x
      simp only [e] at h
      cases es : sortIn ks ks.length with
      | none => simp [es] at h
      | some y =>
        obtain ⟨nk, ps⟩ := y
        simp only [es, Option.some.injEq, Prod.mk.injEq] at h
        obtain ⟨rfl, rfl, rfl⟩ := h
        obtain ⟨b1, b2, b3, b4, b5, b6, b7⟩ := pairs_fine HW H hc e
        subst b6
        obtain ⟨s1, s2, s3, s4, s5, s6⟩ := sorted_fine es b4 b7 (by omega)
        refine ⟨sm_make s4 (by rw [s6]; omega) (by omega) (by omega) (by omega) s5, by rw [make_len, s6]; omega, b2, b5⟩
theorem big_fine {L : List UInt8} {p m n q : Nat} (h : bigS L p m = some (n, q)) (hm : 1 ≤ m) : n ≤ 256000000000000255 ∧ p < q ∧ q ≤ L.length := by
  unfold bigS maxI at h
  split at h
  · rename_i g
    simp only [Option.some.injEq, Prod.mk.injEq] at h
    obtain ⟨rfl, rfl⟩ := h
    obtain ⟨m, rfl⟩ : ∃ k, m = k + 1 := ⟨m - 1, by omega⟩
    rw [Nat.add_sub_cancel] at g
    have := byAt_lt L (p + m)
    rw [bigN]
    omega
  · cases h
theorem head_fine {L : List UInt8} {p n q : Nat} (hp : p < L.length) (h : headS L p = some (n, q)) : n ≤ 256000000000000255 ∧ p < q ∧ q ≤ L.length := by
  unfold headS at h
  split at h
  · simp only [Option.some.injEq, Prod.mk.injEq] at h
    obtain ⟨rfl, rfl⟩ := h
    omega
  · split at h
    · have := big_fine h (two_pos _); omega
    · cases h
theorem take_fine {L : List UInt8} {p n : Nat} {s : ByteArray} {q : Nat} (h : takeS L n p = some (s, q)) : s.size ≤ 60 ∧ p ≤ q ∧ q ≤ L.length ∧ n ≤ 60 ∧ q = p + n ∧ s = cutT L p n := by
  unfold takeS at h
  split at h
  · simp only [Option.some.injEq, Prod.mk.injEq] at h
    obtain ⟨rfl, rfl⟩ := h
    refine ⟨?_, by omega, by omega, by omega, rfl, rfl⟩
    rw [cutT_size (by omega)]; omega
  · cases h
theorem wok_cbor (L : List UInt8) (f : Nat) : WOk (spWc L f) := by
  intro p s q h
  cases f with
  | zero => simp [spWc] at h
  | succ f =>
    rw [spWc] at h
    split at h
    · cases h
    cases e : headS L p with
    | none => simp [e] at h
    | some x =>
      obtain ⟨n, r⟩ := x
      simp only [e] at h
      split at h
      · have h1 := head_fine (by omega) e
        have h2 := take_fine h
        exact ⟨h2.1, by omega⟩
      · cases h
theorem ok_cbor (L : List UInt8) : ∀ f deep, SpOk (spC L f deep) := by
  intro f
  induction f with
  | zero => intro deep p c ns q d _ h; simp [spC] at h
  | succ f ih =>
    intro deep p c ns q d hc h
    rw [spC] at h
    split at h
    · cases h
    rename_i hg
    have leaf : ∀ {k n : Int} {s : ByteArray} {q' : Nat}, some (leafN k n s, q', c + 1) = some (ns, q, d) → 0 ≤ k ∧ k ≤ 6 → -9223372036854775808 ≤ n ∧ n ≤ 9223372036854775807 → s.size ≤ 60 → p < q' → SmNs ns ∧ d = c + ns.length ∧ d ≤ 80 ∧ p < q := fun h h1 h2 h3 h4 => by
      simp only [Option.some.injEq, Prod.mk.injEq] at h
      obtain ⟨rfl, rfl, rfl⟩ := h
      exact ⟨sm_leaf h1 h2 h3, rfl, by omega, h4⟩
    split at h
    · exact leaf h (by decide) (by decide) (by decide) (by omega)
    split at h
    · exact leaf h (by decide) (by decide) (by decide) (by omega)
    split at h
    · exact leaf h (by decide) (by decide) (by decide) (by omega)
    cases e : headS L p with
    | none => simp [e] at h
    | some x =>
      obtain ⟨n, r⟩ := x
      simp only [e] at h
      have h1 := head_fine (by omega) e
      unfold kindS at h
      split at h
      · exact leaf h (by decide) (by omega) (by decide) (by omega)
      split at h
      · exact leaf h (by decide) (by omega) (by decide) (by omega)
      split at h
      · unfold wordS at h
        cases e2 : takeS L n r with
        | none => simp [e2] at h
        | some y =>
          obtain ⟨s, z⟩ := y
          simp only [e2] at h
          have h2 := take_fine e2
          exact leaf h (by decide) (by decide) h2.1 (by omega)
      split at h
      · have := row_fine (wok_cbor L f) (ih (deep + 1)) (by omega) (by omega) h; exact ⟨this.1, by omega, by omega, by omega⟩
      split at h
      · have := row_fine (wok_cbor L f) (ih (deep + 1)) (by omega) (by omega) h; exact ⟨this.1, by omega, by omega, by omega⟩
      · cases h
end Go.Proofs.Ytagcgnhpdmhegaa

/-
  Plain: what the specification reads as JSON is small, counts its nodes, and goes on; how a row of parts is read one by one.
-/
namespace Go.Proofs.Ytagcgnhpdmhegaa
open Go.RowKit
set_option linter.unusedSimpArgs false
set_option linter.unusedVariables false

theorem rowAt_old {l : List (List VN)} {ns : List VN} {i : Nat} (hi : i < l.length) : rowAt (l ++ [ns]) i = rowAt l i := by
  show (l ++ [ns]).getD i [] = l.getD i []
  rw [List.getD_eq_getElem?_getD, List.getD_eq_getElem?_getD, List.getElem?_append_left hi]
theorem rowAt_new {l : List (List VN)} {ns : List VN} : rowAt (l ++ [ns]) l.length = ns := by
  show (l ++ [ns]).getD l.length [] = ns
  rw [List.getD_eq_getElem?_getD, List.getElem?_append_right (Nat.le_refl _), Nat.sub_self]; rfl
theorem sumL_eqJ {A B : Nat → List VN} : ∀ {k : Nat}, (∀ i, i < k → A i = B i) → sumL A k = sumL B k := by
  intro k
  induction k with
  | zero => intro _; rfl
  | succ k ih => intro h; rw [sumL, sumL, ih (fun i hi => h i (by omega)), h k (by omega)]
theorem sumL_snoc (l : List (List VN)) (ns : List VN) : sumL (rowAt (l ++ [ns])) (l ++ [ns]).length = sumL (rowAt l) l.length + ns.length := by
  rw [List.length_append, List.length_cons, List.length_nil, Nat.zero_add, sumL, rowAt_new, sumL_eqJ (A := rowAt (l ++ [ns])) (B := rowAt l) (fun i hi => rowAt_old hi)]
/-- Rows that are small, with their sum. -/
structure RowsOk (c : Nat) (l : List (List VN)) (d : Nat) : Prop where
  sum : d = c + sumL (rowAt l) l.length
  top : d ≤ 80
  sm : ∀ i, i < l.length → SmNs (rowAt l i)
theorem RowsOk.start {c : Nat} (hc : c ≤ 80) : RowsOk c [] c := ⟨rfl, hc, fun i hi => absurd hi (by simp)⟩
theorem RowsOk.snoc {c d e : Nat} {l : List (List VN)} {ns : List VN} (h : RowsOk c l d) (h1 : SmNs ns) (h2 : e = d + ns.length) (h3 : e ≤ 80) : RowsOk c (l ++ [ns]) e := by
  refine ⟨by rw [sumL_snoc, h2, h.sum]; omega, h3, fun i hi => ?_⟩
  rw [List.length_append, List.length_cons, List.length_nil] at hi
  by_cases e : i = l.length
  · rw [e, rowAt_new]; exact h1
  · rw [rowAt_old (by omega)]; exact h.sm i (by omega)
theorem RowsOk.few {c d : Nat} {l : List (List VN)} (h : RowsOk c l d) : l.length + c ≤ 80 := by
  have := sumL_many (L := rowAt l) (m := l.length) (fun i hi => (h.sm i hi).1)
  have := h.sum
  have := h.top
  omega

/-- So many parts of a list are read, l; the next one is to be read at q. -/
structure ItP (L : List UInt8) (S : Nat → Nat → Option (List VN × Nat × Nat)) (p c : Nat) (l : List (List VN)) (q d : Nat) : Prop where
  pre : ∀ k, spItemsJ L S (l.length + k) p c = (spItemsJ L S k q d).map (fun y => (l ++ y.1, y.2.1, y.2.2))
  ok : RowsOk c l d
  far : p + l.length ≤ q
theorem ItP.start {L : List UInt8} {S : Nat → Nat → Option (List VN × Nat × Nat)} {p c : Nat} (hS : ∀ p c, S (skipJ L p) c = S p c) (hc : c ≤ 80) : ItP L S p c [] (skipJ L p) c := by
  refine ⟨fun k => ?_, RowsOk.start hc, by simp; exact runJ_ge _ _ _⟩
  have e : spItemsJ L S k (skipJ L p) c = spItemsJ L S k p c := by cases k with
    | zero => rfl
    | succ k => rw [spItemsJ, spItemsJ, hS]
  rw [e, List.length_nil, Nat.zero_add]
  cases spItemsJ L S k p c <;> simp
theorem ItP.next {L : List UInt8} {S : Nat → Nat → Option (List VN × Nat × Nat)} {p c : Nat} {l : List (List VN)} {q d : Nat} (h : ItP L S p c l q d) (HS : SpOk S) {ns : List VN} {z e : Nat} (hs : S q d = some (ns, z, e)) (h1 : isAt L z 93 = false) (h2 : isAt L z 44 = true) : ItP L S p c (l ++ [ns]) (z + 1) e := by
  obtain ⟨a1, a2, a3, a4⟩ := HS _ _ _ _ _ h.ok.top hs
  refine ⟨fun k => ?_, h.ok.snoc a1 a2 a3, by have := h.far; rw [List.length_append, List.length_cons, List.length_nil]; omega⟩
  rw [List.length_append, List.length_cons, List.length_nil, show l.length + (0 + 1) + k = l.length + (k + 1) by omega, h.pre, spItemsJ, hs]
  simp only [h1, h2, Bool.false_eq_true, if_false, if_true]
  cases spItemsJ L S k (z + 1) e <;> simp
theorem ItP.last {L : List UInt8} {S : Nat → Nat → Option (List VN × Nat × Nat)} {p c : Nat} {l : List (List VN)} {q d : Nat} (h : ItP L S p c l q d) (hq : q ≤ L.length) {ns : List VN} {z e : Nat} (hs : S q d = some (ns, z, e)) (h1 : isAt L z 93 = true) : spItemsJ L S (L.length + 1) p c = some (l ++ [ns], z + 1, e) := by
  have hf := h.far
  obtain ⟨k, hk⟩ : ∃ k, L.length + 1 = l.length + (k + 1) := ⟨L.length - l.length, by omega⟩
  rw [hk, h.pre, spItemsJ, hs]
  simp [h1]
theorem ItP.stop {L : List UInt8} {S : Nat → Nat → Option (List VN × Nat × Nat)} {p c : Nat} {l : List (List VN)} {q d : Nat} (h : ItP L S p c l q d) (hq : q ≤ L.length) (hs : S q d = none ∨ ∃ ns z e, S q d = some (ns, z, e) ∧ isAt L z 93 = false ∧ isAt L z 44 = false) : spItemsJ L S (L.length + 1) p c = none := by
  have hf := h.far
  obtain ⟨k, hk⟩ : ∃ k, L.length + 1 = l.length + (k + 1) := ⟨L.length - l.length, by omega⟩
  rw [hk, h.pre, spItemsJ]
  rcases hs with hs | ⟨ns, z, e, hs, h1, h2⟩
  · rw [hs]; rfl
  · rw [hs]; simp [h1, h2]

/-- So many parts of a map are read. -/
structure PtP (L : List UInt8) (S : Nat → Nat → Option (List VN × Nat × Nat)) (p c : Nat) (ks : List ByteArray) (l : List (List VN)) (q d : Nat) : Prop where
  pre : ∀ k, spPairsJ L S (l.length + k) p c = (spPairsJ L S k q d).map (fun y => (ks ++ y.1, l ++ y.2.1, y.2.2.1, y.2.2.2))
  ok : RowsOk c l d
  far : p + l.length ≤ q
  same : ks.length = l.length
  size : ∀ i, i < ks.length → (keyAt ks i).size ≤ 60
theorem keyS_skip (L : List UInt8) (p : Nat) : keyS L (skipJ L p) = keyS L p := by
  have e : skipJ L (skipJ L p) = skipJ L p := runJ_idem _ _ _
  unfold keyS keyR
  rw [e]
theorem keyS_ok {L : List UInt8} {p q : Nat} {s : ByteArray} (h : keyS L p = some (s, q)) : p < q ∧ q ≤ L.length ∧ s.size ≤ 60 := by
  unfold keyS at h
  cases e : keyR L p with
  | none => simp [e] at h
  | some x =>
    obtain ⟨s', q'⟩ := x
    simp only [e] at h
    split at h
    · rename_i h60
      simp only [Option.some.injEq, Prod.mk.injEq] at h
      obtain ⟨rfl, rfl⟩ := h
      obtain ⟨a, b, _⟩ := keyR_ok e
      exact ⟨a, b, h60⟩
    · cases h
theorem PtP.start {L : List UInt8} {S : Nat → Nat → Option (List VN × Nat × Nat)} {p c : Nat} (hc : c ≤ 80) : PtP L S p c [] [] (skipJ L p) c := by
  refine ⟨fun k => ?_, RowsOk.start hc, by simp; exact runJ_ge _ _ _, rfl, fun i hi => absurd hi (by simp)⟩
  have e : spPairsJ L S k (skipJ L p) c = spPairsJ L S k p c := by cases k with
    | zero => rfl
    | succ k => rw [spPairsJ, spPairsJ, keyS_skip]
  rw [e, List.length_nil, Nat.zero_add]
  cases spPairsJ L S k p c <;> simp
theorem keyAt_push {ks : List ByteArray} {s : ByteArray} {i : Nat} (hi : i < (ks ++ [s]).length) : keyAt (ks ++ [s]) i = if i = ks.length then s else keyAt ks i := by
  unfold keyAt
  rw [List.getD_eq_getElem?_getD, List.getD_eq_getElem?_getD]
  rw [List.length_append, List.length_cons, List.length_nil] at hi
  split
  · rename_i e; rw [e, List.getElem?_append_right (Nat.le_refl _), Nat.sub_self]; rfl
  · rw [List.getElem?_append_left (by omega)]
theorem keys_size {ks : List ByteArray} {s : ByteArray} (h : ∀ i, i < ks.length → (keyAt ks i).size ≤ 60) (hs : s.size ≤ 60) : ∀ i, i < (ks ++ [s]).length → (keyAt (ks ++ [s]) i).size ≤ 60 := fun i hi => by
  rw [keyAt_push hi]
  split
  · exact hs
  · exact h i (by rw [List.length_append, List.length_cons, List.length_nil] at hi; omega)
theorem PtP.next {L : List UInt8} {S : Nat → Nat → Option (List VN × Nat × Nat)} {p c : Nat} {ks : List ByteArray} {l : List (List VN)} {q d : Nat} (h : PtP L S p c ks l q d) (HS : SpOk S) {s : ByteArray} {q0 : Nat} {ns : List VN} {z e : Nat} (hk : keyS L q = some (s, q0)) (hs : S q0 d = some (ns, z, e)) (h1 : isAt L z 125 = false) (h2 : isAt L z 44 = true) : PtP L S p c (ks ++ [s]) (l ++ [ns]) (z + 1) e := by
  obtain ⟨a1, a2, a3, a4⟩ := HS _ _ _ _ _ h.ok.top hs
  obtain ⟨b1, b2, b3⟩ := keyS_ok hk
  refine ⟨fun k => ?_, h.ok.snoc a1 a2 a3, by have := h.far; rw [List.length_append, List.length_cons, List.length_nil]; omega, by simp [h.same], keys_size h.size b3⟩
  rw [List.length_append, List.length_cons, List.length_nil, show l.length + (0 + 1) + k = l.length + (k + 1) by omega, h.pre, spPairsJ, hk]
  simp only [hs, h1, h2, Bool.false_eq_true, if_false, if_true]
  cases spPairsJ L S k (z + 1) e <;> simp
theorem PtP.last {L : List UInt8} {S : Nat → Nat → Option (List VN × Nat × Nat)} {p c : Nat} {ks : List ByteArray} {l : List (List VN)} {q d : Nat} (h : PtP L S p c ks l q d) (hq : q ≤ L.length) {s : ByteArray} {q0 : Nat} {ns : List VN} {z e : Nat} (hk : keyS L q = some (s, q0)) (hs : S q0 d = some (ns, z, e)) (h1 : isAt L z 125 = true) : spPairsJ L S (L.length + 1) p c = some (ks ++ [s], l ++ [ns], z + 1, e) := by
  have hf := h.far
  obtain ⟨k, hk2⟩ : ∃ k, L.length + 1 = l.length + (k + 1) := ⟨L.length - l.length, by omega⟩
  rw [hk2, h.pre, spPairsJ, hk]
  simp [hs, h1]
theorem PtP.stop {L : List UInt8} {S : Nat → Nat → Option (List VN × Nat × Nat)} {p c : Nat} {ks : List ByteArray} {l : List (List VN)} {q d : Nat} (h : PtP L S p c ks l q d) (hq : q ≤ L.length) (hs : keyS L q = none ∨ ∃ s q0, keyS L q = some (s, q0) ∧ (S q0 d = none ∨ ∃ ns z e, S q0 d = some (ns, z, e) ∧ isAt L z 125 = false ∧ isAt L z 44 = false)) : spPairsJ L S (L.length + 1) p c = none := by
  have hf := h.far
  obtain ⟨k, hk⟩ : ∃ k, L.length + 1 = l.length + (k + 1) := ⟨L.length - l.length, by omega⟩
  rw [hk, h.pre, spPairsJ]
  rcases hs with hs | ⟨s, q0, hs, h2⟩
  · rw [hs]; rfl
  · rw [hs]
    rcases h2 with h2 | ⟨ns, z, e, h2, h3, h4⟩
    · simp [h2]
    · simp [h2, h3, h4]

theorem items_fineJ {L : List UInt8} {S : Nat → Nat → Option (List VN × Nat × Nat)} (H : SpOk S) : ∀ {k p c : Nat} {l : List (List VN)} {q d : Nat}, c ≤ 80 → spItemsJ L S k p c = some (l, q, d) → d = c + sumL (rowAt l) l.length ∧ d ≤ 80 ∧ (∀ i, i < l.length → SmNs (rowAt l i)) ∧ p < q := by
  intro k
  induction k with
  | zero => intro p c l q d hc h; cases h
  | succ k ih =>
    intro p c l q d hc h
    rw [spItemsJ] at h
    cases e1 : S p c with
    | none => simp [e1] at h
    | some x =>
      obtain ⟨n1, q1, d1⟩ := x
      simp only [e1] at h
      obtain ⟨a1, a2, a3, a4⟩ := H _ _ _ _ _ hc e1
      split at h
      · simp only [Option.some.injEq, Prod.mk.injEq] at h
        obtain ⟨rfl, rfl, rfl⟩ := h
        refine ⟨by rw [List.length_cons, sumL_cons]; simp [sumL]; exact a2, a3, fun i hi => ?_, by omega⟩
        obtain rfl : i = 0 := by simpa using hi
        exact a1
      · split at h
        · cases e2 : spItemsJ L S k (q1 + 1) d1 with
          | none => simp [e2] at h
          | some y =>
            obtain ⟨m, z, d2⟩ := y
            simp only [e2, Option.some.injEq, Prod.mk.injEq] at h
            obtain ⟨rfl, rfl, rfl⟩ := h
            obtain ⟨b1, b2, b3, b4⟩ := ih a3 e2
            refine ⟨by rw [List.length_cons, sumL_cons, rowAt_cons]; show d2 = c + (n1.length + _); omega, b2, fun i hi => ?_, by omega⟩
            cases i with
            | zero => exact a1
            | succ i => exact b3 i (by simpa using hi)
        · cases h
theorem pairs_fineJ {L : List UInt8} {S : Nat → Nat → Option (List VN × Nat × Nat)} (H : SpOk S) : ∀ {k p c : Nat} {ks : List ByteArray} {l : List (List VN)} {q d : Nat}, c ≤ 80 → spPairsJ L S k p c = some (ks, l, q, d) → d = c + sumL (rowAt l) l.length ∧ d ≤ 80 ∧ (∀ i, i < l.length → SmNs (rowAt l i)) ∧ p < q ∧ ks.length = l.length ∧ (∀ i, i < ks.length → (keyAt ks i).size ≤ 60) := by
  intro k
  induction k with
  | zero => intro p c ks l q d hc h; cases h
  | succ k ih =>
    intro p c ks l q d hc h
    rw [spPairsJ] at h
    cases e0 : keyS L p with
    | none => simp [e0] at h
    | some x0 =>
      obtain ⟨s, q0⟩ := x0
      simp only [e0] at h
      obtain ⟨k1, k2, k3⟩ := keyS_ok e0
      cases e1 : S q0 c with
      | none => simp [e1] at h
      | some x =>
        obtain ⟨n1, q1, d1⟩ := x
        simp only [e1] at h
        obtain ⟨a1, a2, a3, a4⟩ := H _ _ _ _ _ hc e1
        split at h
        · simp only [Option.some.injEq, Prod.mk.injEq] at h
          obtain ⟨rfl, rfl, rfl, rfl⟩ := h
          refine ⟨by rw [List.length_cons, sumL_cons]; simp [sumL]; exact a2, a3, fun i hi => ?_, by omega, rfl, fun i hi => ?_⟩
          · obtain rfl : i = 0 := by simpa using hi
            exact a1
          · obtain rfl : i = 0 := by simpa using hi
            exact k3
        · split at h
          · cases e2 : spPairsJ L S k (q1 + 1) d1 with
            | none => simp [e2] at h
            | some y =>
              obtain ⟨ks2, m, z, d2⟩ := y
              simp only [e2, Option.some.injEq, Prod.mk.injEq] at h
              obtain ⟨rfl, rfl, rfl, rfl⟩ := h
              obtain ⟨b1, b2, b3, b4, b5, b6⟩ := ih a3 e2
              refine ⟨by rw [List.length_cons, sumL_cons, rowAt_cons]; show d2 = c + (n1.length + _); omega, b2, fun i hi => ?_, by omega, by simp [b5], fun i hi => ?_⟩
              · cases i with
                | zero => exact a1
                | succ i => exact b3 i (by simpa using hi)
              · cases i with
                | zero => exact k3
                | succ i => exact b6 i (by simpa using hi)
          · cases h
theorem lay_leafN (k n : Int) (s : ByteArray) : layT 1 (.mk k n s [] []) 0 = leafN k n s := rfl
theorem sm_none {kind : Int} (h0 : 0 ≤ kind) (h6 : kind ≤ 6) : SmNs (makeNs kind [] (fun _ => []) 0) ∧ (makeNs kind [] (fun _ => []) 0).length = 1 := by
  refine ⟨sm_make (fun i hi => by omega) (by simp [catNs]) h0 h6 (by simp) (fun i hi => absurd hi (by simp)), by rw [make_len]; rfl⟩
theorem spListJ_fine {L : List UInt8} {S : Nat → Nat → Option (List VN × Nat × Nat)} (H : SpOk S) {deep p c : Nat} {ns : List VN} {q d : Nat} (h1 : 1 ≤ c) (hc : c ≤ 80) (h : spListJ L S deep p c = some (ns, q, d)) : SmNs ns ∧ d + 1 = c + ns.length ∧ d ≤ 80 ∧ p ≤ q := by
  have hsk := runJ_ge blankC L p
  unfold spListJ at h
  split at h
  · simp only [Option.some.injEq, Prod.mk.injEq] at h
    obtain ⟨rfl, rfl, rfl⟩ := h
    obtain ⟨a, b⟩ := sm_none (kind := 5) (by omega) (by omega)
    exact ⟨a, by omega, hc, by show p ≤ runJ blankC L p + 1; omega⟩
  · split at h
    · cases h
    · cases e : spItemsJ L S (L.length + 1) p c with
      | none => simp [e] at h
      | some x =>
        obtain ⟨l, z, d1⟩ := x
        simp only [e, Option.some.injEq, Prod.mk.injEq] at h
        obtain ⟨rfl, rfl, rfl⟩ := h
        obtain ⟨b1, b2, b3, b4⟩ := items_fineJ H hc e
        exact ⟨sm_make b3 (by rw [cat_sum]; omega) (by omega) (by omega) (by simp) (fun i hi => absurd hi (by simp)), by rw [make_len, cat_sum]; omega, b2, by omega⟩
theorem spMapJ_fine {L : List UInt8} {S : Nat → Nat → Option (List VN × Nat × Nat)} (H : SpOk S) {deep p c : Nat} {ns : List VN} {q d : Nat} (h1 : 1 ≤ c) (hc : c ≤ 80) (h : spMapJ L S deep p c = some (ns, q, d)) : SmNs ns ∧ d + 1 = c + ns.length ∧ d ≤ 80 ∧ p ≤ q := by
  have hsk := runJ_ge blankC L p
  unfold spMapJ at h
  split at h
  · simp only [Option.some.injEq, Prod.mk.injEq] at h
    obtain ⟨rfl, rfl, rfl⟩ := h
    obtain ⟨a, b⟩ := sm_none (kind := 6) (by omega) (by omega)
    exact ⟨a, by omega, hc, by show p ≤ runJ blankC L p + 1; omega⟩
  · split at h
    · cases h
    · cases e : spPairsJ L S (L.length + 1) p c with
      | none => simp [e] at h
      | some x =>
        obtain ⟨ks, l, z, d1⟩ := x
        simp only [e] at h
        cases es : sortIn ks ks.length with
        | none => simp [es] at h
        | some y =>
          obtain ⟨nk, ps⟩ := y
          simp only [es, Option.some.injEq, Prod.mk.injEq] at h
          obtain ⟨rfl, rfl, rfl⟩ := h
          obtain ⟨b1, b2, b3, b4, b5, b6⟩ := pairs_fineJ H hc e
          have hm := sumL_many (L := rowAt l) (m := l.length) (fun i hi => (b3 i hi).1)
          obtain ⟨s1, s2, s3, s4, s5, s6⟩ := sorted_fine es (l := l) (by rw [b5]; exact b3) b6 (by omega)
          exact ⟨sm_make s4 (by rw [s6, b5]; omega) (by omega) (by omega) (by omega) s5, by rw [make_len, s6, b5]; omega, b2, by omega⟩
theorem ok_json (L : List UInt8) : ∀ f deep, SpOk (spJ L f deep) := by
  intro f
  induction f with
  | zero => intro deep p c ns q d hc h; cases h
  | succ f ih =>
    intro deep p c ns q d hc h
    rw [spJ] at h
    split at h
    · cases h
    · rename_i h80
      cases e : spReadJ L (spJ L f (deep + 1)) (deep + 1) (skipJ L p) (c + 1) with
      | none => simp [e] at h
      | some x =>
        obtain ⟨n1, q1, d1⟩ := x
        simp only [e, Option.some.injEq, Prod.mk.injEq] at h
        obtain ⟨rfl, rfl, rfl⟩ := h
        have g1 : p ≤ skipJ L p := runJ_ge _ _ _
        have g2 : q1 ≤ skipJ L q1 := runJ_ge _ _ _
        have key : SmNs n1 ∧ d1 + 1 = c + 1 + n1.length ∧ d1 ≤ 80 ∧ skipJ L p < q1 := by
          have leaf : ∀ (k n : Int) (s : ByteArray) (z : Nat), 0 ≤ k → k ≤ 6 → -9223372036854775808 ≤ n → n ≤ 9223372036854775807 → s.size ≤ 60 → skipJ L p < z → some (layT 1 (.mk k n s [] []) 0, z, c + 1) = some (n1, q1, d1) → SmNs n1 ∧ d1 + 1 = c + 1 + n1.length ∧ d1 ≤ 80 ∧ skipJ L p < q1 := fun k n s z k0 k6 n0 n1' hs hz he => by
            rw [lay_leafN] at he
            simp only [Option.some.injEq, Prod.mk.injEq] at he
            obtain ⟨rfl, rfl, rfl⟩ := he
            exact ⟨sm_leaf ⟨k0, k6⟩ ⟨n0, n1'⟩ hs, by simp [leafN], by omega, hz⟩
          have he0 : ByteArray.empty.size ≤ 60 := by decide
          unfold spReadJ at e
          split at e
          · exact leaf 1 0 ByteArray.empty _ (by omega) (by omega) (by omega) (by omega) he0 (by omega) e
          split at e
          · exact leaf 2 1 ByteArray.empty _ (by omega) (by omega) (by omega) (by omega) he0 (by omega) e
          split at e
          · exact leaf 2 0 ByteArray.empty _ (by omega) (by omega) (by omega) (by omega) he0 (by omega) e
          split at e
          · cases et : txJ L (skipJ L p + 1) with
            | none => simp [et] at e
            | some y =>
              obtain ⟨l, z⟩ := y
              simp only [et] at e
              have hz := txJ_says (L.length - (skipJ L p + 1)) _ _ _ (Nat.le_refl _) et
              split at e
              · rename_i hl
                exact leaf 4 0 (txt l) z (by omega) (by omega) (by omega) (by omega) (by rw [txt_size]; exact hl) (by omega) e
              · cases e
          split at e
          · obtain ⟨a1, a2, a3, a4⟩ := spListJ_fine (ih (deep + 1)) (by omega) (by omega) e
            exact ⟨a1, a2, a3, by omega⟩
          split at e
          · obtain ⟨a1, a2, a3, a4⟩ := spMapJ_fine (ih (deep + 1)) (by omega) (by omega) e
            exact ⟨a1, a2, a3, by omega⟩
          · cases et : numJ L (skipJ L p) with
            | none => simp [et] at e
            | some y =>
              obtain ⟨v, z⟩ := y
              simp only [et] at e
              obtain ⟨b1, b2, b3, b4⟩ := numJ_lt et
              exact leaf 3 v ByteArray.empty z (by omega) (by omega) (by omega) (by omega) he0 b1 e
        obtain ⟨k1, k2, k3, k4⟩ := key
        exact ⟨k1, by omega, k3, by omega⟩
end Go.Proofs.Ytagcgnhpdmhegaa
