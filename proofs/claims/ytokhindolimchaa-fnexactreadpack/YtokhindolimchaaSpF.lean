/-
  Rows of rows of nodes, kept and put in another order. No walk.
-/
import Derived.Test.YtokhindolimchaaSmP
import Derived.Test.YtokhindolimchaaSSort
import Derived.Test.YtokhindolimchaaCbR
namespace Go.Proofs.Ytokhindolimchaa
open Go.RowKit
set_option linter.unusedSimpArgs false
set_option linter.unusedVariables false

theorem Rows2.congr {base : Nat} {w : World} {v : Value} {m : Nat} {L L' : Nat → List VN} {rs : Nat → Value} {KV IV : Nat → Nat → Value} {lo : Nat → Nat} (h : Rows2 base w v m L rs KV IV lo) (e : ∀ i, i < m → L' i = L i) : Rows2 base w v m L' rs KV IV lo :=
  ⟨h.row, fun i hi => by rw [e i hi]; exact h.nest i hi, h.low, h.mono, h.top, fun i hi x hx => by rw [e i hi] at hx; exact h.inn i hi x hx⟩

theorem Rows2.kept {base : Nat} {w w' : World} {v : Value} {m : Nat} {L : Nat → List VN} {rs : Nat → Value} {KV IV : Nat → Nat → Value} {lo : Nat → Nat} {x : Option Nat} (h : Rows2 base w v m L rs KV IV lo) (hg : w.grownBy w' x) (hr : v.ownBlock = none ∨ v.ownBlock ≠ x) (hn : ∀ i, i < m → ∀ y, InNest (rs i) (L i).length (KV i) (IV i) y → x ≠ some y) : Rows2 base w' v m L rs KV IV lo := by
  have go : ∀ {u : Value}, (∀ y, u.ownBlock = some y → x ≠ some y) → u.ownBlock = none ∨ u.ownBlock ≠ x := by
    intro u hu
    cases e : u.ownBlock with
    | none => exact Or.inl rfl
    | some y => exact Or.inr (fun e2 => hu y e e2.symm)
  refine ⟨h.row.kept hg hr, fun i hi => (h.nest i hi).kept hg (go fun y hy => hn i hi y (Or.inl hy)) (fun j hj => go fun y hy => hn i hi y (Or.inr ⟨j, hj, Or.inl hy⟩)) (fun j hj => go fun y hy => hn i hi y (Or.inr ⟨j, hj, Or.inr hy⟩)), h.low, h.mono, Nat.le_trans h.top hg.size, h.inn⟩

theorem sortIn_keys {ks : List ByteArray} : ∀ {i : Nat} {ns : List ByteArray} {ps : List Nat}, sortIn ks i = some (ns, ps) → ∀ x ∈ ns, ∃ j, j < i ∧ x = keyAt ks j := by
  intro i
  induction i with
  | zero => intro ns ps h; simp [sortIn] at h; obtain ⟨rfl, rfl⟩ := h; simp
  | succ i ih =>
    intro ns ps h
    rw [sortIn] at h
    split at h
    · cases h
    · rename_i ns0 ps0 h0
      split at h
      · cases h
      · injection h with h
        injection h with e1 e2
        subst e1 e2
        intro x hx
        simp only [List.mem_append, List.mem_singleton] at hx
        rcases hx with (hx | hx) | hx
        · obtain ⟨j, h1, h2⟩ := ih h0 x (List.mem_of_mem_take hx); exact ⟨j, by omega, h2⟩
        · exact ⟨i, by omega, hx⟩
        · obtain ⟨j, h1, h2⟩ := ih h0 x (List.mem_of_mem_drop hx); exact ⟨j, by omega, h2⟩

theorem keyAt_mem {l : List ByteArray} {i : Nat} (h : i < l.length) : keyAt l i ∈ l := by
  unfold keyAt
  rw [List.getD_eq_getElem?_getD, List.getElem?_eq_getElem h]
  exact List.getElem_mem h

theorem keyAt_snoc {l : List ByteArray} {s : ByteArray} {i : Nat} (h : i < l.length + 1) : keyAt (l ++ [s]) i = if i < l.length then keyAt l i else s := by
  unfold keyAt
  split
  · rename_i e; rw [List.getD_eq_getElem?_getD, List.getD_eq_getElem?_getD, List.getElem?_append_left e]
  · rename_i e
    obtain rfl : i = l.length := by omega
    simp

/-- Rows in another order, as they are read. -/
theorem Rows2.places {base B : Nat} {w w' : World} {v lv : Value} {m : Nat} {L : Nat → List VN} {rs : Nat → Value} {KV IV : Nat → Nat → Value} {lo : Nat → Nat} {ps : List Nat} (h : Rows2 base w v m L rs KV IV lo) (hb : Below w.heap.size w w') (hp : ∀ x ∈ ps, x < m) (hl : ps.length = m) (hm : m ≤ 80) (hf : ∀ i, i < m → Few (L i) ∧ ∀ j, j < (L i).length → Fits (nodeAt (L i) j))
    (hown : w'.ownsRow B 24 1 lv ps.length (ps.map rs)) : RowsAt w'.heap.size w' lv m (fun i => L (ps.getD i 0)) := by
  rw [hl] at hown
  obtain ⟨a, c, e⟩ := own_slice hown
  subst e
  refine ⟨by omega, a, c, rfl, fun hpos => ?_⟩
  obtain ⟨g, cap, e, _, hlt⟩ := hown.form (by omega)
  cases e
  refine ⟨g, rfl, hlt, fun i hi => ?_⟩
  have hi' : i < ps.length := by omega
  have hg : ps.getD i 0 = ps[i] := by rw [List.getD_eq_getElem?_getD, List.getElem?_eq_getElem hi']; rfl
  have hpm : ps.getD i 0 < m := by rw [hg]; exact hp _ (List.getElem_mem hi')
  refine ⟨rs (ps.getD i 0), ?_, ?_⟩
  · have hc := hown.cellAt i (show i < m * 1 by omega)
    rw [hc, List.getElem?_map, List.getElem?_eq_getElem hi', hg]; rfl
  · exact ((h.below hb).nest _ hpm).nodes (by have := (hf _ hpm).1.1; omega) (hf _ hpm).2

end Go.Proofs.Ytokhindolimchaa

/-
  Plain: what the specification reads is small, counts its nodes, and goes on.
-/
namespace Go.Proofs.Ytokhindolimchaa
open Go.RowKit
set_option linter.unusedSimpArgs false
set_option linter.unusedVariables false

def SpOk (S : Nat → Nat → Option (List VN × Nat × Nat)) : Prop := ∀ p c ns q d, c ≤ 80 → S p c = some (ns, q, d) → SmNs ns ∧ d = c + ns.length ∧ d ≤ 80 ∧ p < q
def WOk (W : Nat → Option (ByteArray × Nat)) : Prop := ∀ p s q, W p = some (s, q) → s.size ≤ 60 ∧ p < q

theorem items_fine {S : Nat → Nat → Option (List VN × Nat × Nat)} (H : SpOk S) : ∀ {k p c : Nat} {l : List (List VN)} {q d : Nat}, c ≤ 80 → spItems S k p c = some (l, q, d) → d = c + sumL (rowAt l) k ∧ d ≤ 80 ∧ l.length = k ∧ (∀ i, i < k → SmNs (rowAt l i)) ∧ p ≤ q := by
  intro k
  induction k with
  | zero => intro p c l q d hc h; simp [spItems] at h; obtain ⟨rfl, rfl, rfl⟩ := h; exact ⟨by simp [sumL], hc, rfl, fun i hi => by omega, Nat.le_refl _⟩
  | succ k ih =>
    intro p c l q d hc h
    rw [spItems] at h
    cases e1 : S p c with
    | none => simp [e1] at h
    | some x =>
      obtain ⟨n1, q1, d1⟩ := x
      simp only [e1] at h
      cases e2 : spItems S k q1 d1 with
      | none => simp [e2] at h
      | some y =>
        obtain ⟨m, z, d2⟩ := y
        simp only [e2, Option.some.injEq, Prod.mk.injEq] at h
        obtain ⟨rfl, rfl, rfl⟩ := h
        obtain ⟨a1, a2, a3, a4⟩ := H _ _ _ _ _ hc e1
        obtain ⟨b1, b2, b3, b4, b5⟩ := ih a3 e2
        refine ⟨?_, b2, by simp [b3], fun i hi => ?_, by omega⟩
        · rw [sumL_cons, rowAt_cons]
          show d2 = c + (n1.length + _)
          omega
        · cases i with
          | zero => exact a1
          | succ i => exact b4 i (by omega)
theorem pairs_fine {W : Nat → Option (ByteArray × Nat)} {S : Nat → Nat → Option (List VN × Nat × Nat)} (HW : WOk W) (H : SpOk S) : ∀ {k p c : Nat} {ks : List ByteArray} {l : List (List VN)} {q d : Nat}, c ≤ 80 → spPairs W S k p c = some (ks, l, q, d) → d = c + sumL (rowAt l) k ∧ d ≤ 80 ∧ l.length = k ∧ (∀ i, i < k → SmNs (rowAt l i)) ∧ p ≤ q ∧ ks.length = k ∧ (∀ i, i < k → (keyAt ks i).size ≤ 60) := by
  intro k
  induction k with
  | zero => intro p c ks l q d hc h; simp [spPairs] at h; obtain ⟨rfl, rfl, rfl, rfl⟩ := h; exact ⟨by simp [sumL], hc, rfl, fun i hi => by omega, Nat.le_refl _, rfl, fun i hi => by omega⟩
  | succ k ih =>
    intro p c ks l q d hc h
    rw [spPairs] at h
    cases e0 : W p with
    | none => simp [e0] at h
    | some x =>
      obtain ⟨s, q0⟩ := x
      simp only [e0] at h
      cases e1 : S q0 c with
      | none => simp [e1] at h
      | some x =>
        obtain ⟨n1, q1, d1⟩ := x
        simp only [e1] at h
        cases e2 : spPairs W S k q1 d1 with
        | none => simp [e2] at h
        | some y =>
          obtain ⟨ks1, m, z, d2⟩ := y
          simp only [e2, Option.some.injEq, Prod.mk.injEq] at h
          obtain ⟨rfl, rfl, rfl, rfl⟩ := h
          obtain ⟨w1, w2⟩ := HW _ _ _ e0
          obtain ⟨a1, a2, a3, a4⟩ := H _ _ _ _ _ hc e1
          obtain ⟨b1, b2, b3, b4, b5, b6, b7⟩ := ih a3 e2
          refine ⟨?_, b2, by simp [b3], fun i hi => ?_, by omega, by simp [b6], fun i hi => ?_⟩
          · rw [sumL_cons, rowAt_cons]
            show d2 = c + (n1.length + _)
            omega
          · cases i with
            | zero => exact a1
            | succ i => exact b4 i (by omega)
          · cases i with
            | zero => exact w1
            | succ i => exact b7 i (by omega)
theorem sorted_fine {ks ns : List ByteArray} {ps : List Nat} {l : List (List VN)} (h : sortIn ks ks.length = some (ns, ps)) (hl : ∀ i, i < ks.length → SmNs (rowAt l i)) (hk : ∀ i, i < ks.length → (keyAt ks i).size ≤ 60) (h80 : ks.length ≤ 80) :
    ns.length = ks.length ∧ ps.length = ks.length ∧ (∀ i, i < ks.length → ps.getD i 0 < ks.length) ∧ (∀ i, i < ks.length → SmNs (rowAt l (ps.getD i 0))) ∧ (∀ i, i < ns.length → (keyAt ns i).size ≤ 60) ∧ (catNs (fun j => rowAt l (ps.getD j 0)) ks.length).length = sumL (rowAt l) ks.length := by
  obtain ⟨h1, h2⟩ := sortIn_len h
  obtain ⟨s1, s2⟩ := srt_sorted h
  have hp : ∀ i, i < ks.length → ps.getD i 0 < ks.length := fun i hi => by have := srt_lt hi; rw [s1] at this; exact this
  refine ⟨h1, h2, hp, fun i hi => hl _ (hp i hi), fun i hi => ?_, ?_⟩
  · obtain ⟨j, a1, a2⟩ := sortIn_keys h _ (keyAt_mem hi)
    rw [a2]; exact hk j a1
  · rw [cat_sum, ← s1, sumL_perm (rowAt l) (srt_perm ks)]
theorem row_fine {W : Nat → Option (ByteArray × Nat)} {S : Nat → Nat → Option (List VN × Nat × Nat)} (HW : WOk W) (H : SpOk S) {named : Bool} {many deep p c : Nat} {ns : List VN} {q d : Nat} (h1 : 1 ≤ c) (hc : c ≤ 80) (h : spRow W S named many deep p c = some (ns, q, d)) : SmNs ns ∧ d + 1 = c + ns.length ∧ d ≤ 80 ∧ p ≤ q := by
  unfold spRow at h
  split at h
  · cases h
  rename_i hm
  cases named
  · simp only [Bool.false_eq_true, if_false] at h
    cases e : spItems S many p c with
    | none => simp [e] at h
    | some x =>
      obtain ⟨l, q1, d1⟩ := x
      simp only [e, Option.some.injEq, Prod.mk.injEq] at h
      obtain ⟨rfl, rfl, rfl⟩ := h
      obtain ⟨b1, b2, b3, b4, b5⟩ := items_fine H hc e
      refine ⟨sm_make (by rw [b3]; exact b4) (by rw [cat_sum, b3]; omega) (by omega) (by omega) (by simp) (fun i hi => absurd hi (by simp)), by rw [make_len, cat_sum, b3]; omega, b2, b5⟩
  · simp only [if_true] at h
    cases e : spPairs W S many p c with
    | none => simp [e] at h
    | some x =>
      obtain ⟨ks, l, q1, d1⟩ := x
      simp only [e] at h
      cases es : sortIn ks ks.length with
      | none => simp [es] at h
      | some y =>
        obtain ⟨nk, ps⟩ := y
        simp only [es, Option.some.injEq, Prod.mk.injEq] at h
        obtain ⟨rfl, rfl, rfl⟩ := h
        obtain ⟨b1, b2, b3, b4, b5, b6, b7⟩ := pairs_fine HW H hc e
        subst b6
        obtain ⟨s1, s2, s3, s4, s5, s6⟩ := sorted_fine es b4 b7 (by omega)
        refine ⟨sm_make s4 (by rw [s6]; omega) (by omega) (by omega) (by omega) s5, by rw [make_len, s6]; omega, b2, b5⟩
theorem big_fine {L : List UInt8} {p m n q : Nat} (h : bigS L p m = some (n, q)) (hm : 1 ≤ m) : n ≤ 256000000000000255 ∧ p < q ∧ q ≤ L.length := by
  unfold bigS maxI at h
  split at h
  · rename_i g
    simp only [Option.some.injEq, Prod.mk.injEq] at h
    obtain ⟨rfl, rfl⟩ := h
    obtain ⟨m, rfl⟩ : ∃ k, m = k + 1 := ⟨m - 1, by omega⟩
    rw [Nat.add_sub_cancel] at g
    have := byAt_lt L (p + m)
    rw [bigN]
    omega
  · cases h
theorem head_fine {L : List UInt8} {p n q : Nat} (hp : p < L.length) (h : headS L p = some (n, q)) : n ≤ 256000000000000255 ∧ p < q ∧ q ≤ L.length := by
  unfold headS at h
  split at h
  · simp only [Option.some.injEq, Prod.mk.injEq] at h
    obtain ⟨rfl, rfl⟩ := h
    omega
  · split at h
    · have := big_fine h (two_pos _); omega
    · cases h
theorem take_fine {L : List UInt8} {p n : Nat} {s : ByteArray} {q : Nat} (h : takeS L n p = some (s, q)) : s.size ≤ 60 ∧ p ≤ q ∧ q ≤ L.length ∧ n ≤ 60 ∧ q = p + n ∧ s = cutT L p n := by
  unfold takeS at h
  split at h
  · simp only [Option.some.injEq, Prod.mk.injEq] at h
    obtain ⟨rfl, rfl⟩ := h
    refine ⟨?_, by omega, by omega, by omega, rfl, rfl⟩
    rw [cutT_size (by omega)]; omega
  · cases h
theorem wok_cbor (L : List UInt8) (f : Nat) : WOk (spWc L f) := by
  intro p s q h
  cases f with
  | zero => simp [spWc] at h
  | succ f =>
    rw [spWc] at h
    split at h
    · cases h
    cases e : headS L p with
    | none => simp [e] at h
    | some x =>
      obtain ⟨n, r⟩ := x
      simp only [e] at h
      split at h
      · have h1 := head_fine (by omega) e
        have h2 := take_fine h
        exact ⟨h2.1, by omega⟩
      · cases h
theorem ok_cbor (L : List UInt8) : ∀ f deep, SpOk (spC L f deep) := by
  intro f
  induction f with
  | zero => intro deep p c ns q d _ h; simp [spC] at h
  | succ f ih =>
    intro deep p c ns q d hc h
    rw [spC] at h
    split at h
    · cases h
    rename_i hg
    have leaf : ∀ {k n : Int} {s : ByteArray} {q' : Nat}, some (leafN k n s, q', c + 1) = some (ns, q, d) → 0 ≤ k ∧ k ≤ 6 → -9223372036854775808 ≤ n ∧ n ≤ 9223372036854775807 → s.size ≤ 60 → p < q' → SmNs ns ∧ d = c + ns.length ∧ d ≤ 80 ∧ p < q := fun h h1 h2 h3 h4 => by
      simp only [Option.some.injEq, Prod.mk.injEq] at h
      obtain ⟨rfl, rfl, rfl⟩ := h
      exact ⟨sm_leaf h1 h2 h3, rfl, by omega, h4⟩
    split at h
    · exact leaf h (by decide) (by decide) (by decide) (by omega)
    split at h
    · exact leaf h (by decide) (by decide) (by decide) (by omega)
    split at h
    · exact leaf h (by decide) (by decide) (by decide) (by omega)
    cases e : headS L p with
    | none => simp [e] at h
    | some x =>
      obtain ⟨n, r⟩ := x
      simp only [e] at h
      have h1 := head_fine (by omega) e
      unfold kindS at h
      split at h
      · exact leaf h (by decide) (by omega) (by decide) (by omega)
      split at h
      · exact leaf h (by decide) (by omega) (by decide) (by omega)
      split at h
      · unfold wordS at h
        cases e2 : takeS L n r with
        | none => simp [e2] at h
        | some y =>
          obtain ⟨s, z⟩ := y
          simp only [e2] at h
          have h2 := take_fine e2
          exact leaf h (by decide) (by decide) h2.1 (by omega)
      split at h
      · have := row_fine (wok_cbor L f) (ih (deep + 1)) (by omega) (by omega) h; exact ⟨this.1, by omega, by omega, by omega⟩
      split at h
      · have := row_fine (wok_cbor L f) (ih (deep + 1)) (by omega) (by omega) h; exact ⟨this.1, by omega, by omega, by omega⟩
      · cases h
end Go.Proofs.Ytokhindolimchaa
