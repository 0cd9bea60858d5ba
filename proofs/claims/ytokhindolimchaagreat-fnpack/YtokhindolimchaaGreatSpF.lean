/-
  Plain: what is read of a text's beginning is read of the text.
-/
import Derived.Test.YtokhindolimchaaGreatRdF
import Derived.Test.YtokhindolimchaaGreatSit
import Derived.Test.YtokhindolimchaaGreatDrL
import Derived.Test.YtokhindolimchaaGreatCbR
import Derived.Test.YtokhindolimchaaGreatDrV
namespace Go.Proofs.YtokhindolimchaaGreat
open Go.RowKit
set_option linter.unusedSimpArgs false
set_option linter.unusedVariables false

theorem items_ext {R R' : Nat → Option (VT × Nat)} (H : ∀ p x, R' p = some x → R p = some x) : ∀ {k p : Nat} {y : List VT × Nat}, rdItems R' k p = some y → rdItems R k p = some y := by
  intro k
  induction k with
  | zero => intro p y h; exact h
  | succ k ih =>
    intro p y h
    rw [rdItems] at h ⊢
    cases e : R' p with
    | none => rw [e] at h; cases h
    | some x =>
      obtain ⟨t, q⟩ := x
      rw [e] at h
      rw [H p _ e]
      dsimp only at h ⊢
      cases e2 : rdItems R' k q with
      | none => rw [e2] at h; cases h
      | some z => rw [e2] at h; rw [ih e2]; exact h
theorem pairs_ext {R R' : Nat → Option (VT × Nat)} (H : ∀ p x, R' p = some x → R p = some x) : ∀ {k p : Nat} {y : List ByteArray × List VT × Nat}, rdPairs R' k p = some y → rdPairs R k p = some y := by
  intro k
  induction k with
  | zero => intro p y h; exact h
  | succ k ih =>
    intro p y h
    rw [rdPairs] at h ⊢
    cases e : R' p with
    | none => rw [e] at h; cases h
    | some x =>
      obtain ⟨t, q⟩ := x
      rw [e] at h
      rw [H p _ e]
      dsimp only at h ⊢
      cases e1 : textOf t with
      | none => rw [e1] at h; cases h
      | some s =>
        rw [e1] at h
        dsimp only at h ⊢
        cases e2 : R' q with
        | none => rw [e2] at h; cases h
        | some x2 =>
          obtain ⟨u, r⟩ := x2
          rw [e2] at h
          rw [H q _ e2]
          dsimp only at h ⊢
          cases e3 : rdPairs R' k r with
          | none => rw [e3] at h; cases h
          | some z => rw [e3] at h; rw [ih e3]; exact h
theorem byAt_take {L : List UInt8} {m p : Nat} (h : p < m) : byAt (L.take m) p = byAt L p := by
  unfold byAt
  rw [List.getD_eq_getElem?_getD, List.getD_eq_getElem?_getD, List.getElem?_take, if_pos h]
theorem bigN_take {L : List UInt8} {m p : Nat} : ∀ k, p + k ≤ m → bigN (L.take m) p k = bigN L p k := by
  intro k
  induction k with
  | zero => intro _; rfl
  | succ k ih => intro h; rw [bigN, bigN, ih (by omega), byAt_take (by omega)]
theorem numI_take {L : List UInt8} {m p w : Nat} {x : Nat × Nat} (hm : m ≤ L.length) (h : numI (L.take m) p w = some x) : numI L p w = some x := by
  have hl : (L.take m).length = m := by rw [List.length_take]; omega
  unfold numI at h ⊢
  rw [hl] at h
  split at h
  · rename_i g
    rw [bigN_take w g.1] at g h
    rw [if_pos ⟨by omega, g.2⟩]
    exact h
  · cases h
theorem headI_take {L : List UInt8} {m p : Nat} {x : Nat × Nat} (hm : m ≤ L.length) (hp : p < m) (h : headI (L.take m) p = some x) : headI L p = some x := by
  unfold headI at h ⊢
  rw [byAt_take hp] at h
  split at h
  · rw [if_pos (by assumption)]; exact h
  · rw [if_neg (by assumption)]
    split at h
    · rw [if_pos (by assumption)]; exact numI_take hm h
    · cases h
theorem wordI_take {L : List UInt8} {m n q : Nat} {x : VT × Nat} (hm : m ≤ L.length) (h : wordI (L.take m) n q = some x) : wordI L n q = some x := by
  have hl : (L.take m).length = m := by rw [List.length_take]; omega
  unfold wordI at h ⊢
  rw [hl] at h
  split at h
  · rename_i g
    have e : cutT (L.take m) q n = cutT L q n := by
      unfold cutT
      rw [List.drop_take, List.take_take, Nat.min_eq_left (by omega)]
    rw [e] at h
    rw [if_pos (by omega)]
    exact h
  · cases h
theorem rowT_ext {R R' : Nat → Option (VT × Nat)} (H : ∀ p x, R' p = some x → R p = some x) {named : Bool} {many p : Nat} {x : VT × Nat} (h : rowT R' named many p = some x) : rowT R named many p = some x := by
  unfold rowT at h ⊢
  cases named
  · rw [if_neg (by decide)] at h ⊢
    cases e : rdItems R' many p with
    | none => rw [e] at h; cases h
    | some z => rw [e] at h; rw [items_ext H e]; exact h
  · rw [if_pos rfl] at h ⊢
    cases e : rdPairs R' many p with
    | none => rw [e] at h; cases h
    | some z => rw [e] at h; rw [pairs_ext H e]; exact h
theorem rdC_take {L : List UInt8} {m : Nat} (hm : m ≤ L.length) : ∀ f p x, rdC (L.take m) f p = some x → rdC L f p = some x := by
  have hl : (L.take m).length = m := by rw [List.length_take]; omega
  intro f
  induction f with
  | zero => intro p x h; simp [rdC] at h
  | succ f ih =>
    intro p x h
    rw [rdC] at h ⊢
    rw [hl] at h
    split at h
    · cases h
    rename_i hp
    rw [if_neg (by omega)]
    rw [byAt_take (by omega)] at h
    split at h
    · rw [if_pos (by assumption)]; exact h
    rw [if_neg (by assumption)]
    split at h
    · rw [if_pos (by assumption)]; exact h
    rw [if_neg (by assumption)]
    split at h
    · rw [if_pos (by assumption)]; exact h
    rw [if_neg (by assumption)]
    cases e : headI (L.take m) p with
    | none => rw [e] at h; cases h
    | some y =>
      obtain ⟨n, q⟩ := y
      rw [e] at h
      rw [headI_take hm (by omega) e]
      dsimp only at h ⊢
      unfold kindI at h ⊢
      split at h
      · rw [if_pos (by assumption)]; exact h
      rw [if_neg (by assumption)]
      split at h
      · rw [if_pos (by assumption)]; exact h
      rw [if_neg (by assumption)]
      split at h
      · rw [if_pos (by assumption)]; exact wordI_take hm h
      rw [if_neg (by assumption)]
      split at h
      · rw [if_pos (by assumption)]; exact rowT_ext ih h
      rw [if_neg (by assumption)]
      split at h
      · rw [if_pos (by assumption)]; exact rowT_ext ih h
      · cases h
theorem rdC_more {L : List UInt8} : ∀ f g p x, f ≤ g → rdC L f p = some x → rdC L g p = some x := by
  intro f
  induction f with
  | zero => intro g p x _ h; simp [rdC] at h
  | succ f ih =>
    intro g p x hg h
    obtain ⟨g, rfl⟩ : ∃ k, g = k + 1 := ⟨g - 1, by omega⟩
    have H : ∀ p x, rdC L f p = some x → rdC L g p = some x := fun p x h => ih g p x (by omega) h
    rw [rdC] at h ⊢
    split at h
    · cases h
    rw [if_neg (by assumption)]
    split at h
    · rw [if_pos (by assumption)]; exact h
    rw [if_neg (by assumption)]
    split at h
    · rw [if_pos (by assumption)]; exact h
    rw [if_neg (by assumption)]
    split at h
    · rw [if_pos (by assumption)]; exact h
    rw [if_neg (by assumption)]
    cases e : headI L p with
    | none => rw [e] at h; cases h
    | some y =>
      obtain ⟨n, q⟩ := y
      rw [e] at h
      dsimp only at h ⊢
      unfold kindI at h ⊢
      split at h
      · rw [if_pos (by assumption)]; exact h
      rw [if_neg (by assumption)]
      split at h
      · rw [if_pos (by assumption)]; exact h
      rw [if_neg (by assumption)]
      split at h
      · rw [if_pos (by assumption)]; exact h
      rw [if_neg (by assumption)]
      split at h
      · rw [if_pos (by assumption)]; exact rowT_ext H h
      rw [if_neg (by assumption)]
      split at h
      · rw [if_pos (by assumption)]; exact rowT_ext H h
      · cases h
/-- A text cut short says nothing. -/
theorem cut_none {L : List UInt8} {g m f : Nat} {t : VT} (h : rdC L g 0 = some (t, L.length)) (hm : m < L.length) (hok : L.length ≤ 4000) : rdC (L.take m) f 0 = none := by
  cases e : rdC (L.take m) f 0 with
  | none => rfl
  | some x =>
    obtain ⟨u, q⟩ := x
    exfalso
    have hl : (L.take m).length = m := by rw [List.length_take]; omega
    have h1 := (rdC_ok (L.take m) (by omega) f 0 u q e).2.1
    have h2 := rdC_more f (f + g) 0 _ (by omega) (rdC_take (by omega) f 0 _ e)
    have h3 := rdC_more g (f + g) 0 _ (by omega) h
    rw [h2] at h3
    simp only [Option.some.injEq, Prod.mk.injEq] at h3
    omega
end Go.Proofs.YtokhindolimchaaGreat

/-
  Plain: nodes that are small enough, and lists and maps of such.
-/
namespace Go.Proofs.YtokhindolimchaaGreat
open Go.RowKit
set_option linter.unusedSimpArgs false
set_option linter.unusedVariables false

structure SmN (c : Nat) (x : VN) : Prop where
  keysN : x.keys.length ≤ 80
  keysS : ∀ i, i < x.keys.length → (keyAt x.keys i).size ≤ 60
  kidsN : x.kids.length ≤ 80
  kids : ∀ j, j < x.kids.length → 0 ≤ intAt x.kids j ∧ intAt x.kids j < (c : Int)
  size : x.s.size ≤ 60
  kind : 0 ≤ x.kind ∧ x.kind ≤ 6
  num : -9223372036854775808 ≤ x.n ∧ x.n ≤ 9223372036854775807
def SmNs (vs : List VN) : Prop := 0 < vs.length ∧ vs.length ≤ 80 ∧ ∀ j, j < vs.length → SmN vs.length (nodeAt vs j)
theorem SmN.wide {c c' : Nat} {x : VN} (h : SmN c x) (hc : c ≤ c') : SmN c' x :=
  ⟨h.keysN, h.keysS, h.kidsN, fun j hj => by have := h.kids j hj; omega, h.size, h.kind, h.num⟩
theorem SmN.shift {c d c' : Nat} {x : VN} (h : SmN c x) (hc : c + d ≤ c') : SmN c' (shiftN (d : Int) x) := by
  refine ⟨h.keysN, h.keysS, by show (x.kids.map _).length ≤ 80; rw [List.length_map]; exact h.kidsN, fun j hj => ?_, h.size, h.kind, h.num⟩
  have hj' : j < x.kids.length := by have : j < (x.kids.map (· + (d : Int))).length := hj; rwa [List.length_map] at this
  have := h.kids j hj'
  show 0 ≤ intAt (x.kids.map (· + (d : Int))) j ∧ intAt (x.kids.map (· + (d : Int))) j < (c' : Int)
  rw [intAt_shift _ _ hj']
  omega
theorem sm_cat {m : Nat} {L : Nat → List VN} (h : ∀ i, i < m → SmNs (L i)) : ∀ i, i ≤ m → ∀ j, j < (catNs L i).length → SmN (catNs L i).length (nodeAt (catNs L i) j) := by
  intro i
  induction i with
  | zero => intro _ j hj; exact absurd hj (by simp [catNs])
  | succ i ih =>
    intro hi j hj
    have h2 := ih (by omega)
    have hL := h i (by omega)
    have hl := catNs_len L i
    rw [hl] at hj ⊢
    show SmN _ (nodeAt (catNs L i ++ (L i).map (shiftN ((catNs L i).length : Int))) j)
    by_cases e : j < (catNs L i).length
    · rw [nodeAt_l e]; exact (h2 j e).wide (by omega)
    · rw [nodeAt_r (by omega), nodeAt_sh (by omega)]
      exact (hL.2.2 _ (by omega)).shift (by omega)
theorem sm_make {m : Nat} {L : Nat → List VN} (h : ∀ i, i < m → SmNs (L i)) (hm : (catNs L m).length + 1 ≤ 80) {kind : Int} (hk1 : 0 ≤ kind) (hk2 : kind ≤ 6) {keys : List ByteArray} (hk : keys.length ≤ 80) (hks : ∀ i, i < keys.length → (keyAt keys i).size ≤ 60) : SmNs (makeNs kind keys L m) := by
  have h2 := sm_cat h m (Nat.le_refl _)
  have hmm : m ≤ (catNs L m).length := by rw [cat_sum]; exact sumL_many (fun i hi => (h i hi).1)
  have hl : (makeNs kind keys L m).length = (catNs L m).length + 1 := by unfold makeNs; simp
  refine ⟨by omega, by omega, fun j hj => ?_⟩
  rw [hl] at hj ⊢
  unfold makeNs
  by_cases e : j < (catNs L m).length
  · rw [nodeAt_l e]; exact (h2 j e).wide (by omega)
  · rw [nodeAt_r (by omega), show j - (catNs L m).length = 0 by omega]
    refine ⟨hk, hks, by show (catKs L m).length ≤ 80; rw [catKs_len]; omega, fun i hi => ?_, by show ByteArray.empty.size ≤ 60; decide, ⟨by show (0 : Int) ≤ kind; omega, by show kind ≤ 6; omega⟩, by show (-9223372036854775808 : Int) ≤ 0 ∧ (0 : Int) ≤ 9223372036854775807; decide⟩
    have hi' : i < m := by have : i < (catKs L m).length := hi; rwa [catKs_len] at this
    show 0 ≤ intAt (catKs L m) i ∧ intAt (catKs L m) i < _
    rw [catKs_at L m i hi']
    have h3 := catNs_len L i
    have h4 := (h i hi').1
    have h5 := catNs_mono L (show i + 1 ≤ m by omega)
    omega
theorem SmNs.few {vs : List VN} (h : SmNs vs) : Few vs ∧ ∀ j, j < vs.length → Fits (nodeAt vs j) := by
  refine ⟨⟨by have := h.2.1; omega, fun i hi => ?_⟩, fun j hj => ?_⟩
  · have := h.2.2 i hi; exact ⟨by have := this.keysN; omega, by have := this.kidsN; omega⟩
  · have hx := h.2.2 j hj
    exact ⟨by have := hx.keysN; omega, fun i hi => by have := hx.keysS i hi; omega, by have := hx.kidsN; omega, fun i hi => by have := hx.kids i hi; have := h.2.1; omega, by have := hx.size; omega, by have := hx.kind.1; omega, by have := hx.kind.2; omega, hx.num.1, hx.num.2⟩
theorem SmNs.near {vs : List VN} (h : SmNs vs) : 0 < vs.length ∧ ∀ j, j < vs.length → Near (nodeAt vs j) := by
  refine ⟨h.1, fun j hj => ?_⟩
  have hx := h.2.2 j hj
  exact ⟨by have := hx.keysN; omega, by have := hx.kidsN; omega, fun i hi => by have := hx.kids i hi; have := h.2.1; omega⟩
theorem sm_leaf {k n : Int} {s : ByteArray} (hk : 0 ≤ k ∧ k ≤ 6) (hn : -9223372036854775808 ≤ n ∧ n ≤ 9223372036854775807) (hs : s.size ≤ 60) : SmNs (leafN k n s) := by
  refine ⟨by simp [leafN], by simp [leafN], fun j hj => ?_⟩
  obtain rfl : j = 0 := by simp [leafN] at hj; omega
  exact ⟨by simp [leafN, nodeAt], fun i hi => absurd hi (by simp [leafN, nodeAt]), by simp [leafN, nodeAt], fun i hi => absurd hi (by simp [leafN, nodeAt]), by simpa [leafN, nodeAt] using hs, by simpa [leafN, nodeAt] using hk, by simpa [leafN, nodeAt] using hn⟩
end Go.Proofs.YtokhindolimchaaGreat

/-
  Plain: what the specification reads is small, counts its nodes, and goes on.
-/
namespace Go.Proofs.YtokhindolimchaaGreat
open Go.RowKit
set_option linter.unusedSimpArgs false
set_option linter.unusedVariables false

def SpOk (S : Nat → Nat → Option (List VN × Nat × Nat)) : Prop := ∀ p c ns q d, c ≤ 80 → S p c = some (ns, q, d) → SmNs ns ∧ d = c + ns.length ∧ d ≤ 80 ∧ p < q
def WOk (W : Nat → Option (ByteArray × Nat)) : Prop := ∀ p s q, W p = some (s, q) → s.size ≤ 60 ∧ p < q

theorem items_fine {S : Nat → Nat → Option (List VN × Nat × Nat)} (H : SpOk S) : ∀ {k p c : Nat} {l : List (List VN)} {q d : Nat}, c ≤ 80 → spItems S k p c = some (l, q, d) → d = c + sumL (rowAt l) k ∧ d ≤ 80 ∧ l.length = k ∧ (∀ i, i < k → SmNs (rowAt l i)) ∧ p ≤ q := by
  intro k
  induction k with
  | zero => intro p c l q d hc h; simp [spItems] at h; obtain ⟨rfl, rfl, rfl⟩ := h; exact ⟨by simp [sumL], hc, rfl, fun i hi => by omega, Nat.le_refl _⟩
  | succ k ih =>
    intro p c l q d hc h
    rw [spItems] at h
    cases e1 : S p c with
    | none => simp [e1] at h
    | some x =>
      obtain ⟨n1, q1, d1⟩ := x
      simp only [e1] at h
      cases e2 : spItems S k q1 d1 with
      | none => simp [e2] at h
      | some y =>
        obtain ⟨m, z, d2⟩ := y
        simp only [e2, Option.some.injEq, Prod.mk.injEq] at h
        obtain ⟨rfl, rfl, rfl⟩ := h
        obtain ⟨a1, a2, a3, a4⟩ := H _ _ _ _ _ hc e1
        obtain ⟨b1, b2, b3, b4, b5⟩ := ih a3 e2
        refine ⟨?_, b2, by simp [b3], fun i hi => ?_, by omega⟩
        · rw [sumL_cons, rowAt_cons]
          show d2 = c + (n1.length + _)
          omega
        · cases i with
          | zero => exact a1
          | succ i => exact b4 i (by omega)
theorem pairs_fine {W : Nat → Option (ByteArray × Nat)} {S : Nat → Nat → Option (List VN × Nat × Nat)} (HW : WOk W) (H : SpOk S) : ∀ {k p c : Nat} {ks : List ByteArray} {l : List (List VN)} {q d : Nat}, c ≤ 80 → spPairs W S k p c = some (ks, l, q, d) → d = c + sumL (rowAt l) k ∧ d ≤ 80 ∧ l.length = k ∧ (∀ i, i < k → SmNs (rowAt l i)) ∧ p ≤ q ∧ ks.length = k ∧ (∀ i, i < k → (keyAt ks i).size ≤ 60) := by
  intro k
  induction k with
  | zero => intro p c ks l q d hc h; simp [spPairs] at h; obtain ⟨rfl, rfl, rfl, rfl⟩ := h; exact ⟨by simp [sumL], hc, rfl, fun i hi => by omega, Nat.le_refl _, rfl, fun i hi => by omega⟩
  | succ k ih =>
    intro p c ks l q d hc h
    rw [spPairs] at h
    cases e0 : W p with
    | none => simp [e0] at h
    | some x =>
      obtain ⟨s, q0⟩ := x
      simp only [e0] at h
      cases e1 : S q0 c with
      | none => simp [e1] at h
      | some x =>
        obtain ⟨n1, q1, d1⟩ := x
        simp only [e1] at h
        cases e2 : spPairs W S k q1 d1 with
        | none => simp [e2] at h
        | some y =>
          obtain ⟨ks1, m, z, d2⟩ := y
          simp only [e2, Option.some.injEq, Prod.mk.injEq] at h
          obtain ⟨rfl, rfl, rfl, rfl⟩ := h
          obtain ⟨w1, w2⟩ := HW _ _ _ e0
          obtain ⟨a1, a2, a3, a4⟩ := H _ _ _ _ _ hc e1
          obtain ⟨b1, b2, b3, b4, b5, b6, b7⟩ := ih a3 e2
          refine ⟨?_, b2, by simp [b3], fun i hi => ?_, by omega, by simp [b6], fun i hi => ?_⟩
          · rw [sumL_cons, rowAt_cons]
            show d2 = c + (n1.length + _)
            omega
          · cases i with
            | zero => exact a1
            | succ i => exact b4 i (by omega)
          · cases i with
            | zero => exact w1
            | succ i => exact b7 i (by omega)
theorem sorted_fine {ks ns : List ByteArray} {ps : List Nat} {l : List (List VN)} (h : sortIn ks ks.length = some (ns, ps)) (hl : ∀ i, i < ks.length → SmNs (rowAt l i)) (hk : ∀ i, i < ks.length → (keyAt ks i).size ≤ 60) (h80 : ks.length ≤ 80) :
    ns.length = ks.length ∧ ps.length = ks.length ∧ (∀ i, i < ks.length → ps.getD i 0 < ks.length) ∧ (∀ i, i < ks.length → SmNs (rowAt l (ps.getD i 0))) ∧ (∀ i, i < ns.length → (keyAt ns i).size ≤ 60) ∧ (catNs (fun j => rowAt l (ps.getD j 0)) ks.length).length = sumL (rowAt l) ks.length := by
  obtain ⟨h1, h2⟩ := sortIn_len h
  obtain ⟨s1, s2⟩ := srt_sorted h
  have hp : ∀ i, i < ks.length → ps.getD i 0 < ks.length := fun i hi => by have := srt_lt hi; rw [s1] at this; exact this
  refine ⟨h1, h2, hp, fun i hi => hl _ (hp i hi), fun i hi => ?_, ?_⟩
  · obtain ⟨j, a1, a2⟩ := sortIn_keys h _ (keyAt_mem hi)
    rw [a2]; exact hk j a1
  · rw [cat_sum, ← s1, sumL_perm (rowAt l) (srt_perm ks)]
theorem row_fine {W : Nat → Option (ByteArray × Nat)} {S : Nat → Nat → Option (List VN × Nat × Nat)} (HW : WOk W) (H : SpOk S) {named : Bool} {many deep p c : Nat} {ns : List VN} {q d : Nat} (h1 : 1 ≤ c) (hc : c ≤ 80) (h : spRow W S named many deep p c = some (ns, q, d)) : SmNs ns ∧ d + 1 = c + ns.length ∧ d ≤ 80 ∧ p ≤ q := by
  unfold spRow at h
  split at h
  · cases h
  rename_i hm
  cases named
  · simp only [Bool.false_eq_true, if_false] at h
    cases e : spItems S many p c with
    | none => simp [e] at h
    | some x =>
      obtain ⟨l, q1, d1⟩ := x
      simp only [e, Option.some.injEq, Prod.mk.injEq] at h
      obtain ⟨rfl, rfl, rfl⟩ := h
      obtain ⟨b1, b2, b3, b4, b5⟩ := items_fine H hc e
      refine ⟨sm_make (by rw [b3]; exact b4) (by rw [cat_sum, b3]; omega) (by omega) (by omega) (by simp) (fun i hi => absurd hi (by simp)), by rw [make_len, cat_sum, b3]; omega, b2, b5⟩
  · simp only [if_true] at h
    cases e : spPairs W S many p c with
    | none => simp [e] at h
    | some x =>
      obtain ⟨ks, l, q1, d1⟩ := x
      simp only [e] at h
      cases es : sortIn ks ks.length with
      | none => simp [es] at h
      | some y =>
        obtain ⟨nk, ps⟩ := y
        simp only [es, Option.some.injEq, Prod.mk.injEq] at h
        obtain ⟨rfl, rfl, rfl⟩ := h
        obtain ⟨b1, b2, b3, b4, b5, b6, b7⟩ := pairs_fine HW H hc e
        subst b6
        obtain ⟨s1, s2, s3, s4, s5, s6⟩ := sorted_fine es b4 b7 (by omega)
        refine ⟨sm_make s4 (by rw [s6]; omega) (by omega) (by omega) (by omega) s5, by rw [make_len, s6]; omega, b2, b5⟩
theorem big_fine {L : List UInt8} {p m n q : Nat} (h : bigS L p m = some (n, q)) (hm : 1 ≤ m) : n ≤ 256000000000000255 ∧ p < q ∧ q ≤ L.length := by
  unfold bigS maxI at h
  split at h
  · rename_i g
    simp only [Option.some.injEq, Prod.mk.injEq] at h
    obtain ⟨rfl, rfl⟩ := h
    obtain ⟨m, rfl⟩ : ∃ k, m = k + 1 := ⟨m - 1, by omega⟩
    rw [Nat.add_sub_cancel] at g
    have := byAt_lt L (p + m)
    rw [bigN]
    omega
  · cases h
theorem head_fine {L : List UInt8} {p n q : Nat} (hp : p < L.length) (h : headS L p = some (n, q)) : n ≤ 256000000000000255 ∧ p < q ∧ q ≤ L.length := by
  unfold headS at h
  split at h
  · simp only [Option.some.injEq, Prod.mk.injEq] at h
    obtain ⟨rfl, rfl⟩ := h
    omega
  · split at h
    · have := big_fine h (two_pos _); omega
    · cases h
theorem take_fine {L : List UInt8} {p n : Nat} {s : ByteArray} {q : Nat} (h : takeS L n p = some (s, q)) : s.size ≤ 60 ∧ p ≤ q ∧ q ≤ L.length ∧ n ≤ 60 ∧ q = p + n ∧ s = cutT L p n := by
  unfold takeS at h
  split at h
  · simp only [Option.some.injEq, Prod.mk.injEq] at h
    obtain ⟨rfl, rfl⟩ := h
    refine ⟨?_, by omega, by omega, by omega, rfl, rfl⟩
    rw [cutT_size (by omega)]; omega
  · cases h
theorem wok_cbor (L : List UInt8) (f : Nat) : WOk (spWc L f) := by
  intro p s q h
  cases f with
  | zero => simp [spWc] at h
  | succ f =>
    rw [spWc] at h
    split at h
    · cases h
    cases e : headS L p with
    | none => simp [e] at h
    | some x =>
      obtain ⟨n, r⟩ := x
      simp only [e] at h
      split at h
      · have h1 := head_fine (by omega) e
        have h2 := take_fine h
        exact ⟨h2.1, by omega⟩
      · cases h
theorem ok_cbor (L : List UInt8) : ∀ f deep, SpOk (spC L f deep) := by
  intro f
  induction f with
  | zero => intro deep p c ns q d _ h; simp [spC] at h
  | succ f ih =>
    intro deep p c ns q d hc h
    rw [spC] at h
    split at h
    · cases h
    rename_i hg
    have leaf : ∀ {k n : Int} {s : ByteArray} {q' : Nat}, some (leafN k n s, q', c + 1) = some (ns, q, d) → 0 ≤ k ∧ k ≤ 6 → -9223372036854775808 ≤ n ∧ n ≤ 9223372036854775807 → s.size ≤ 60 → p < q' → SmNs ns ∧ d = c + ns.length ∧ d ≤ 80 ∧ p < q := fun h h1 h2 h3 h4 => by
      simp only [Option.some.injEq, Prod.mk.injEq] at h
      obtain ⟨rfl, rfl, rfl⟩ := h
      exact ⟨sm_leaf h1 h2 h3, rfl, by omega, h4⟩
    split at h
    · exact leaf h (by decide) (by decide) (by decide) (by omega)
    split at h
    · exact leaf h (by decide) (by decide) (by decide) (by omega)
    split at h
    · exact leaf h (by decide) (by decide) (by decide) (by omega)
    cases e : headS L p with
    | none => simp [e] at h
    | some x =>
      obtain ⟨n, r⟩ := x
      simp only [e] at h
      have h1 := head_fine (by omega) e
      unfold kindS at h
      split at h
      · exact leaf h (by decide) (by omega) (by decide) (by omega)
      split at h
      · exact leaf h (by decide) (by omega) (by decide) (by omega)
      split at h
      · unfold wordS at h
        cases e2 : takeS L n r with
        | none => simp [e2] at h
        | some y =>
          obtain ⟨s, z⟩ := y
          simp only [e2] at h
          have h2 := take_fine e2
          exact leaf h (by decide) (by decide) h2.1 (by omega)
      split at h
      · have := row_fine (wok_cbor L f) (ih (deep + 1)) (by omega) (by omega) h; exact ⟨this.1, by omega, by omega, by omega⟩
      split at h
      · have := row_fine (wok_cbor L f) (ih (deep + 1)) (by omega) (by omega) h; exact ⟨this.1, by omega, by omega, by omega⟩
      · cases h
end Go.Proofs.YtokhindolimchaaGreat
