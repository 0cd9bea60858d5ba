/-
  The order of texts by their places, and the program's sortedPlaces.
-/
import Derived.Test.YtiamkmkbkehldaaGreatDoorStbA
import Derived.Test.YtiamkmkbkehldaaGreatDoorCmpD
import Derived.Test.YtiamkmkbkehldaaGreatDoorVal
import Derived.Test.YtiamkmkbkehldaaGreatDoorRd
import Derived.Test.YtiamkmkbkehldaaGreatDoorCbP
import Derived.Test.YtiamkmkbkehldaaGreatDoorKp
import Derived.Test.YtiamkmkbkehldaaGreatDoorMarkM
import Derived.Test.YtiamkmkbkehldaaGreatDoorSMake
import Derived.Test.YtiamkmkbkehldaaGreatDoorLowN
import Derived.Test.YtiamkmkbkehldaaGreatDoorPkT
import Derived.Test.YtiamkmkbkehldaaGreatDoorSpc3
import Derived.Test.YtiamkmkbkehldaaGreatDoorPure
import Derived.Test.YtiamkmkbkehldaaGreatDoorDrL
namespace Go.Proofs.YtiamkmkbkehldaaGreatDoor
open Go.RowKit
set_option linter.unusedSimpArgs false
set_option linter.unusedVariables false

/-- The texts at two places, held against each other. -/
def cfK (l : List ByteArray) (x y : Int) : Int := cmpS (keyAt l x.toNat) (keyAt l y.toNat)
def RK (l : List ByteArray) (x y : Int) : Prop := cfK l x y < 0 ∨ (cfK l x y = 0 ∧ x < y)

theorem rk_tot (l : List ByteArray) : Tot (RK l) := by
  have r3 : ∀ a b, R3 (cfK l a b) := fun a b => cmpS_r3 _ _
  have fl : ∀ a b, cfK l b a = -cfK l a b := fun a b => cmpS_flip _ _
  have tr : ∀ a b c, Tri (cfK l a b) (cfK l b c) (cfK l a c) := fun a b c => cmpS_tri _ _ _
  refine ⟨fun x y z h1 h2 => ?_, fun x y h1 h2 => ?_, fun x y h => ?_⟩
  · have t := tr x y z
    have a1 := r3 x y
    have a2 := r3 y z
    unfold RK at *
    unfold Tri comb at t
    unfold R3 at a1 a2
    rcases h1 with h1 | ⟨h1, h1'⟩ <;> rcases h2 with h2 | ⟨h2, h2'⟩
    · left
      have := t (by omega) (by omega)
      rw [this]; split <;> omega
    · left
      have := t (by omega) (by omega)
      rw [this]; split <;> omega
    · left
      have := t (by omega) (by omega)
      rw [this]; split <;> omega
    · right
      have := t (by omega) (by omega)
      refine ⟨?_, by omega⟩
      rw [this]; split <;> omega
  · have := fl x y
    unfold RK at h1 h2
    omega
  · have := fl x y
    unfold RK
    rcases Int.lt_or_gt_of_ne h with c | c
    · by_cases e : cfK l x y < 0
      · exact Or.inl (Or.inl e)
      · by_cases e2 : cfK l x y = 0
        · exact Or.inl (Or.inr ⟨e2, c⟩)
        · exact Or.inr (Or.inl (by omega))
    · by_cases e : cfK l y x < 0
      · exact Or.inr (Or.inl e)
      · by_cases e2 : cfK l y x = 0
        · exact Or.inr (Or.inr ⟨e2, c⟩)
        · exact Or.inl (Or.inl (by omega))

end Go.Proofs.YtiamkmkbkehldaaGreatDoor

/-
  The keys in order have one arrangement alone: what the specification's and the program's sort give is the same. Plain mathematics.
-/
namespace Go.Proofs.YtiamkmkbkehldaaGreatDoor
open Go.RowKit
set_option linter.unusedSimpArgs false
set_option linter.unusedVariables false

theorem cmpS_less (a b : ByteArray) : lessB a b = true ↔ cmpS a b < 0 := by
  unfold lessB cmpS
  rw [cmpL_less, decide_eq_true_eq]
  have := cmpS_r3 a b
  unfold R3 cmpS at this
  omega

theorem cfK_less {l : List ByteArray} {a b : Nat} (h : lessB (keyAt l a) (keyAt l b) = true) : RK l (a : Int) (b : Int) := by
  left
  unfold cfK
  rw [Int.toNat_natCast, Int.toNat_natCast]
  exact (cmpS_less _ _).1 h

/-- As many different numbers below N as N: all of them. -/
theorem all_below {A : List Int} {N : Nat} (hn : A.Nodup) (hl : A.length = N) (hs : ∀ x ∈ A, 0 ≤ x ∧ x < N) : ∀ x : Int, x ∈ A ↔ 0 ≤ x ∧ x < N := by
  intro x
  refine ⟨hs x, fun hx => ?_⟩
  apply Classical.byContradiction
  intro hc
  have h1 : (x :: A).Nodup := List.nodup_cons.2 ⟨hc, hn⟩
  have h2 : (x :: A) ⊆ (List.range N).map fun n : Nat => (n : Int) := fun y hy => by
    have : 0 ≤ y ∧ y < N := by
      rcases List.mem_cons.1 hy with rfl | hy
      · exact hx
      · exact hs y hy
    exact List.mem_map.2 ⟨y.toNat, List.mem_range.2 (by omega), by omega⟩
  have h3 := h1.length_le_of_subset h2
  simp at h3
  omega

/-- Two rows of numbers that rise, each of all numbers below N, are the same. -/
theorem one_order {R : Int → Int → Prop} (hR : Tot R) {A B : List Int} {N : Nat} (ha : A.Pairwise R) (hb : B.Pairwise R) (la : A.length = N) (lb : B.length = N) (sa : ∀ x ∈ A, 0 ≤ x ∧ x < N) (sb : ∀ x ∈ B, 0 ≤ x ∧ x < N) : A = B := by
  have irr : ∀ x y, R x y → x ≠ y := fun x y h e => by subst e; exact hR.asym _ _ h h
  have na : A.Nodup := ha.imp (fun h => irr _ _ h)
  have nb : B.Nodup := hb.imp (fun h => irr _ _ h)
  have hp : A.Perm B := (List.perm_ext_iff_of_nodup na nb).2 fun x => by rw [all_below na la sa, all_below nb lb sb]
  exact List.Perm.eq_of_pairwise (fun a b _ _ h1 h2 => absurd h2 (hR.asym _ _ h1)) ha hb hp

theorem rises_list {R : Int → Int → Prop} {f : Nat → Int} {N : Nat} (h : Rises R f 0 N) : ((List.range N).map f).Pairwise R := by
  rw [List.pairwise_iff_getElem]
  intro i j hi hj hij
  simp at hi hj ⊢
  exact h i j (Nat.zero_le _) hij hj

end Go.Proofs.YtiamkmkbkehldaaGreatDoor

/-
  impl.withNodes at values without parts.
-/
namespace Go.Proofs.YtiamkmkbkehldaaGreatDoor
open Go.RowKit
set_option linter.unusedSimpArgs false
set_option linter.unusedVariables false

end Go.Proofs.YtiamkmkbkehldaaGreatDoor

/-
  impl.withNodes at a list, if it does as it should at the list's parts.
-/
namespace Go.Proofs.YtiamkmkbkehldaaGreatDoor
open Go.RowKit
set_option linter.unusedSimpArgs false
set_option linter.unusedVariables false

end Go.Proofs.YtiamkmkbkehldaaGreatDoor

/-
  impl.withNodes at a map, if it does as it should at the map's parts; and so at every value.
-/
namespace Go.Proofs.YtiamkmkbkehldaaGreatDoor
open Go.RowKit
set_option linter.unusedSimpArgs false
set_option linter.unusedVariables false

end Go.Proofs.YtiamkmkbkehldaaGreatDoor

/-
  impl.rightNodes: the nodes of a value, if these are right.
-/
namespace Go.Proofs.YtiamkmkbkehldaaGreatDoor
open Go.RowKit
set_option linter.unusedSimpArgs false
set_option linter.unusedVariables false

theorem TreeAt.iface {B : Nat} {w : World} {f : Nat} {t : VT} {v : Value} (h : TreeAt B w f t v) : ∃ ty x, v = .iface ty x := by
  cases f with
  | zero => exact h.elim
  | succ f =>
    obtain ⟨kind, n, s, keys, kids⟩ := t
    rcases h with ⟨_, _, _, _, _, rfl⟩ | ⟨_, _, _, _, rfl⟩ | ⟨_, _, _, _, rfl⟩ | ⟨_, _, _, _, rfl⟩ | ⟨_, _, _, _, it, rfl, _⟩ | ⟨_, _, _, ks, it, rfl, _⟩ <;> exact ⟨_, _, rfl⟩

end Go.Proofs.YtiamkmkbkehldaaGreatDoor

/-
  A list's nodes: what the specification lays and what the program lays are the same. Plain mathematics.
-/
namespace Go.Proofs.YtiamkmkbkehldaaGreatDoor
open Go.RowKit
set_option linter.unusedSimpArgs false
set_option linter.unusedVariables false

theorem root_first {vs : List VN} (hok : okB vs = true) : ∃ h, tr (kidsOf vs) (vs.length - 1) = some (0, h) := by
  unfold okB rootB at hok
  simp only [Bool.and_eq_true] at hok
  have h := hok.2
  cases e : tr (kidsOf vs) (vs.length - 1) with
  | none => simp [e] at h
  | some p => obtain ⟨a, b⟩ := p; simp [e] at h; obtain ⟨rfl, _⟩ := h; exact ⟨b, rfl⟩

theorem run_all (vs : List VN) (d : Int) : run vs d 0 vs.length = vs.map (shiftN d) := by
  unfold run
  apply List.ext_getElem?
  intro j
  by_cases hj : j < vs.length
  · simp [List.getElem?_range', hj, nodeAt]
  · simp [hj]

end Go.Proofs.YtiamkmkbkehldaaGreatDoor

/-
  spec.ListOf.
-/
namespace Go.Proofs.YtiamkmkbkehldaaGreatDoor
open Go.RowKit
set_option linter.unusedSimpArgs false
set_option linter.unusedVariables false

theorem RowsAt.below {B : Nat} {w w' : World} {v : Value} {m : Nat} {L : Nat → List VN} (h : RowsAt B w v m L) (hb : Below B w w') : RowsAt B w' v m L := by
  obtain ⟨h1, a, c, e, h2⟩ := h
  refine ⟨h1, a, c, e, fun hp => ?_⟩
  obtain ⟨b, ea, hbB, h3⟩ := h2 hp
  refine ⟨b, ea, hbB, fun i hi => ?_⟩
  obtain ⟨r, e2, hn⟩ := h3 i hi
  exact ⟨r, (below_cell hb hbB).trans e2, hn.below hb⟩

end Go.Proofs.YtiamkmkbkehldaaGreatDoor

/-
  The map of keys and values: the program's arrangement is the specification's. Plain mathematics.
-/
namespace Go.Proofs.YtiamkmkbkehldaaGreatDoor
open Go.RowKit
set_option linter.unusedSimpArgs false
set_option linter.unusedVariables false

end Go.Proofs.YtiamkmkbkehldaaGreatDoor

/-
  Plain: when the nodes that are laid for a tree are a right value: by the tree alone.
-/
namespace Go.Proofs.YtiamkmkbkehldaaGreatDoor
open Go.RowKit
set_option linter.unusedSimpArgs false
set_option linter.unusedVariables false

/-- The tree ends within so many steps. -/
def FullT : Nat → VT → Prop
  | 0, _ => False
  | f + 1, .mk _ _ _ _ kids => ∀ j, j < kids.length → FullT f (kidT kids j)
/-- Every node is right by itself. -/
def nodeT (kind n : Int) (s : ByteArray) (keys : List ByteArray) (m : Nat) : Bool := nodeB ⟨kind, n, s, keys, List.replicate m 0⟩
def goodT : Nat → VT → Prop
  | 0, _ => False
  | f + 1, .mk kind n s keys kids => nodeT kind n s keys kids.length = true ∧ ∀ j, j < kids.length → goodT f (kidT kids j)
def hiK (F : VT → Nat) (kids : List VT) : Nat → Nat
  | 0 => 0
  | k + 1 => max (hiK F kids k) (F (kidT kids k))
/-- How deep a tree is. -/
def hiT : Nat → VT → Nat
  | 0, _ => 0
  | f + 1, .mk _ _ _ _ kids => hiK (hiT f) kids kids.length + 1
theorem goodT.full : ∀ {f : Nat} {t : VT}, goodT f t → FullT f t
  | 0, _, h => h.elim
  | f + 1, .mk _ _ _ _ _, h => fun j hj => (h.2 j hj).full
theorem nodeT_eq (x : VN) : nodeB x = nodeT x.kind x.n x.s x.keys x.kids.length := by
  unfold nodeT nodeB unnamedB namedB
  simp
theorem FullT.more : ∀ {f g : Nat} {t : VT}, f ≤ g → FullT f t → FullT g t
  | 0, _, _, _, h => h.elim
  | f + 1, 0, _, hg, _ => by omega
  | f + 1, g + 1, .mk _ _ _ _ _, hg, h => fun j hj => (h j hj).more (by omega)

end Go.Proofs.YtiamkmkbkehldaaGreatDoor

/-
  Plain: the nodes of a list and of a map out of those of their parts; what is wrong in a part is wrong in the whole.
-/
namespace Go.Proofs.YtiamkmkbkehldaaGreatDoor
open Go.RowKit
set_option linter.unusedSimpArgs false
set_option linter.unusedVariables false

theorem shift_zero (x : VN) : shiftN 0 x = x := by
  unfold shiftN
  cases x
  simp
theorem layT_more : ∀ {f g : Nat} {t : VT}, FullT f t → f ≤ g → ∀ sh, layT g t sh = layT f t sh := by
  intro f
  induction f with
  | zero => intro g t h; exact h.elim
  | succ f ih =>
    intro g t h hfg sh
    obtain ⟨g, rfl⟩ : ∃ g', g = g' + 1 := ⟨g - 1, by omega⟩
    obtain ⟨kind, n, s, keys, kids⟩ := t
    have hk : ∀ k, k ≤ kids.length → accT g sh kids k = accT f sh kids k ∧ ksT g sh kids k = ksT f sh kids k := by
      intro k
      induction k with
      | zero => intro _; rw [accT_zero, accT_zero, ksT_zero, ksT_zero]; exact ⟨rfl, rfl⟩
      | succ k ihk =>
        intro hk
        obtain ⟨h1, h2⟩ := ihk (by omega)
        have ha : accT g sh kids (k + 1) = accT f sh kids (k + 1) := by rw [accT_succ g sh (by omega), accT_succ f sh (by omega), h1, ih (h k (by omega)) (by omega)]
        exact ⟨ha, by rw [ksT_succ g sh (by omega), ksT_succ f sh (by omega), h2, ha]⟩
    obtain ⟨h1, h2⟩ := hk _ (Nat.le_refl _)
    rw [layT_eq, layT_eq, h1, h2]
end Go.Proofs.YtiamkmkbkehldaaGreatDoor

/-
  Plain: the places of texts in their order; a map of keys and trees as the program makes it.
-/
namespace Go.Proofs.YtiamkmkbkehldaaGreatDoor
open Go.RowKit
set_option linter.unusedSimpArgs false
set_option linter.unusedVariables false

instance (l : List ByteArray) (x y : Int) : Decidable (RK l x y) := by unfold RK; infer_instance
def leK (l : List ByteArray) (a b : Nat) : Bool := decide (RK l a b) || decide (a = b)
/-- The places of the texts, by their order. -/
def srt (l : List ByteArray) : List Nat := (List.range l.length).mergeSort (leK l)
theorem srt_perm (l : List ByteArray) : (srt l).Perm (List.range l.length) := List.mergeSort_perm _ _
theorem srt_len (l : List ByteArray) : (srt l).length = l.length := by rw [(srt_perm l).length_eq]; simp
theorem srt_mem {l : List ByteArray} {x : Nat} : x ∈ srt l ↔ x < l.length := by rw [(srt_perm l).mem_iff]; simp
theorem srt_rises (l : List ByteArray) : (srt l).Pairwise fun (a b : Nat) => RK l (a : Int) (b : Int) := by
  have h1 : (srt l).Pairwise fun a b => leK l a b = true := List.pairwise_mergeSort (le := leK l) (fun a b c => by
    unfold leK
    simp only [Bool.or_eq_true, decide_eq_true_eq]
    rintro (h | rfl) (k | rfl)
    · exact .inl ((rk_tot l).tr _ _ _ h k)
    · exact .inl h
    · exact .inl k
    · exact .inr rfl) (fun a b => by
    unfold leK
    simp only [Bool.or_eq_true, decide_eq_true_eq]
    by_cases e : a = b
    · exact .inl (.inr e)
    · rcases (rk_tot l).to (a : Int) (b : Int) (by omega) with h | h
      · exact .inl (.inl h)
      · exact .inr (.inl h)) _
  have h2 : (srt l).Nodup := (srt_perm l).nodup_iff.2 List.nodup_range
  refine (h1.and h2).imp ?_
  rintro a b ⟨h, hne⟩
  unfold leK at h
  simp only [Bool.or_eq_true, decide_eq_true_eq] at h
  exact h.resolve_right hne
/-- The map of keys and trees that the program makes. -/
def mapT (ks : List ByteArray) (ts : List VT) : VT := .mk 6 0 ByteArray.empty ((srt ks).map (keyAt ks)) ((srt ks).map (kidT ts))
def listT (ts : List VT) : VT := .mk 5 0 ByteArray.empty [] ts
end Go.Proofs.YtiamkmkbkehldaaGreatDoor

/-
  Plain: rows of values as the program reads them, and as the specification does; that both say the same.
-/
namespace Go.Proofs.YtiamkmkbkehldaaGreatDoor
open Go.RowKit
set_option linter.unusedSimpArgs false
set_option linter.unusedVariables false

/-- So many values, one behind the other. -/
def rdItems (R : Nat → Option (VT × Nat)) : Nat → Nat → Option (List VT × Nat)
  | 0, p => some ([], p)
  | k + 1, p => match R p with
    | none => none
    | some (t, q) => match rdItems R k q with
      | none => none
      | some (l, r) => some (t :: l, r)
def textOf : VT → Option ByteArray
  | .mk kind _ s _ _ => if kind = 4 then some s else none
/-- So many texts, each with a value behind it. -/
def rdPairs (R : Nat → Option (VT × Nat)) : Nat → Nat → Option (List ByteArray × List VT × Nat)
  | 0, p => some ([], [], p)
  | k + 1, p => match R p with
    | none => none
    | some (t, q) => match textOf t with
      | none => none
      | some s => match R q with
        | none => none
        | some (u, r) => match rdPairs R k r with
          | none => none
          | some (ks, l, z) => some (s :: ks, u :: l, z)
theorem items_snoc {R : Nat → Option (VT × Nat)} : ∀ {i p : Nat} {l : List VT} {q : Nat}, rdItems R i p = some (l, q) → ∀ {t : VT} {r : Nat}, R q = some (t, r) → rdItems R (i + 1) p = some (l ++ [t], r) := by
  intro i
  induction i with
  | zero => intro p l q h t r h2; simp [rdItems] at h; obtain ⟨rfl, rfl⟩ := h; simp [rdItems, h2]
  | succ i ih =>
    intro p l q h t r h2
    rw [rdItems] at h
    cases e : R p with
    | none => simp [e] at h
    | some x =>
      obtain ⟨u, z⟩ := x
      simp only [e] at h
      cases e2 : rdItems R i z with
      | none => simp [e2] at h
      | some y =>
        obtain ⟨m, z2⟩ := y
        simp only [e2, Option.some.injEq, Prod.mk.injEq] at h
        obtain ⟨rfl, rfl⟩ := h
        rw [rdItems, e]
        simp only [ih e2 h2]
        rfl
theorem pairs_snoc {R : Nat → Option (VT × Nat)} : ∀ {i p : Nat} {ks : List ByteArray} {l : List VT} {q : Nat}, rdPairs R i p = some (ks, l, q) → ∀ {t u : VT} {s : ByteArray} {r z : Nat}, R q = some (t, r) → textOf t = some s → R r = some (u, z) → rdPairs R (i + 1) p = some (ks ++ [s], l ++ [u], z) := by
  intro i
  induction i with
  | zero => intro p ks l q h t u s r z h1 h2 h3; simp [rdPairs] at h; obtain ⟨rfl, rfl, rfl⟩ := h; simp [rdPairs, h1, h2, h3]
  | succ i ih =>
    intro p ks l q h t u s r z h1 h2 h3
    rw [rdPairs] at h
    cases e : R p with
    | none => simp [e] at h
    | some x =>
      obtain ⟨t1, q1⟩ := x
      simp only [e] at h
      cases e1 : textOf t1 with
      | none => simp [e1] at h
      | some s1 =>
        simp only [e1] at h
        cases e2 : R q1 with
        | none => simp [e2] at h
        | some y =>
          obtain ⟨u1, r1⟩ := y
          simp only [e2] at h
          cases e3 : rdPairs R i r1 with
          | none => simp [e3] at h
          | some y =>
            obtain ⟨k1, m, z2⟩ := y
            simp only [e3, Option.some.injEq, Prod.mk.injEq] at h
            obtain ⟨rfl, rfl, rfl⟩ := h
            rw [rdPairs, e]
            simp only [e1, e2, ih e3 h1 h2 h3]
            rfl
/-! ### The specification's rows -/
end Go.Proofs.YtiamkmkbkehldaaGreatDoor

/-
  Plain: rows read by the program and by the specification say the same, if the values in them do.
-/
namespace Go.Proofs.YtiamkmkbkehldaaGreatDoor
open Go.RowKit
set_option linter.unusedSimpArgs false
set_option linter.unusedVariables false

/-- A node among these is wrong by itself. -/
def Wrong (ns : List VN) : Prop := ∃ j, j < ns.length ∧ nodeB (nodeAt ns j) = false
/-- No right value has this tree so deep, behind so many nodes. -/
def Doom (f c deep : Nat) (t : VT) : Prop := ¬ goodT f t ∨ 80 < c + (layT f t 0).length ∨ 8 < deep + hiT f t
structure RelV (f deep : Nat) (R : Nat → Option (VT × Nat)) (S : Nat → Nat → Option (List VN × Nat × Nat)) : Prop where
  full : ∀ p t q, R p = some (t, q) → FullT f t
  yes : ∀ p c ns q d, c ≤ 80 → S p c = some (ns, q, d) → d = c + ns.length ∧ d ≤ 80 ∧ 1 ≤ ns.length ∧ ((∃ t, R p = some (t, q) ∧ ns = layT f t 0) ∨ (R p = none ∧ Wrong ns))
  no : ∀ p c, c ≤ 80 → S p c = none → R p = none ∨ ∃ t q, R p = some (t, q) ∧ Doom f c deep t
structure RelW (R : Nat → Option (VT × Nat)) (W : Nat → Option (ByteArray × Nat)) : Prop where
  yes : ∀ p s q, W p = some (s, q) → ∃ t, R p = some (t, q) ∧ textOf t = some s
  no : ∀ p, W p = none → R p = none ∨ ∃ t q, R p = some (t, q) ∧ (textOf t = none ∨ ∃ s, textOf t = some s ∧ textB s = false)

/-- What the program makes of a row. -/
def rowT (R : Nat → Option (VT × Nat)) (named : Bool) (many p : Nat) : Option (VT × Nat) :=
  if named = true then match rdPairs R many p with
    | none => none
    | some (ks, l, q) => some (mapT ks l, q)
  else match rdItems R many p with
    | none => none
    | some (l, q) => some (listT l, q)
end Go.Proofs.YtiamkmkbkehldaaGreatDoor

/-
  Plain: bytes at a place as numbers and texts, as the program and the specification take them.
-/
namespace Go.Proofs.YtiamkmkbkehldaaGreatDoor
open Go.RowKit
set_option linter.unusedSimpArgs false
set_option linter.unusedVariables false

/-- The byte at a place. -/
def byAt (L : List UInt8) (p : Nat) : Nat := (L.getD p 0).toNat
/-- So many bytes as a number, the highest first. -/
def bigN (L : List UInt8) (p : Nat) : Nat → Nat
  | 0 => 0
  | k + 1 => 256 * bigN L p k + byAt L (p + k)
def cutT (L : List UInt8) (p n : Nat) : ByteArray := txt ((L.drop p).take n)
def numT (n : Int) : VT := .mk 3 n ByteArray.empty [] []
def wordT (s : ByteArray) : VT := .mk 4 0 s [] []
def nullT : VT := .mk 1 0 ByteArray.empty [] []
def boolT (n : Int) : VT := .mk 2 n ByteArray.empty [] []
/-- The greatest number. -/
def maxI : Nat := 1000000000000000
/-- The program: a number in so many bytes, within its bounds; a text of so many. -/
def numI (L : List UInt8) (p w : Nat) : Option (Nat × Nat) := if p + w ≤ L.length ∧ bigN L p w ≤ maxI then some (bigN L p w, p + w) else none
def wordI (L : List UInt8) (n p : Nat) : Option (VT × Nat) := if p + n ≤ L.length then some (wordT (cutT L p n), p + n) else none
end Go.Proofs.YtiamkmkbkehldaaGreatDoor
