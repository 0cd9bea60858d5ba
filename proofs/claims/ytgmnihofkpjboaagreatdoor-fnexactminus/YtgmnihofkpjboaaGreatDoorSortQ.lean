/-
  The order of texts by their places, and the program's sortedPlaces.
-/
import Derived.Test.YtgmnihofkpjboaaGreatDoorStbA
import Derived.Test.YtgmnihofkpjboaaGreatDoorComp
import Derived.Test.YtgmnihofkpjboaaGreatDoorTo
import Derived.Test.YtgmnihofkpjboaaGreatDoorListP
import Derived.Test.YtgmnihofkpjboaaGreatDoorStbB
namespace Go.Proofs.YtgmnihofkpjboaaGreatDoor
open Go.RowKit
set_option linter.unusedSimpArgs false
set_option linter.unusedVariables false

/-- The texts at two places, held against each other. -/
def cfK (l : List ByteArray) (x y : Int) : Int := cmpS (keyAt l x.toNat) (keyAt l y.toNat)
def RK (l : List ByteArray) (x y : Int) : Prop := cfK l x y < 0 ∨ (cfK l x y = 0 ∧ x < y)

theorem rk_tot (l : List ByteArray) : Tot (RK l) := by
  have r3 : ∀ a b, R3 (cfK l a b) := fun a b => cmpS_r3 _ _
  have fl : ∀ a b, cfK l b a = -cfK l a b := fun a b => cmpS_flip _ _
  have tr : ∀ a b c, Tri (cfK l a b) (cfK l b c) (cfK l a c) := fun a b c => cmpS_tri _ _ _
  refine ⟨fun x y z h1 h2 => ?_, fun x y h1 h2 => ?_, fun x y h => ?_⟩
  · have t := tr x y z
    have a1 := r3 x y
    have a2 := r3 y z
    unfold RK at *
    unfold Tri comb at t
    unfold R3 at a1 a2
    rcases h1 with h1 | ⟨h1, h1'⟩ <;> rcases h2 with h2 | ⟨h2, h2'⟩
    · left
      have := t (by omega) (by omega)
      rw [this]; split <;> omega
    · left
      have := t (by omega) (by omega)
      rw [this]; split <;> omega
    · left
      have := t (by omega) (by omega)
      rw [this]; split <;> omega
    · right
      have := t (by omega) (by omega)
      refine ⟨?_, by omega⟩
      rw [this]; split <;> omega
  · have := fl x y
    unfold RK at h1 h2
    omega
  · have := fl x y
    unfold RK
    rcases Int.lt_or_gt_of_ne h with c | c
    · by_cases e : cfK l x y < 0
      · exact Or.inl (Or.inl e)
      · by_cases e2 : cfK l x y = 0
        · exact Or.inl (Or.inr ⟨e2, c⟩)
        · exact Or.inr (Or.inl (by omega))
    · by_cases e : cfK l y x < 0
      · exact Or.inr (Or.inl e)
      · by_cases e2 : cfK l y x = 0
        · exact Or.inr (Or.inr ⟨e2, c⟩)
        · exact Or.inl (Or.inl (by omega))

theorem rk_cross (l : List ByteArray) : ∀ x y : Int, x < y → (cfK l y x < 0 ↔ RK l y x) := fun x y h => by
  unfold RK
  constructor
  · exact Or.inl
  · rintro (h | h)
    · exact h
    · omega
end Go.Proofs.YtgmnihofkpjboaaGreatDoor

/-
  The keys in order have one arrangement alone: what the specification's and the program's sort give is the same. Plain mathematics.
-/
namespace Go.Proofs.YtgmnihofkpjboaaGreatDoor
open Go.RowKit
set_option linter.unusedSimpArgs false
set_option linter.unusedVariables false

theorem sortIn_map {ks : List ByteArray} : ∀ {i : Nat} {ns : List ByteArray} {ps : List Nat}, sortIn ks i = some (ns, ps) → ns = ps.map (keyAt ks) := by
  intro i
  induction i with
  | zero => intro ns ps h; simp [sortIn] at h; obtain ⟨rfl, rfl⟩ := h; rfl
  | succ i ih =>
    intro ns ps h
    rw [sortIn] at h
    split at h
    · cases h
    · rename_i ns0 ps0 h0
      split at h
      · cases h
      · injection h with h
        injection h with e1 e2
        subst e1 e2
        have := ih h0
        rw [List.map_append, List.map_append, List.map_take, List.map_drop, ← this]
        rfl

theorem drop_mem {α : Type} {l : List α} {n : Nat} {x : α} (h : x ∈ l.drop n) : ∃ j, n ≤ j ∧ ∃ hj : j < l.length, l[j] = x := by
  obtain ⟨i, hi, e⟩ := List.getElem_of_mem h
  rw [List.getElem_drop] at e
  exact ⟨n + i, by omega, by simp at hi; omega, e⟩
theorem take_mem {α : Type} {l : List α} {n : Nat} {x : α} (h : x ∈ l.take n) : ∃ j, j < n ∧ ∃ hj : j < l.length, l[j] = x := by
  obtain ⟨i, hi, e⟩ := List.getElem_of_mem h
  rw [List.getElem_take] at e
  exact ⟨i, by simp at hi; omega, by simp at hi; omega, e⟩

theorem sortIn_rise {ks : List ByteArray} : ∀ {i : Nat} {ns : List ByteArray} {ps : List Nat}, sortIn ks i = some (ns, ps) → ns.Pairwise fun a b => lessB a b = true := by
  intro i
  induction i with
  | zero => intro ns ps h; simp [sortIn] at h; obtain ⟨rfl, rfl⟩ := h; exact List.Pairwise.nil
  | succ i ih =>
    intro ns ps h
    rw [sortIn] at h
    split at h
    · cases h
    · rename_i ns0 ps0 h0
      split at h
      · cases h
      · rename_i hh
        injection h with h
        injection h with e1 e2
        subst e1 e2
        have hp := ih h0
        have hr : Rise ns0 := fun a b hab hb => by
          rw [keyAt_get (by omega), keyAt_get hb]
          exact List.pairwise_iff_getElem.1 hp a b (by omega) hb hab
        obtain ⟨p1, p2, p3⟩ := posK_spec (l := ns0) (keyAt ks i)
        have lo : ∀ x ∈ ns0.take (posK ns0 (keyAt ks i)), lessB x (keyAt ks i) = true := fun x hx => by
          obtain ⟨j, h1, h2, rfl⟩ := take_mem hx
          rw [← keyAt_get h2]; exact p2 j h1
        have hi : ∀ x ∈ ns0.drop (posK ns0 (keyAt ks i)), lessB (keyAt ks i) x = true := fun x hx => by
          obtain ⟨j, h1, h2, rfl⟩ := drop_mem hx
          have h3 := p3 (by omega)
          have h4 : (keyAt ns0 (posK ns0 (keyAt ks i))).toList ≠ (keyAt ks i).toList := fun e => hh (by unfold hasK; simp [e]; omega)
          rw [← keyAt_get h2]
          by_cases e : j = posK ns0 (keyAt ks i)
          · rw [e]; exact less_total h3 h4
          · exact less_trans (less_total h3 h4) (hr _ _ (by omega) h2)
        rw [List.append_assoc, List.pairwise_append]
        refine ⟨hp.sublist (List.take_sublist _ _), ?_, fun x hx y hy => ?_⟩
        · rw [List.singleton_append, List.pairwise_cons]
          exact ⟨fun y hy => hi y hy, hp.sublist (List.drop_sublist _ _)⟩
        · rw [List.singleton_append] at hy
          rcases List.mem_cons.1 hy with rfl | hy
          · exact lo x hx
          · exact less_trans (lo x hx) (hi y hy)

theorem cmpS_less (a b : ByteArray) : lessB a b = true ↔ cmpS a b < 0 := by
  unfold lessB cmpS
  rw [cmpL_less, decide_eq_true_eq]
  have := cmpS_r3 a b
  unfold R3 cmpS at this
  omega

theorem cfK_less {l : List ByteArray} {a b : Nat} (h : lessB (keyAt l a) (keyAt l b) = true) : RK l (a : Int) (b : Int) := by
  left
  unfold cfK
  rw [Int.toNat_natCast, Int.toNat_natCast]
  exact (cmpS_less _ _).1 h

/-- As many different numbers below N as N: all of them. -/
theorem all_below {A : List Int} {N : Nat} (hn : A.Nodup) (hl : A.length = N) (hs : ∀ x ∈ A, 0 ≤ x ∧ x < N) : ∀ x : Int, x ∈ A ↔ 0 ≤ x ∧ x < N := by
  intro x
  refine ⟨hs x, fun hx => ?_⟩
  apply Classical.byContradiction
  intro hc
  have h1 : (x :: A).Nodup := List.nodup_cons.2 ⟨hc, hn⟩
  have h2 : (x :: A) ⊆ (List.range N).map fun n : Nat => (n : Int) := fun y hy => by
    have : 0 ≤ y ∧ y < N := by
      rcases List.mem_cons.1 hy with rfl | hy
      · exact hx
      · exact hs y hy
    exact List.mem_map.2 ⟨y.toNat, List.mem_range.2 (by omega), by omega⟩
  have h3 := h1.length_le_of_subset h2
  simp at h3
  omega

/-- Two rows of numbers that rise, each of all numbers below N, are the same. -/
theorem one_order {R : Int → Int → Prop} (hR : Tot R) {A B : List Int} {N : Nat} (ha : A.Pairwise R) (hb : B.Pairwise R) (la : A.length = N) (lb : B.length = N) (sa : ∀ x ∈ A, 0 ≤ x ∧ x < N) (sb : ∀ x ∈ B, 0 ≤ x ∧ x < N) : A = B := by
  have irr : ∀ x y, R x y → x ≠ y := fun x y h e => by subst e; exact hR.asym _ _ h h
  have na : A.Nodup := ha.imp (fun h => irr _ _ h)
  have nb : B.Nodup := hb.imp (fun h => irr _ _ h)
  have hp : A.Perm B := (List.perm_ext_iff_of_nodup na nb).2 fun x => by rw [all_below na la sa, all_below nb lb sb]
  exact List.Perm.eq_of_pairwise (fun a b _ _ h1 h2 => absurd h2 (hR.asym _ _ h1)) ha hb hp

theorem rises_list {R : Int → Int → Prop} {f : Nat → Int} {N : Nat} (h : Rises R f 0 N) : ((List.range N).map f).Pairwise R := by
  rw [List.pairwise_iff_getElem]
  intro i j hi hj hij
  simp at hi hj ⊢
  exact h i j (Nat.zero_le _) hij hj

/-- The program's places are the specification's. -/
theorem places_are {l : List ByteArray} {ns : List ByteArray} {ps : List Nat} {f : Nat → Int} (hs : sortIn l l.length = some (ns, ps)) (hf : Blk (RK l) (fun p => (p : Int)) f 0 l.length) : (List.range l.length).map f = ps.map fun n : Nat => (n : Int) := by
  refine one_order (rk_tot l) (N := l.length) (rises_list hf.2) ?_ (by simp) (by rw [List.length_map]; exact (sortIn_len hs).2) ?_ ?_
  · have hr := sortIn_rise hs
    rw [sortIn_map hs, List.pairwise_map] at hr
    rw [List.pairwise_map]
    exact hr.imp (fun h => cfK_less h)
  · intro x hx
    obtain ⟨j, hj, rfl⟩ := List.mem_map.1 hx
    obtain ⟨q, q1, q2, q3⟩ := hf.1 j (Nat.zero_le _) (List.mem_range.1 hj)
    simp only at q3
    omega
  · intro x hx
    obtain ⟨n, hn, rfl⟩ := List.mem_map.1 hx
    have := sortIn_mem hs n hn
    omega

/-- Where the specification finds no order, two keys are the same; and where all keys beside each other are different, there is one. -/
theorem sortIn_some {ks : List ByteArray} : ∀ i, (∀ a b, a < b → b < i → (keyAt ks a).toList ≠ (keyAt ks b).toList) → ∃ ns ps, sortIn ks i = some (ns, ps) := by
  intro i
  induction i with
  | zero => intro _; exact ⟨[], [], rfl⟩
  | succ i ih =>
    intro h
    obtain ⟨ns, ps, e⟩ := ih (fun a b h1 h2 => h a b h1 (by omega))
    have hn : hasK ns (keyAt ks i) = false := by
      refine hasK_none fun j hj he => ?_
      have hm := sortIn_map e
      have hl := sortIn_len e
      have hj2 : j < ps.length := by omega
      have e2 : keyAt ns j = keyAt ks (ps[j]) := by
        rw [keyAt_get hj]
        subst hm
        simp
      rw [e2] at he
      have := sortIn_mem e (ps[j]) (List.getElem_mem _)
      exact h _ i this (by omega) he
    exact ⟨_, _, sortIn_put e rfl hn⟩

/-- The keys at the program's places rise just where the specification finds an order. -/
theorem places_rise {l : List ByteArray} {f : Nat → Int} (hf : Blk (RK l) (fun p => (p : Int)) f 0 l.length) (hr : ∀ p, p + 1 < l.length → lessB (keyAt l (f p).toNat) (keyAt l (f (p + 1)).toNat) = true) : ∃ ns ps, sortIn l l.length = some (ns, ps) := by
  have hall : ∀ d p, p + d + 1 < l.length → lessB (keyAt l (f p).toNat) (keyAt l (f (p + d + 1)).toNat) = true := by
    intro d
    induction d with
    | zero => intro p hp; exact hr p hp
    | succ d ih => intro p hp; exact less_trans (ih p (by omega)) (hr (p + d + 1) hp)
  have hsub : ∀ x ∈ (List.range l.length).map f, 0 ≤ x ∧ x < (l.length : Int) := fun x hx => by
    obtain ⟨j, hj, rfl⟩ := List.mem_map.1 hx
    obtain ⟨q, q1, q2, q3⟩ := hf.1 j (Nat.zero_le _) (List.mem_range.1 hj)
    simp only at q3
    omega
  have hnd : ((List.range l.length).map f).Nodup := (rises_list hf.2).imp (fun h e => by subst e; exact (rk_tot l).asym _ _ h h)
  have mem := all_below hnd (by simp) hsub
  refine sortIn_some _ fun a b hab hb he => ?_
  obtain ⟨p, hp, e1⟩ := List.mem_map.1 ((mem (a : Int)).2 (by omega))
  obtain ⟨q, hq, e2⟩ := List.mem_map.1 ((mem (b : Int)).2 (by omega))
  have hp' := List.mem_range.1 hp
  have hq' := List.mem_range.1 hq
  have key : ∀ p q, p < q → q < l.length → (keyAt l (f p).toNat).toList ≠ (keyAt l (f q).toNat).toList := fun p q h1 h2 => by
    have := hall (q - p - 1) p (by omega)
    rw [show p + (q - p - 1) + 1 = q by omega] at this
    exact less_ne this
  rcases Nat.lt_trichotomy p q with c | c | c
  · have := key p q c hq'
    rw [e1, e2, Int.toNat_natCast, Int.toNat_natCast] at this
    exact this he
  · rw [c] at e1; rw [e1] at e2; omega
  · have := key q p c hp'
    rw [e1, e2, Int.toNat_natCast, Int.toNat_natCast] at this
    exact this he.symm
end Go.Proofs.YtgmnihofkpjboaaGreatDoor
