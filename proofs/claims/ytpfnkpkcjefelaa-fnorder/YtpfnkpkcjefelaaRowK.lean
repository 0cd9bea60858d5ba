/-
  Values of one node, as they are drawn.
-/
import Derived.Test.YtpfnkpkcjefelaaDrP
import Derived.Test.YtpfnkpkcjefelaaLeaf
import Derived.Test.YtpfnkpkcjefelaaSSort
namespace Go.Proofs.Ytpfnkpkcjefelaa
open Go.RowKit
set_option linter.unusedSimpArgs false
set_option linter.unusedVariables false

theorem leaf_fine {kind n : Int} {s : ByteArray} (h1 : 0 ≤ kind) (h2 : kind ≤ 6) (h3 : -10000000000000000 ≤ n) (h4 : n ≤ 10000000000000000) (h5 : s.size ≤ 60) : Fine 1 (leafN kind n s) := by
  refine ⟨by simp [leafN], by simp [leafN], fun j hj => ?_⟩
  obtain rfl : j = 0 := by simp [leafN] at hj; omega
  exact ⟨by show 0 ≤ 3; omega, fun i hi => absurd hi (by show ¬ i < 0; omega), by show 0 ≤ 3; omega, fun i hi => absurd hi (by show ¬ i < 0; omega), h5, ⟨by show _ ≤ kind; omega, by show kind ≤ _; omega⟩, ⟨by show _ ≤ n; omega, by show n ≤ _; omega⟩⟩

set_option maxHeartbeats 800000 in
theorem l1Null_any (w : World) : Calls Try.prog 97 #[] w fun e w' => ∃ r vs KV IV, e = .returned r ∧ Fine 1 vs ∧ Nest w.heap.size w' r vs KV IV ∧ Below w.heap.size w w' := by
  go_enter Try.func97, Try.ntmps97
  go_wp2_with fail
  go_ret
  exact ⟨_, leafN 1 0 ByteArray.empty, _, _, rfl, leaf_fine (by omega) (by omega) (by omega) (by omega) (by decide), leaf_nest w 1 0 ByteArray.empty, (Below.refl _ _).alloc (Nat.le_refl _) _⟩

set_option maxHeartbeats 800000 in
theorem l1Bool_any (b : Bool) (w : World) : Calls Try.prog 98 #[.bool b] w fun e w' => ∃ r vs KV IV, e = .returned r ∧ Fine 1 vs ∧ Nest w.heap.size w' r vs KV IV ∧ Below w.heap.size w w' := by
  cases b
  · go_enter Try.func98, Try.ntmps98
    go_wp2_with fail
    go_ret
    exact ⟨_, leafN 2 0 ByteArray.empty, _, _, rfl, leaf_fine (by omega) (by omega) (by omega) (by omega) (by decide), leaf_nest w 2 0 ByteArray.empty, (Below.refl _ _).alloc (Nat.le_refl _) _⟩
  · go_enter Try.func98, Try.ntmps98
    go_wp2_with fail
    go_ret
    exact ⟨_, leafN 2 1 ByteArray.empty, _, _, rfl, leaf_fine (by omega) (by omega) (by omega) (by omega) (by decide), leaf_nest w 2 1 ByteArray.empty, (Below.refl _ _).alloc (Nat.le_refl _) _⟩

set_option maxHeartbeats 800000 in
theorem l1Number_any (n : Int) (w : World) (h3 : -10000000000000000 ≤ n) (h4 : n ≤ 10000000000000000) : Calls Try.prog 99 #[.int .i64 n] w fun e w' => ∃ r vs KV IV, e = .returned r ∧ Fine 1 vs ∧ Nest w.heap.size w' r vs KV IV ∧ Below w.heap.size w w' := by
  go_enter Try.func99, Try.ntmps99
  go_wp2_with fail
  go_ret
  exact ⟨_, leafN 3 n ByteArray.empty, _, _, rfl, leaf_fine (by omega) (by omega) (by omega) (by omega) (by decide), leaf_nest w 3 n ByteArray.empty, (Below.refl _ _).alloc (Nat.le_refl _) _⟩

set_option maxHeartbeats 800000 in
theorem l1Word_any (s : ByteArray) (w : World) (hs : s.size ≤ 60) : Calls Try.prog 101 #[.string s] w fun e w' => ∃ r vs KV IV, e = .returned r ∧ Fine 1 vs ∧ Nest w.heap.size w' r vs KV IV ∧ Below w.heap.size w w' := by
  go_enter Try.func101, Try.ntmps101
  go_wp2_with fail
  go_ret
  exact ⟨_, leafN 4 0 s, _, _, rfl, leaf_fine (by omega) (by omega) (by omega) (by omega) hs, leaf_nest w 4 0 s, (Below.refl _ _).alloc (Nat.le_refl _) _⟩
end Go.Proofs.Ytpfnkpkcjefelaa

/-
  Rows of rows of nodes, kept and put in another order. No walk.
-/
namespace Go.Proofs.Ytpfnkpkcjefelaa
open Go.RowKit
set_option linter.unusedSimpArgs false
set_option linter.unusedVariables false

theorem Rows2.congr {base : Nat} {w : World} {v : Value} {m : Nat} {L L' : Nat → List VN} {rs : Nat → Value} {KV IV : Nat → Nat → Value} {lo : Nat → Nat} (h : Rows2 base w v m L rs KV IV lo) (e : ∀ i, i < m → L' i = L i) : Rows2 base w v m L' rs KV IV lo :=
  ⟨h.row, fun i hi => by rw [e i hi]; exact h.nest i hi, h.low, h.mono, h.top, fun i hi x hx => by rw [e i hi] at hx; exact h.inn i hi x hx⟩

theorem Rows2.kept {base : Nat} {w w' : World} {v : Value} {m : Nat} {L : Nat → List VN} {rs : Nat → Value} {KV IV : Nat → Nat → Value} {lo : Nat → Nat} {x : Option Nat} (h : Rows2 base w v m L rs KV IV lo) (hg : w.grownBy w' x) (hr : v.ownBlock = none ∨ v.ownBlock ≠ x) (hn : ∀ i, i < m → ∀ y, InNest (rs i) (L i).length (KV i) (IV i) y → x ≠ some y) : Rows2 base w' v m L rs KV IV lo := by
  have go : ∀ {u : Value}, (∀ y, u.ownBlock = some y → x ≠ some y) → u.ownBlock = none ∨ u.ownBlock ≠ x := by
    intro u hu
    cases e : u.ownBlock with
    | none => exact Or.inl rfl
    | some y => exact Or.inr (fun e2 => hu y e e2.symm)
  refine ⟨h.row.kept hg hr, fun i hi => (h.nest i hi).kept hg (go fun y hy => hn i hi y (Or.inl hy)) (fun j hj => go fun y hy => hn i hi y (Or.inr ⟨j, hj, Or.inl hy⟩)) (fun j hj => go fun y hy => hn i hi y (Or.inr ⟨j, hj, Or.inr hy⟩)), h.low, h.mono, Nat.le_trans h.top hg.size, h.inn⟩

theorem sortIn_keys {ks : List ByteArray} : ∀ {i : Nat} {ns : List ByteArray} {ps : List Nat}, sortIn ks i = some (ns, ps) → ∀ x ∈ ns, ∃ j, j < i ∧ x = keyAt ks j := by
  intro i
  induction i with
  | zero => intro ns ps h; simp [sortIn] at h; obtain ⟨rfl, rfl⟩ := h; simp
  | succ i ih =>
    intro ns ps h
    rw [sortIn] at h
    split at h
    · cases h
    · rename_i ns0 ps0 h0
      split at h
      · cases h
      · injection h with h
        injection h with e1 e2
        subst e1 e2
        intro x hx
        simp only [List.mem_append, List.mem_singleton] at hx
        rcases hx with (hx | hx) | hx
        · obtain ⟨j, h1, h2⟩ := ih h0 x (List.mem_of_mem_take hx); exact ⟨j, by omega, h2⟩
        · exact ⟨i, by omega, hx⟩
        · obtain ⟨j, h1, h2⟩ := ih h0 x (List.mem_of_mem_drop hx); exact ⟨j, by omega, h2⟩

theorem keyAt_mem {l : List ByteArray} {i : Nat} (h : i < l.length) : keyAt l i ∈ l := by
  unfold keyAt
  rw [List.getD_eq_getElem?_getD, List.getElem?_eq_getElem h]
  exact List.getElem_mem h

theorem keyAt_snoc {l : List ByteArray} {s : ByteArray} {i : Nat} (h : i < l.length + 1) : keyAt (l ++ [s]) i = if i < l.length then keyAt l i else s := by
  unfold keyAt
  split
  · rename_i e; rw [List.getD_eq_getElem?_getD, List.getD_eq_getElem?_getD, List.getElem?_append_left e]
  · rename_i e
    obtain rfl : i = l.length := by omega
    simp

/-- Rows in another order, as they are read. -/
theorem Rows2.places {base B : Nat} {w w' : World} {v lv : Value} {m : Nat} {L : Nat → List VN} {rs : Nat → Value} {KV IV : Nat → Nat → Value} {lo : Nat → Nat} {ps : List Nat} (h : Rows2 base w v m L rs KV IV lo) (hb : Below w.heap.size w w') (hp : ∀ x ∈ ps, x < m) (hl : ps.length = m) (hm : m ≤ 80) (hf : ∀ i, i < m → Few (L i) ∧ ∀ j, j < (L i).length → Fits (nodeAt (L i) j))
    (hown : w'.ownsRow B 24 1 lv ps.length (ps.map rs)) : RowsAt w'.heap.size w' lv m (fun i => L (ps.getD i 0)) := by
  rw [hl] at hown
  obtain ⟨a, c, e⟩ := own_slice hown
  subst e
  refine ⟨by omega, a, c, rfl, fun hpos => ?_⟩
  obtain ⟨g, cap, e, _, hlt⟩ := hown.form (by omega)
  cases e
  refine ⟨g, rfl, hlt, fun i hi => ?_⟩
  have hi' : i < ps.length := by omega
  have hg : ps.getD i 0 = ps[i] := by rw [List.getD_eq_getElem?_getD, List.getElem?_eq_getElem hi']; rfl
  have hpm : ps.getD i 0 < m := by rw [hg]; exact hp _ (List.getElem_mem hi')
  refine ⟨rs (ps.getD i 0), ?_, ?_⟩
  · have hc := hown.cellAt i (show i < m * 1 by omega)
    rw [hc, List.getElem?_map, List.getElem?_eq_getElem hi', hg]; rfl
  · exact ((h.below hb).nest _ hpm).nodes (by have := (hf _ hpm).1.1; omega) (hf _ hpm).2

end Go.Proofs.Ytpfnkpkcjefelaa
