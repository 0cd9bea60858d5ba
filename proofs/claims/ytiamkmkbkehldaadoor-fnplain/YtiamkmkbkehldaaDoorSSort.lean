/-
  Draws of words, of numbers in a range, and of numbers just outside; draws out of a table, of texts and of numbers.
-/
import Derived.Test.YtiamkmkbkehldaaDoorRd
import Derived.Laws.Closers25b
import Derived.Laws.DeepStrings4
import Derived.Test.YtiamkmkbkehldaaDoorSortP
import Derived.Test.YtiamkmkbkehldaaDoorNest
import Derived.Test.YtiamkmkbkehldaaDoorPkT
import Derived.BigQuiet
namespace Go.Proofs.YtiamkmkbkehldaaDoor
open Go.RowKit
set_option linter.unusedSimpArgs false
set_option linter.unusedVariables false

def tabStr (A : Array Value) (m : Nat) : Bool := (List.range m).all fun i => match A[i]? with | some (.string s) => decide (s.size ≤ 60) | _ => false
theorem tabStr_at {A : Array Value} {m : Nat} (h : tabStr A m = true) {i : Nat} (hi : i < m) : ∃ s, A[i]? = some (.string s) ∧ s.size ≤ 60 := by
  have := List.all_eq_true.1 h i (List.mem_range.2 hi)
  split at this
  · rename_i s e; exact ⟨s, e, by simpa using this⟩
  · cases this
theorem cell_tab {w : World} {A : Array Value} {T i : Nat} {v : Value} (h : A[i]? = some v) : (w.alloc (.cells A T)).cell? ⟨w.heap.size, i, none⟩ = some v := by
  simp [h]

theorem rdTab {rb n m : Nat} {w : World} {o : Obj} (h : ∃ p, RdAt w rb n p) (hm : 1 ≤ m) (hM : m ≤ 1048577) :
    Calls Tryd.prog 12 #[.pointer (some ⟨rb, 0, none⟩), .int .i64 m] (w.alloc o) fun e w' => (∃ y : Nat, y < m ∧ e = .returned (.int .i64 y) ∧ w'.cell? ⟨w.heap.size, y, none⟩ = (w.alloc o).cell? ⟨w.heap.size, y, none⟩) ∧ Drawn rb n w w' := by
  obtain ⟨p, hp⟩ := h
  have hd := (Drawn.refl hp).next ((Below.refl _ _).alloc (Nat.le_refl _) o)
  refine (rdBelow_any rb n m _ hd.rd hm hM).mono ?_
  rintro e w2 ⟨⟨y, hy, rfl⟩, hd2⟩
  exact ⟨⟨y, hy, rfl, hd2.only.cell (by simp) (fun e => by have := hp.lt; omega)⟩, hd.trans hd2⟩

theorem rdTabS (rb n m : Nat) (A : Array Value) (T : TypeId) (w : World) (h : ∃ p, RdAt w rb n p) (hm : 1 ≤ m) (hM : m ≤ 1048577) (hA : tabStr A m = true) :
    Calls Tryd.prog 12 #[.pointer (some ⟨rb, 0, none⟩), .int .i64 m] (w.alloc (.cells A T)) fun e w' => (∃ (y : Nat) (s : ByteArray), y < m ∧ e = .returned (.int .i64 y) ∧ s.size ≤ 60 ∧ w'.cell? ⟨w.heap.size, y, none⟩ = some (.string s)) ∧ Drawn rb n w w' := by
  refine (rdTab h hm hM).mono ?_
  rintro e w2 ⟨⟨y, hy, rfl, hc⟩, hd⟩
  obtain ⟨s, h1, h2⟩ := tabStr_at hA hy
  exact ⟨⟨y, s, hy, rfl, h2, hc.trans (cell_tab h1)⟩, hd⟩
set_option maxRecDepth 100000 in
set_option maxHeartbeats 1600000 in
theorem rdText_any (rb n : Nat) (w : World) (h : ∃ p, RdAt w rb n p) :
    Calls Tryd.prog 13 #[.pointer (some ⟨rb, 0, none⟩)] w fun e w' => (∃ s : ByteArray, s.size ≤ 60 ∧ e = .returned (.string s)) ∧ Drawn rb n w w' := by
  have H := hideIt h
  clear h
  go_enter Tryd.func13, Tryd.ntmps13
  go_wp2_with fail
  refine (rdBelow_any rb n 10 w H.out (by omega) (by omega)).mono ?_
  rintro e w1 ⟨⟨x, hx, rfl⟩, hd⟩
  have HD := hideIt hd
  clear hd
  by_cases hx6 : x = 6
  · subst hx6
    go_wp2_with fail
    refine (rdTabS rb n 8 _ _ w1 HD.out.rd (by omega) (by omega) (by rfl)).mono ?_
    rintro e w2 ⟨⟨y, s, hy, rfl, hs, hc⟩, hd⟩
    have hy' : (y : Int) < 8 := by omega
    have HD2 := hideIt (HD.out.trans hd)
    clear hd
    go_wp2_with fail
    go_ret
    exact ⟨⟨s, hs, rfl⟩, HD2.out⟩
  by_cases hx7 : x = 7
  · subst hx7
    go_wp2_with fail
    refine (rdTabS rb n 8 _ _ w1 HD.out.rd (by omega) (by omega) (by rfl)).mono ?_
    rintro e w2 ⟨⟨y, s, hy, rfl, hs, hc⟩, hd⟩
    have hy' : (y : Int) < 8 := by omega
    have HD2 := hideIt (HD.out.trans hd)
    clear hd
    go_wp2_with fail
    go_ret
    exact ⟨⟨s, hs, rfl⟩, HD2.out⟩
  have e6 : ((x : Int) == 6) = false := by simp; omega
  have e7 : ((x : Int) == 7) = false := by simp; omega
  by_cases hx8 : x = 8
  · subst hx8
    go_wp2_with fail
    refine (rdBelow_any rb n 37 w1 HD.out.rd (by omega) (by omega)).mono ?_
    rintro e w2 ⟨⟨y, hy, rfl⟩, hd⟩
    have HD2 := hideIt (HD.out.trans hd)
    have hy' : (y : Int) ≤ 36 := by omega
    clear hd
    go_wp2_with fail
    go_ret
    exact ⟨⟨_, by simp only [ByteArray.size_extract]; omega, rfl⟩, HD2.out⟩
  have e8 : ((x : Int) == 8) = false := by simp; omega
  clear hx6 hx7 hx8
  go_wp2_with fail
  refine (rdTabS rb n 6 _ _ w1 HD.out.rd (by omega) (by omega) (by rfl)).mono ?_
  rintro e w2 ⟨⟨y, s, hy, rfl, hs, hc⟩, hd⟩
  have hy' : (y : Int) < 6 := by omega
  have HD2 := hideIt (HD.out.trans hd)
  clear hd
  go_wp2_with fail
  go_ret
  exact ⟨⟨s, hs, rfl⟩, HD2.out⟩

end Go.Proofs.YtiamkmkbkehldaaDoor

/-
  What is drawn is fine: few nodes with few keys and parts. Plain mathematics, and rows of rows while the reader turns.
-/
namespace Go.Proofs.YtiamkmkbkehldaaDoor
open Go.RowKit
set_option linter.unusedSimpArgs false
set_option linter.unusedVariables false

structure FineN (c : Nat) (x : VN) : Prop where
  keysN : x.keys.length ≤ 3
  keysS : ∀ i, i < x.keys.length → (keyAt x.keys i).size ≤ 60
  kidsN : x.kids.length ≤ 3
  kids : ∀ j, j < x.kids.length → 0 ≤ intAt x.kids j ∧ intAt x.kids j < (c : Int)
  size : x.s.size ≤ 60
  kind : -9223372036854775808 ≤ x.kind ∧ x.kind ≤ 9223372036854775807
  num : -9223372036854775808 ≤ x.n ∧ x.n ≤ 9223372036854775807

def Fine (c : Nat) (vs : List VN) : Prop := 0 < vs.length ∧ vs.length ≤ c ∧ ∀ j, j < vs.length → FineN vs.length (nodeAt vs j)

theorem FineN.wide {c c' : Nat} {x : VN} (h : FineN c x) (hc : c ≤ c') : FineN c' x :=
  ⟨h.keysN, h.keysS, h.kidsN, fun j hj => by have := h.kids j hj; omega, h.size, h.kind, h.num⟩
theorem Fine.wide {c c' : Nat} {vs : List VN} (h : Fine c vs) (hc : c ≤ c') : Fine c' vs := ⟨h.1, by have := h.2.1; omega, h.2.2⟩

theorem Fine.few {c : Nat} {vs : List VN} (h : Fine c vs) (hc : c ≤ 80) : Few vs ∧ ∀ j, j < vs.length → Fits (nodeAt vs j) := by
  refine ⟨⟨by have := h.2.1; omega, fun i hi => ?_⟩, fun j hj => ?_⟩
  · have := h.2.2 i hi; exact ⟨by have := this.keysN; omega, by have := this.kidsN; omega⟩
  · have hx := h.2.2 j hj
    exact ⟨by have := hx.keysN; omega, fun i hi => by have := hx.keysS i hi; omega, by have := hx.kidsN; omega, fun i hi => by have := hx.kids i hi; have := h.2.1; omega, by have := hx.size; omega, hx.kind.1, hx.kind.2, hx.num.1, hx.num.2⟩
theorem Drawn.from {rb n base : Nat} {w w' : World} (h : Drawn rb n w w') (hb : rb < base) : From base w w' := ⟨h.only.1, fun c h1 h2 => h.only.2 c h2 (by omega)⟩

end Go.Proofs.YtiamkmkbkehldaaDoor

/-
  One node alone, in new memory.
-/
namespace Go.Proofs.YtiamkmkbkehldaaDoor
open Go.RowKit
set_option linter.unusedSimpArgs false
set_option linter.unusedVariables false

def leafN (kind n : Int) (s : ByteArray) : List VN := [{ kind := kind, n := n, s := s, keys := [], kids := [] }]

theorem leaf_nest (w : World) (kind n : Int) (s : ByteArray) : Nest w.heap.size (w.alloc (.cells #[.int .i64 kind, .int .i64 n, .string s, .slice none 0 0, .slice none 0 0] 29)) (.slice (some ⟨w.heap.size, 0, none⟩) 1 1) (leafN kind n s) (fun _ => .slice none 0 0) (fun _ => .slice none 0 0) := by
  refine ⟨?_, fun i hi => ?_, fun i hi => ?_, fun i j hi hj hne => ?_, fun i j hi hj hne => ?_⟩
  · have := World.ownsRow_lit (base := w.heap.size) (e := 29) (size := 5) w #[.int .i64 kind, .int .i64 n, .string s, .slice none 0 0, .slice none 0 0] 1 (Nat.le_refl _) (by simp [maxLen]) rfl
    have eu : upd (fun _ => Value.slice none 0 0) 0 (.slice none 0 0) = fun _ => .slice none 0 0 := by funext i; unfold upd; split <;> rfl
    have e : nestCells (leafN kind n s) (fun _ => .slice none 0 0) (fun _ => .slice none 0 0) = [.int .i64 kind, .int .i64 n, .string s, .slice none 0 0, .slice none 0 0] := by
      have h := nestCells_snoc [] { kind := kind, n := n, s := s, keys := [], kids := [] } (fun _ => .slice none 0 0) (fun _ => .slice none 0 0) (.slice none 0 0) (.slice none 0 0)
      simp only [List.length_nil, eu, List.nil_append] at h
      exact h
    rw [e]
    exact this
  · obtain rfl : i = 0 := by simp [leafN] at hi; omega
    exact World.ownsRow_nil _ _ _ _
  · obtain rfl : i = 0 := by simp [leafN] at hi; omega
    exact World.ownsRow_nil _ _ _ _
  · simp [leafN] at hi hj; omega
  · simp [leafN] at hi hj; omega
end Go.Proofs.YtiamkmkbkehldaaDoor

/-
  Values of one node, as they are drawn.
-/
namespace Go.Proofs.YtiamkmkbkehldaaDoor
open Go.RowKit
set_option linter.unusedSimpArgs false
set_option linter.unusedVariables false

end Go.Proofs.YtiamkmkbkehldaaDoor

/-
  spec.l1Sorted: keys with their values, by the keys.
-/
namespace Go.Proofs.YtiamkmkbkehldaaDoor
open Go.RowKit
set_option linter.unusedSimpArgs false
set_option linter.unusedVariables false

end Go.Proofs.YtiamkmkbkehldaaDoor
