/-
  Draws of words, of numbers in a range, and of numbers just outside; draws out of a table, of texts and of numbers.
-/
import Derived.Test.YtnbhologgonjnaaRd
import Derived.Laws.Closers25b
import Derived.Laws.DeepStrings4
namespace Go.Proofs.Ytnbhologgonjnaa
open Go.RowKit
set_option linter.unusedSimpArgs false
set_option linter.unusedVariables false

theorem bits_u64 (op : BinOp) (a b : Int) : ∃ x : Nat, bits op .u64 a b = (x : Int) ∧ x < 18446744073709551616 := by
  have h := bits_within op .u64 a b
  have h1 : (0 : Int) ≤ bits op .u64 a b := h.1
  have h2 : bits op .u64 a b ≤ 18446744073709551615 := h.2
  exact ⟨(bits op .u64 a b).toNat, by omega, by omega⟩

def tabStr (A : Array Value) (m : Nat) : Bool := (List.range m).all fun i => match A[i]? with | some (.string s) => decide (s.size ≤ 60) | _ => false
def tabInt (A : Array Value) (m : Nat) : Bool := (List.range m).all fun i => match A[i]? with | some (.int .i64 x) => decide (0 ≤ x) && decide (x ≤ 10000000000000000) | _ => false

theorem tabStr_at {A : Array Value} {m : Nat} (h : tabStr A m = true) {i : Nat} (hi : i < m) : ∃ s, A[i]? = some (.string s) ∧ s.size ≤ 60 := by
  have := List.all_eq_true.1 h i (List.mem_range.2 hi)
  split at this
  · rename_i s e; exact ⟨s, e, by simpa using this⟩
  · cases this
theorem tabInt_at {A : Array Value} {m : Nat} (h : tabInt A m = true) {i : Nat} (hi : i < m) : ∃ x, A[i]? = some (.int .i64 x) ∧ 0 ≤ x ∧ x ≤ 10000000000000000 := by
  have := List.all_eq_true.1 h i (List.mem_range.2 hi)
  split at this
  · rename_i x e; exact ⟨x, e, by simpa using this⟩
  · cases this

theorem cell_tab {w : World} {A : Array Value} {T i : Nat} {v : Value} (h : A[i]? = some v) : (w.alloc (.cells A T)).cell? ⟨w.heap.size, i, none⟩ = some v := by
  simp [h]

theorem rdTab {rb n m : Nat} {w : World} {o : Obj} (h : ∃ p, RdAt w rb n p) (hm : 1 ≤ m) (hM : m ≤ 1048577) :
    Calls Try.prog 23 #[.pointer (some ⟨rb, 0, none⟩), .int .i64 m] (w.alloc o) fun e w' => (∃ y : Nat, y < m ∧ e = .returned (.int .i64 y) ∧ w'.cell? ⟨w.heap.size, y, none⟩ = (w.alloc o).cell? ⟨w.heap.size, y, none⟩) ∧ Drawn rb n w w' := by
  obtain ⟨p, hp⟩ := h
  have hd := (Drawn.refl hp).next ((Below.refl _ _).alloc (Nat.le_refl _) o)
  refine (rdBelow_any rb n m _ hd.rd hm hM).mono ?_
  rintro e w2 ⟨⟨y, hy, rfl⟩, hd2⟩
  exact ⟨⟨y, hy, rfl, hd2.only.cell (by simp) (fun e => by have := hp.lt; omega)⟩, hd.trans hd2⟩

theorem rdTabS (rb n m : Nat) (A : Array Value) (T : TypeId) (w : World) (h : ∃ p, RdAt w rb n p) (hm : 1 ≤ m) (hM : m ≤ 1048577) (hA : tabStr A m = true) :
    Calls Try.prog 23 #[.pointer (some ⟨rb, 0, none⟩), .int .i64 m] (w.alloc (.cells A T)) fun e w' => (∃ (y : Nat) (s : ByteArray), y < m ∧ e = .returned (.int .i64 y) ∧ s.size ≤ 60 ∧ w'.cell? ⟨w.heap.size, y, none⟩ = some (.string s)) ∧ Drawn rb n w w' := by
  refine (rdTab h hm hM).mono ?_
  rintro e w2 ⟨⟨y, hy, rfl, hc⟩, hd⟩
  obtain ⟨s, h1, h2⟩ := tabStr_at hA hy
  exact ⟨⟨y, s, hy, rfl, h2, hc.trans (cell_tab h1)⟩, hd⟩
theorem rdTabI (rb n m : Nat) (A : Array Value) (T : TypeId) (w : World) (h : ∃ p, RdAt w rb n p) (hm : 1 ≤ m) (hM : m ≤ 1048577) (hA : tabInt A m = true) :
    Calls Try.prog 23 #[.pointer (some ⟨rb, 0, none⟩), .int .i64 m] (w.alloc (.cells A T)) fun e w' => (∃ (y : Nat) (x : Int), y < m ∧ e = .returned (.int .i64 y) ∧ 0 ≤ x ∧ x ≤ 10000000000000000 ∧ w'.cell? ⟨w.heap.size, y, none⟩ = some (.int .i64 x)) ∧ Drawn rb n w w' := by
  refine (rdTab h hm hM).mono ?_
  rintro e w2 ⟨⟨y, hy, rfl, hc⟩, hd⟩
  obtain ⟨x, h1, h2, h3⟩ := tabInt_at hA hy
  exact ⟨⟨y, x, hy, rfl, h2, h3, hc.trans (cell_tab h1)⟩, hd⟩

set_option maxRecDepth 100000 in
set_option maxHeartbeats 1600000 in
theorem rdText_any (rb n : Nat) (w : World) (h : ∃ p, RdAt w rb n p) :
    Calls Try.prog 14 #[.pointer (some ⟨rb, 0, none⟩)] w fun e w' => (∃ s : ByteArray, s.size ≤ 60 ∧ e = .returned (.string s)) ∧ Drawn rb n w w' := by
  have H := hideIt h
  clear h
  go_enter Try.func14, Try.ntmps14
  go_wp2_with fail
  refine (rdBelow_any rb n 10 w H.out (by omega) (by omega)).mono ?_
  rintro e w1 ⟨⟨x, hx, rfl⟩, hd⟩
  have HD := hideIt hd
  clear hd
  by_cases hx6 : x = 6
  · subst hx6
    go_wp2_with fail
    refine (rdTabS rb n 8 _ _ w1 HD.out.rd (by omega) (by omega) (by rfl)).mono ?_
    rintro e w2 ⟨⟨y, s, hy, rfl, hs, hc⟩, hd⟩
    have hy' : (y : Int) < 8 := by omega
    have HD2 := hideIt (HD.out.trans hd)
    clear hd
    go_wp2_with fail
    go_ret
    exact ⟨⟨s, hs, rfl⟩, HD2.out⟩
  by_cases hx7 : x = 7
  · subst hx7
    go_wp2_with fail
    refine (rdTabS rb n 8 _ _ w1 HD.out.rd (by omega) (by omega) (by rfl)).mono ?_
    rintro e w2 ⟨⟨y, s, hy, rfl, hs, hc⟩, hd⟩
    have hy' : (y : Int) < 8 := by omega
    have HD2 := hideIt (HD.out.trans hd)
    clear hd
    go_wp2_with fail
    go_ret
    exact ⟨⟨s, hs, rfl⟩, HD2.out⟩
  have e6 : ((x : Int) == 6) = false := by simp; omega
  have e7 : ((x : Int) == 7) = false := by simp; omega
  by_cases hx8 : x = 8
  · subst hx8
    go_wp2_with fail
    refine (rdBelow_any rb n 37 w1 HD.out.rd (by omega) (by omega)).mono ?_
    rintro e w2 ⟨⟨y, hy, rfl⟩, hd⟩
    have HD2 := hideIt (HD.out.trans hd)
    have hy' : (y : Int) ≤ 36 := by omega
    clear hd
    go_wp2_with fail
    go_ret
    exact ⟨⟨_, by simp only [ByteArray.size_extract]; omega, rfl⟩, HD2.out⟩
  have e8 : ((x : Int) == 8) = false := by simp; omega
  clear hx6 hx7 hx8
  go_wp2_with fail
  refine (rdTabS rb n 6 _ _ w1 HD.out.rd (by omega) (by omega) (by rfl)).mono ?_
  rintro e w2 ⟨⟨y, s, hy, rfl, hs, hc⟩, hd⟩
  have hy' : (y : Int) < 6 := by omega
  have HD2 := hideIt (HD.out.trans hd)
  clear hd
  go_wp2_with fail
  go_ret
  exact ⟨⟨s, hs, rfl⟩, HD2.out⟩

end Go.Proofs.Ytnbhologgonjnaa
