/-
  Draws of words, of numbers in a range, and of numbers just outside; draws out of a table, of texts and of numbers.
-/
import Derived.Test.YtpfnkpkcjefelaaRd
import Derived.Laws.Closers25b
import Derived.Laws.DeepStrings4
namespace Go.Proofs.Ytpfnkpkcjefelaa
open Go.RowKit
set_option linter.unusedSimpArgs false
set_option linter.unusedVariables false

theorem bits_u64 (op : BinOp) (a b : Int) : ∃ x : Nat, bits op .u64 a b = (x : Int) ∧ x < 18446744073709551616 := by
  have h := bits_within op .u64 a b
  have h1 : (0 : Int) ≤ bits op .u64 a b := h.1
  have h2 : bits op .u64 a b ≤ 18446744073709551615 := h.2
  exact ⟨(bits op .u64 a b).toNat, by omega, by omega⟩

set_option maxRecDepth 100000 in
set_option maxHeartbeats 1600000 in
theorem rdWord_any (rb n : Nat) (w : World) (h : ∃ p, RdAt w rb n p) :
    Calls Try.prog 114 #[.pointer (some ⟨rb, 0, none⟩)] w fun e w' => (∃ x : Nat, x < 18446744073709551616 ∧ e = .returned (.int .u64 x)) ∧ Drawn rb n w w' := by
  obtain ⟨p, h⟩ := h
  have H := hideIt h
  clear h
  go_enter Try.func114, Try.ntmps114
  go_wp2_with fail
  go_loopw [3, 4] (fun v i wr => ∃ (x k : Nat), k ≤ 8 ∧ i = .int .i64 k ∧ v = .int .u64 x ∧ x < 18446744073709551616 ∧ Drawn rb n w wr) (fun _ i _ => 8 - (intOf i).toNat)
  case atStart => exact ⟨0, 0, by omega, rfl, rfl, by omega, Drawn.refl H.out⟩
  case round =>
    obtain ⟨x, k, hk, rfl, rfl, hx, hd⟩ := hrel
    have HD := hideIt hd
    obtain ⟨p2, hp2⟩ := hd.rd
    have H2 := hideIt hp2
    clear hd hp2
    by_cases hlt : k < 8
    · have hlt' : (k : Int) < 8 := by omega
      go_wp2_with fail
      refine (rdNext_any rb n p2 wr H2.out).mono ?_
      rintro e w2 ⟨⟨y, hy, rfl⟩, hd2⟩
      have HD2 := hideIt (HD.out.trans hd2)
      clear hd2
      go_wp2_with fail
      obtain ⟨z, hz, hz2⟩ := bits_u64 .or (IntKind.u64.wrap ((x : Int) * 256)) (y : Int)
      go_roundw
      case rel => exact ⟨z, k + 1, by omega, by go_num, by rw [hz], hz2, HD2.out⟩
      case measure => simp [intOf]; omega
    · have hlt' : ¬ (k : Int) < 8 := by omega
      go_wp2_with fail
      go_ret
      exact ⟨⟨x, hx, rfl⟩, HD.out⟩

set_option maxRecDepth 100000 in
set_option maxHeartbeats 1600000 in
theorem rdNear_any (rb n : Nat) (low high : Int) (w : World) (h : ∃ p, RdAt w rb n p) (h1 : -10000000000000000 ≤ low) (h2 : low ≤ high) (h3 : high ≤ 10000000000000000) :
    Calls Try.prog 94 #[.pointer (some ⟨rb, 0, none⟩), .int .i64 low, .int .i64 high] w fun e w' => (∃ x : Int, low ≤ x ∧ x ≤ high ∧ e = .returned (.int .i64 x)) ∧ Drawn rb n w w' := by
  have H := hideIt h
  clear h
  go_enter Try.func94, Try.ntmps94
  go_wp2_with fail
  refine (rdBelow_any rb n 8 w H.out (by omega) (by omega)).mono ?_
  rintro e w1 ⟨⟨x, hx, rfl⟩, hd⟩
  have HD := hideIt hd
  clear hd
  by_cases hx0 : x = 0
  · subst hx0
    go_wp2_with fail
    go_ret
    exact ⟨⟨low, by omega, by omega, rfl⟩, HD.out⟩
  by_cases hx1 : x = 1
  · subst hx1
    go_wp2_with fail
    go_ret
    exact ⟨⟨high, by omega, by omega, rfl⟩, HD.out⟩
  have e0 : ((x : Int) == 0) = false := by simp; omega
  have e1 : ((x : Int) == 1) = false := by simp; omega
  have e2 : ¬ high < low := by omega
  obtain ⟨d, hd⟩ : ∃ d : Nat, high - low + 1 = (d : Int) := ⟨(high - low + 1).toNat, by omega⟩
  have hd1 : 1 ≤ d := by omega
  have hd2 : d ≤ 20000000000000001 := by omega
  have hdb : ((d : Int) == 0) = false := by simp; omega
  have hd0 : ¬ (d : Int) = 0 := by omega
  clear hx0 hx1
  go_wp2_with fail
  refine (rdWord_any rb n w1 HD.out.rd).mono ?_
  rintro e w2 ⟨⟨y, hy, rfl⟩, hdd⟩
  have HD2 := hideIt (HD.out.trans hdd)
  clear hdd
  obtain ⟨z, hz, hzd⟩ : ∃ z : Nat, (y : Int) / 2 % (d : Int) = (z : Int) ∧ z < d := ⟨y / 2 % d, by simp, Nat.mod_lt _ (by omega)⟩
  have HDZ := hideIt hd
  have hz1 : -9223372036854775808 ≤ low + (z : Int) := by omega
  have hz2 : low + (z : Int) ≤ 9223372036854775807 := by omega
  have hz3 : (z : Int) ≤ 9223372036854775807 := by omega
  have HZZ : Hid (low ≤ low + (z : Int) ∧ low + (z : Int) ≤ high) := by rw [Hid]; omega
  go_wp2_with fail
  go_ret
  exact ⟨⟨low + (z : Int), HZZ.out.1, HZZ.out.2, by simp⟩, HD2.out⟩

set_option maxRecDepth 100000 in
set_option maxHeartbeats 1600000 in
theorem rdOff_any (rb n : Nat) (low high : Int) (w : World) (h : ∃ p, RdAt w rb n p) (h1 : -10000000000000000 ≤ low) (h2 : low ≤ high) (h3 : high ≤ 10000000000000000) :
    Calls Try.prog 60 #[.pointer (some ⟨rb, 0, none⟩), .int .i64 low, .int .i64 high] w fun e w' => (∃ x : Int, -9223372036854775808 ≤ x ∧ x ≤ 9223372036854775807 ∧ e = .returned (.int .i64 x)) ∧ Drawn rb n w w' := by
  have H := hideIt h
  clear h
  go_enter Try.func60, Try.ntmps60
  go_wp2_with fail
  refine (rdOnce_any rb n 24 w H.out (by omega) (by omega)).mono ?_
  rintro e w1 ⟨⟨x, rfl⟩, hd⟩
  have HD := hideIt hd
  have zd := hd.only.1
  clear hd
  cases x
  · go_wp2_with fail
    refine (rdNear_any rb n low high w1 HD.out.rd h1 h2 h3).mono ?_
    rintro e w2 ⟨⟨y, hy1, hy2, rfl⟩, hd2⟩
    have HD2 := hideIt (HD.out.trans hd2)
    clear hd2
    go_wp2_with fail
    go_ret
    exact ⟨⟨y, by omega, by omega, rfl⟩, HD2.out⟩
  · go_wp2_with fail
    have hba : Below w1.heap.size w1 (w1.alloc (.cells #[.int .i64 (low - 1), .int .i64 (high + 1), .int .i64 (-9223372036854775808), .int .i64 9223372036854775807] 2)) := (Below.refl _ _).alloc (Nat.le_refl _) _
    have HDA := hideIt (HD.out.next hba)
    have HCE : Hid (∀ i : Nat, i < 4 → ∃ x : Int, -9223372036854775808 ≤ x ∧ x ≤ 9223372036854775807 ∧ (w1.alloc (.cells #[.int .i64 (low - 1), .int .i64 (high + 1), .int .i64 (-9223372036854775808), .int .i64 9223372036854775807] 2)).cell? ⟨w1.heap.size, i, none⟩ = some (.int .i64 x)) := by
      intro i hi
      match i, hi with
      | 0, _ => exact ⟨low - 1, by omega, by omega, by simp⟩
      | 1, _ => exact ⟨high + 1, by omega, by omega, by simp⟩
      | 2, _ => exact ⟨-9223372036854775808, by omega, by omega, by simp⟩
      | 3, _ => exact ⟨9223372036854775807, by omega, by omega, by simp⟩
    have hsz : (w1.alloc (.cells #[.int .i64 (low - 1), .int .i64 (high + 1), .int .i64 (-9223372036854775808), .int .i64 9223372036854775807] 2)).heap.size = w1.heap.size + 1 := by simp
    have HSZ := hideIt hsz
    clear hba hsz
    generalize w1.alloc (.cells #[.int .i64 (low - 1), .int .i64 (high + 1), .int .i64 (-9223372036854775808), .int .i64 9223372036854775807] 2) = W at HDA HCE HSZ ⊢
    refine (rdBelow_any rb n 4 W HDA.out.rd (by omega) (by omega)).mono ?_
    rintro e w2 ⟨⟨y, hy, rfl⟩, hd2⟩
    obtain ⟨z, hz1, hz2, hz3⟩ := HCE.out y hy
    have hrb : ¬ (w1.heap.size = rb) := by obtain ⟨p, hp⟩ := HD.out.rd; have := hp.lt; omega
    have hz4 : w2.cell? ⟨w1.heap.size, y, none⟩ = some (.int .i64 z) := (hd2.only.cell (by have := HSZ.out; omega) hrb).trans hz3
    have HD2 := hideIt (HDA.out.trans hd2)
    have hy' : (y : Int) < 4 := by omega
    clear hd2 hz3
    go_wp2_with fail
    go_ret
    exact ⟨⟨z, hz1, hz2, rfl⟩, HD2.out⟩
def tabStr (A : Array Value) (m : Nat) : Bool := (List.range m).all fun i => match A[i]? with | some (.string s) => decide (s.size ≤ 60) | _ => false
def tabInt (A : Array Value) (m : Nat) : Bool := (List.range m).all fun i => match A[i]? with | some (.int .i64 x) => decide (0 ≤ x) && decide (x ≤ 10000000000000000) | _ => false

theorem tabStr_at {A : Array Value} {m : Nat} (h : tabStr A m = true) {i : Nat} (hi : i < m) : ∃ s, A[i]? = some (.string s) ∧ s.size ≤ 60 := by
  have := List.all_eq_true.1 h i (List.mem_range.2 hi)
  split at this
  · rename_i s e; exact ⟨s, e, by simpa using this⟩
  · cases this
theorem tabInt_at {A : Array Value} {m : Nat} (h : tabInt A m = true) {i : Nat} (hi : i < m) : ∃ x, A[i]? = some (.int .i64 x) ∧ 0 ≤ x ∧ x ≤ 10000000000000000 := by
  have := List.all_eq_true.1 h i (List.mem_range.2 hi)
  split at this
  · rename_i x e; exact ⟨x, e, by simpa using this⟩
  · cases this

theorem cell_tab {w : World} {A : Array Value} {T i : Nat} {v : Value} (h : A[i]? = some v) : (w.alloc (.cells A T)).cell? ⟨w.heap.size, i, none⟩ = some v := by
  simp [h]

theorem rdTab {rb n m : Nat} {w : World} {o : Obj} (h : ∃ p, RdAt w rb n p) (hm : 1 ≤ m) (hM : m ≤ 1048577) :
    Calls Try.prog 68 #[.pointer (some ⟨rb, 0, none⟩), .int .i64 m] (w.alloc o) fun e w' => (∃ y : Nat, y < m ∧ e = .returned (.int .i64 y) ∧ w'.cell? ⟨w.heap.size, y, none⟩ = (w.alloc o).cell? ⟨w.heap.size, y, none⟩) ∧ Drawn rb n w w' := by
  obtain ⟨p, hp⟩ := h
  have hd := (Drawn.refl hp).next ((Below.refl _ _).alloc (Nat.le_refl _) o)
  refine (rdBelow_any rb n m _ hd.rd hm hM).mono ?_
  rintro e w2 ⟨⟨y, hy, rfl⟩, hd2⟩
  exact ⟨⟨y, hy, rfl, hd2.only.cell (by simp) (fun e => by have := hp.lt; omega)⟩, hd.trans hd2⟩

theorem rdTabS (rb n m : Nat) (A : Array Value) (T : TypeId) (w : World) (h : ∃ p, RdAt w rb n p) (hm : 1 ≤ m) (hM : m ≤ 1048577) (hA : tabStr A m = true) :
    Calls Try.prog 68 #[.pointer (some ⟨rb, 0, none⟩), .int .i64 m] (w.alloc (.cells A T)) fun e w' => (∃ (y : Nat) (s : ByteArray), y < m ∧ e = .returned (.int .i64 y) ∧ s.size ≤ 60 ∧ w'.cell? ⟨w.heap.size, y, none⟩ = some (.string s)) ∧ Drawn rb n w w' := by
  refine (rdTab h hm hM).mono ?_
  rintro e w2 ⟨⟨y, hy, rfl, hc⟩, hd⟩
  obtain ⟨s, h1, h2⟩ := tabStr_at hA hy
  exact ⟨⟨y, s, hy, rfl, h2, hc.trans (cell_tab h1)⟩, hd⟩
theorem rdTabI (rb n m : Nat) (A : Array Value) (T : TypeId) (w : World) (h : ∃ p, RdAt w rb n p) (hm : 1 ≤ m) (hM : m ≤ 1048577) (hA : tabInt A m = true) :
    Calls Try.prog 68 #[.pointer (some ⟨rb, 0, none⟩), .int .i64 m] (w.alloc (.cells A T)) fun e w' => (∃ (y : Nat) (x : Int), y < m ∧ e = .returned (.int .i64 y) ∧ 0 ≤ x ∧ x ≤ 10000000000000000 ∧ w'.cell? ⟨w.heap.size, y, none⟩ = some (.int .i64 x)) ∧ Drawn rb n w w' := by
  refine (rdTab h hm hM).mono ?_
  rintro e w2 ⟨⟨y, hy, rfl, hc⟩, hd⟩
  obtain ⟨x, h1, h2, h3⟩ := tabInt_at hA hy
  exact ⟨⟨y, x, hy, rfl, h2, h3, hc.trans (cell_tab h1)⟩, hd⟩

set_option maxRecDepth 100000 in
set_option maxHeartbeats 1600000 in
theorem rdText_any (rb n : Nat) (w : World) (h : ∃ p, RdAt w rb n p) :
    Calls Try.prog 71 #[.pointer (some ⟨rb, 0, none⟩)] w fun e w' => (∃ s : ByteArray, s.size ≤ 60 ∧ e = .returned (.string s)) ∧ Drawn rb n w w' := by
  have H := hideIt h
  clear h
  go_enter Try.func71, Try.ntmps71
  go_wp2_with fail
  refine (rdBelow_any rb n 10 w H.out (by omega) (by omega)).mono ?_
  rintro e w1 ⟨⟨x, hx, rfl⟩, hd⟩
  have HD := hideIt hd
  clear hd
  by_cases hx6 : x = 6
  · subst hx6
    go_wp2_with fail
    refine (rdTabS rb n 8 _ _ w1 HD.out.rd (by omega) (by omega) (by rfl)).mono ?_
    rintro e w2 ⟨⟨y, s, hy, rfl, hs, hc⟩, hd⟩
    have hy' : (y : Int) < 8 := by omega
    have HD2 := hideIt (HD.out.trans hd)
    clear hd
    go_wp2_with fail
    go_ret
    exact ⟨⟨s, hs, rfl⟩, HD2.out⟩
  by_cases hx7 : x = 7
  · subst hx7
    go_wp2_with fail
    refine (rdTabS rb n 8 _ _ w1 HD.out.rd (by omega) (by omega) (by rfl)).mono ?_
    rintro e w2 ⟨⟨y, s, hy, rfl, hs, hc⟩, hd⟩
    have hy' : (y : Int) < 8 := by omega
    have HD2 := hideIt (HD.out.trans hd)
    clear hd
    go_wp2_with fail
    go_ret
    exact ⟨⟨s, hs, rfl⟩, HD2.out⟩
  have e6 : ((x : Int) == 6) = false := by simp; omega
  have e7 : ((x : Int) == 7) = false := by simp; omega
  by_cases hx8 : x = 8
  · subst hx8
    go_wp2_with fail
    refine (rdBelow_any rb n 37 w1 HD.out.rd (by omega) (by omega)).mono ?_
    rintro e w2 ⟨⟨y, hy, rfl⟩, hd⟩
    have HD2 := hideIt (HD.out.trans hd)
    have hy' : (y : Int) ≤ 36 := by omega
    clear hd
    go_wp2_with fail
    go_ret
    exact ⟨⟨_, by simp only [ByteArray.size_extract]; omega, rfl⟩, HD2.out⟩
  have e8 : ((x : Int) == 8) = false := by simp; omega
  clear hx6 hx7 hx8
  go_wp2_with fail
  refine (rdTabS rb n 6 _ _ w1 HD.out.rd (by omega) (by omega) (by rfl)).mono ?_
  rintro e w2 ⟨⟨y, s, hy, rfl, hs, hc⟩, hd⟩
  have hy' : (y : Int) < 6 := by omega
  have HD2 := hideIt (HD.out.trans hd)
  clear hd
  go_wp2_with fail
  go_ret
  exact ⟨⟨s, hs, rfl⟩, HD2.out⟩

set_option maxRecDepth 100000 in
set_option maxHeartbeats 1600000 in
theorem rdNumber_any (rb n : Nat) (w : World) (h : ∃ p, RdAt w rb n p) :
    Calls Try.prog 100 #[.pointer (some ⟨rb, 0, none⟩)] w fun e w' => (∃ x : Int, -10000000000000000 ≤ x ∧ x ≤ 10000000000000000 ∧ e = .returned (.int .i64 x)) ∧ Drawn rb n w w' := by
  have H := hideIt h
  clear h
  go_enter Try.func100, Try.ntmps100
  go_wp2_with fail
  refine (rdBelow_any rb n 8 w H.out (by omega) (by omega)).mono ?_
  rintro e w1 ⟨⟨x, hx, rfl⟩, hd⟩
  have HD := hideIt hd
  clear hd
  by_cases hx5 : x = 5
  · subst hx5
    go_wp2_with fail
    refine (rdTabI rb n 10 _ _ w1 HD.out.rd (by omega) (by omega) (by rfl)).mono ?_
    rintro e w2 ⟨⟨y, z, hy, rfl, hz1, hz2, hc⟩, hd⟩
    have hy' : (y : Int) < 10 := by omega
    have HD2 := hideIt (HD.out.trans hd)
    clear hd
    go_wp2_with fail
    go_ret
    exact ⟨⟨z, by omega, hz2, rfl⟩, HD2.out⟩
  by_cases hx6 : x = 6
  · subst hx6
    go_wp2_with fail
    refine (rdTabI rb n 13 _ _ w1 HD.out.rd (by omega) (by omega) (by rfl)).mono ?_
    rintro e w2 ⟨⟨y, z, hy, rfl, hz1, hz2, hc⟩, hd⟩
    have hy' : (y : Int) < 13 := by omega
    have HD2 := hideIt (HD.out.trans hd)
    clear hd
    go_wp2_with fail
    go_ret
    exact ⟨⟨-z, by omega, by omega, rfl⟩, HD2.out⟩
  have e5 : ((x : Int) == 5) = false := by simp; omega
  have e6 : ((x : Int) == 6) = false := by simp; omega
  by_cases hx7 : x = 7
  · subst hx7
    go_wp2_with fail
    refine (rdNear_any rb n (-1000000000000000) 1000000000000000 w1 HD.out.rd (by omega) (by omega) (by omega)).mono ?_
    rintro e w2 ⟨⟨z, hz1, hz2, rfl⟩, hd⟩
    have HD2 := hideIt (HD.out.trans hd)
    clear hd
    go_wp2_with fail
    go_ret
    exact ⟨⟨z, by omega, by omega, rfl⟩, HD2.out⟩
  have e7 : ((x : Int) == 7) = false := by simp; omega
  clear hx5 hx6 hx7
  go_wp2_with fail
  refine (rdBelow_any rb n 7 w1 HD.out.rd (by omega) (by omega)).mono ?_
  rintro e w2 ⟨⟨y, hy, rfl⟩, hd⟩
  have HD2 := hideIt (HD.out.trans hd)
  clear hd
  go_wp2_with fail
  go_ret
  exact ⟨⟨(y : Int) - 2, by omega, by omega, rfl⟩, HD2.out⟩
end Go.Proofs.Ytpfnkpkcjefelaa

/-
  A code of bytes is opened for drawing.
-/
namespace Go.Proofs.Ytpfnkpkcjefelaa
open Go.RowKit
set_option linter.unusedSimpArgs false
set_option linter.unusedVariables false

/-- A code of n bytes. -/
def CodeAt (B : Nat) (w : World) (v : Value) (n : Nat) : Prop :=
  n ≤ 1048576 ∧ ∃ a cap, v = .slice a n cap ∧ (0 < n → ∃ b o, a = some ⟨b, o, none⟩ ∧ b < B ∧ ∀ i, i < n → ∃ x : Nat, x < 256 ∧ w.cell? ⟨b, o + i, none⟩ = some (.int .u8 x))

theorem CodeAt.below {B : Nat} {w w' : World} {v : Value} {n : Nat} (h : CodeAt B w v n) (hb : Below B w w') : CodeAt B w' v n := by
  obtain ⟨hn, a, cap, e, hc⟩ := h
  refine ⟨hn, a, cap, e, fun hp => ?_⟩
  obtain ⟨b, o, e2, hlt, hx⟩ := hc hp
  exact ⟨b, o, e2, hlt, fun i hi => by obtain ⟨x, h3, h4⟩ := hx i hi; exact ⟨x, h3, (below_cell hb hlt).trans h4⟩⟩

set_option maxHeartbeats 800000 in
theorem l1Open_any (B : Nat) (v : Value) (n : Nat) (w : World) (h : CodeAt B w v n) (hB : B ≤ w.heap.size) :
    Calls Try.prog 47 #[v] w fun e w' => e = .returned (.pointer (some ⟨w.heap.size, 0, none⟩)) ∧ RdAt w' w.heap.size n 0 ∧ Below w.heap.size w w' := by
  obtain ⟨hn, a, cap, rfl, hc⟩ := h
  have HC := hideIt hc
  clear hc
  go_enter Try.func47, Try.ntmps47
  go_wp2_with fail
  go_ret
  have hb : Below w.heap.size w (w.alloc (.cells #[.slice a n cap, .int .i64 0] 116)) := (Below.refl _ _).alloc (Nat.le_refl _) _
  refine ⟨rfl, ⟨by simp, ⟨a, cap, by simp, fun hp => ?_⟩, by simp, by omega, hn, frozen_of_row _ _ 1 _ _ (heap_alloc_new w _)⟩, hb⟩
  obtain ⟨b, o, e, hlt, hx⟩ := HC.out hp
  exact ⟨b, o, e, by omega, fun i hi => by obtain ⟨x, h3, h4⟩ := hx i hi; exact ⟨x, h3, (below_cell hb (by omega)).trans h4⟩⟩

end Go.Proofs.Ytpfnkpkcjefelaa
