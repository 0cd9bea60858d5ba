/-
  Draws of words, of numbers in a range, and of numbers just outside; draws out of a table, of texts and of numbers.
-/
import Derived.Test.YtiamkmkbkehldaaGreatDoorRd
import Derived.Laws.Closers25b
import Derived.Laws.DeepStrings4
import Derived.Test.YtiamkmkbkehldaaGreatDoorSMake
import Derived.Test.YtiamkmkbkehldaaGreatDoorNest
namespace Go.Proofs.YtiamkmkbkehldaaGreatDoor
open Go.RowKit
set_option linter.unusedSimpArgs false
set_option linter.unusedVariables false

theorem bits_u64 (op : BinOp) (a b : Int) : ∃ x : Nat, bits op .u64 a b = (x : Int) ∧ x < 18446744073709551616 := by
  have h := bits_within op .u64 a b
  have h1 : (0 : Int) ≤ bits op .u64 a b := h.1
  have h2 : bits op .u64 a b ≤ 18446744073709551615 := h.2
  exact ⟨(bits op .u64 a b).toNat, by omega, by omega⟩

set_option maxRecDepth 100000 in
set_option maxHeartbeats 1600000 in
theorem rdWord_any (rb n : Nat) (w : World) (h : ∃ p, RdAt w rb n p) :
    Calls Tryz.prog 178 #[.pointer (some ⟨rb, 0, none⟩)] w fun e w' => (∃ x : Nat, x < 18446744073709551616 ∧ e = .returned (.int .u64 x)) ∧ Drawn rb n w w' := by
  obtain ⟨p, h⟩ := h
  have H := hideIt h
  clear h
  go_enter Tryz.func178, Tryz.ntmps178
  go_wp2_with fail
  go_loopw [3, 4] (fun v i wr => ∃ (x k : Nat), k ≤ 8 ∧ i = .int .i64 k ∧ v = .int .u64 x ∧ x < 18446744073709551616 ∧ Drawn rb n w wr) (fun _ i _ => 8 - (intOf i).toNat)
  case atStart => exact ⟨0, 0, by omega, rfl, rfl, by omega, Drawn.refl H.out⟩
  case round =>
    obtain ⟨x, k, hk, rfl, rfl, hx, hd⟩ := hrel
    have HD := hideIt hd
    obtain ⟨p2, hp2⟩ := hd.rd
    have H2 := hideIt hp2
    clear hd hp2
    by_cases hlt : k < 8
    · have hlt' : (k : Int) < 8 := by omega
      go_wp2_with fail
      refine (rdNext_any rb n p2 wr H2.out).mono ?_
      rintro e w2 ⟨⟨y, hy, rfl⟩, hd2⟩
      have HD2 := hideIt (HD.out.trans hd2)
      clear hd2
      go_wp2_with fail
      obtain ⟨z, hz, hz2⟩ := bits_u64 .or (IntKind.u64.wrap ((x : Int) * 256)) (y : Int)
      go_roundw
      case rel => exact ⟨z, k + 1, by omega, by go_num, by rw [hz], hz2, HD2.out⟩
      case measure => simp [intOf]; omega
    · have hlt' : ¬ (k : Int) < 8 := by omega
      go_wp2_with fail
      go_ret
      exact ⟨⟨x, hx, rfl⟩, HD.out⟩

set_option maxRecDepth 100000 in
set_option maxHeartbeats 1600000 in
theorem rdNear_any (rb n : Nat) (low high : Int) (w : World) (h : ∃ p, RdAt w rb n p) (h1 : -10000000000000000 ≤ low) (h2 : low ≤ high) (h3 : high ≤ 10000000000000000) :
    Calls Tryz.prog 137 #[.pointer (some ⟨rb, 0, none⟩), .int .i64 low, .int .i64 high] w fun e w' => (∃ x : Int, low ≤ x ∧ x ≤ high ∧ e = .returned (.int .i64 x)) ∧ Drawn rb n w w' := by
  have H := hideIt h
  clear h
  go_enter Tryz.func137, Tryz.ntmps137
  go_wp2_with fail
  refine (rdBelow_any rb n 8 w H.out (by omega) (by omega)).mono ?_
  rintro e w1 ⟨⟨x, hx, rfl⟩, hd⟩
  have HD := hideIt hd
  clear hd
  by_cases hx0 : x = 0
  · subst hx0
    go_wp2_with fail
    go_ret
    exact ⟨⟨low, by omega, by omega, rfl⟩, HD.out⟩
  by_cases hx1 : x = 1
  · subst hx1
    go_wp2_with fail
    go_ret
    exact ⟨⟨high, by omega, by omega, rfl⟩, HD.out⟩
  have e0 : ((x : Int) == 0) = false := by simp; omega
  have e1 : ((x : Int) == 1) = false := by simp; omega
  have e2 : ¬ high < low := by omega
  obtain ⟨d, hd⟩ : ∃ d : Nat, high - low + 1 = (d : Int) := ⟨(high - low + 1).toNat, by omega⟩
  have hd1 : 1 ≤ d := by omega
  have hd2 : d ≤ 20000000000000001 := by omega
  have hdb : ((d : Int) == 0) = false := by simp; omega
  have hd0 : ¬ (d : Int) = 0 := by omega
  clear hx0 hx1
  go_wp2_with fail
  refine (rdWord_any rb n w1 HD.out.rd).mono ?_
  rintro e w2 ⟨⟨y, hy, rfl⟩, hdd⟩
  have HD2 := hideIt (HD.out.trans hdd)
  clear hdd
  obtain ⟨z, hz, hzd⟩ : ∃ z : Nat, (y : Int) / 2 % (d : Int) = (z : Int) ∧ z < d := ⟨y / 2 % d, by simp, Nat.mod_lt _ (by omega)⟩
  have HDZ := hideIt hd
  have hz1 : -9223372036854775808 ≤ low + (z : Int) := by omega
  have hz2 : low + (z : Int) ≤ 9223372036854775807 := by omega
  have hz3 : (z : Int) ≤ 9223372036854775807 := by omega
  have HZZ : Hid (low ≤ low + (z : Int) ∧ low + (z : Int) ≤ high) := by rw [Hid]; omega
  go_wp2_with fail
  go_ret
  exact ⟨⟨low + (z : Int), HZZ.out.1, HZZ.out.2, by simp⟩, HD2.out⟩

set_option maxRecDepth 100000 in
set_option maxHeartbeats 1600000 in
theorem rdOff_any (rb n : Nat) (low high : Int) (w : World) (h : ∃ p, RdAt w rb n p) (h1 : -10000000000000000 ≤ low) (h2 : low ≤ high) (h3 : high ≤ 10000000000000000) :
    Calls Tryz.prog 71 #[.pointer (some ⟨rb, 0, none⟩), .int .i64 low, .int .i64 high] w fun e w' => (∃ x : Int, -9223372036854775808 ≤ x ∧ x ≤ 9223372036854775807 ∧ e = .returned (.int .i64 x)) ∧ Drawn rb n w w' := by
  have H := hideIt h
  clear h
  go_enter Tryz.func71, Tryz.ntmps71
  go_wp2_with fail
  refine (rdOnce_any rb n 24 w H.out (by omega) (by omega)).mono ?_
  rintro e w1 ⟨⟨x, rfl⟩, hd⟩
  have HD := hideIt hd
  have zd := hd.only.1
  clear hd
  cases x
  · go_wp2_with fail
    refine (rdNear_any rb n low high w1 HD.out.rd h1 h2 h3).mono ?_
    rintro e w2 ⟨⟨y, hy1, hy2, rfl⟩, hd2⟩
    have HD2 := hideIt (HD.out.trans hd2)
    clear hd2
    go_wp2_with fail
    go_ret
    exact ⟨⟨y, by omega, by omega, rfl⟩, HD2.out⟩
  · go_wp2_with fail
    have hba : Below w1.heap.size w1 (w1.alloc (.cells #[.int .i64 (low - 1), .int .i64 (high + 1), .int .i64 (-9223372036854775808), .int .i64 9223372036854775807] 2)) := (Below.refl _ _).alloc (Nat.le_refl _) _
    have HDA := hideIt (HD.out.next hba)
    have HCE : Hid (∀ i : Nat, i < 4 → ∃ x : Int, -9223372036854775808 ≤ x ∧ x ≤ 9223372036854775807 ∧ (w1.alloc (.cells #[.int .i64 (low - 1), .int .i64 (high + 1), .int .i64 (-9223372036854775808), .int .i64 9223372036854775807] 2)).cell? ⟨w1.heap.size, i, none⟩ = some (.int .i64 x)) := by
      intro i hi
      match i, hi with
      | 0, _ => exact ⟨low - 1, by omega, by omega, by simp⟩
      | 1, _ => exact ⟨high + 1, by omega, by omega, by simp⟩
      | 2, _ => exact ⟨-9223372036854775808, by omega, by omega, by simp⟩
      | 3, _ => exact ⟨9223372036854775807, by omega, by omega, by simp⟩
    have hsz : (w1.alloc (.cells #[.int .i64 (low - 1), .int .i64 (high + 1), .int .i64 (-9223372036854775808), .int .i64 9223372036854775807] 2)).heap.size = w1.heap.size + 1 := by simp
    have HSZ := hideIt hsz
    clear hba hsz
    generalize w1.alloc (.cells #[.int .i64 (low - 1), .int .i64 (high + 1), .int .i64 (-9223372036854775808), .int .i64 9223372036854775807] 2) = W at HDA HCE HSZ ⊢
    refine (rdBelow_any rb n 4 W HDA.out.rd (by omega) (by omega)).mono ?_
    rintro e w2 ⟨⟨y, hy, rfl⟩, hd2⟩
    obtain ⟨z, hz1, hz2, hz3⟩ := HCE.out y hy
    have hrb : ¬ (w1.heap.size = rb) := by obtain ⟨p, hp⟩ := HD.out.rd; have := hp.lt; omega
    have hz4 : w2.cell? ⟨w1.heap.size, y, none⟩ = some (.int .i64 z) := (hd2.only.cell (by have := HSZ.out; omega) hrb).trans hz3
    have HD2 := hideIt (HDA.out.trans hd2)
    have hy' : (y : Int) < 4 := by omega
    clear hd2 hz3
    go_wp2_with fail
    go_ret
    exact ⟨⟨z, hz1, hz2, rfl⟩, HD2.out⟩
def tabStr (A : Array Value) (m : Nat) : Bool := (List.range m).all fun i => match A[i]? with | some (.string s) => decide (s.size ≤ 60) | _ => false
def tabInt (A : Array Value) (m : Nat) : Bool := (List.range m).all fun i => match A[i]? with | some (.int .i64 x) => decide (0 ≤ x) && decide (x ≤ 10000000000000000) | _ => false

theorem tabStr_at {A : Array Value} {m : Nat} (h : tabStr A m = true) {i : Nat} (hi : i < m) : ∃ s, A[i]? = some (.string s) ∧ s.size ≤ 60 := by
  have := List.all_eq_true.1 h i (List.mem_range.2 hi)
  split at this
  · rename_i s e; exact ⟨s, e, by simpa using this⟩
  · cases this
theorem tabInt_at {A : Array Value} {m : Nat} (h : tabInt A m = true) {i : Nat} (hi : i < m) : ∃ x, A[i]? = some (.int .i64 x) ∧ 0 ≤ x ∧ x ≤ 10000000000000000 := by
  have := List.all_eq_true.1 h i (List.mem_range.2 hi)
  split at this
  · rename_i x e; exact ⟨x, e, by simpa using this⟩
  · cases this

theorem cell_tab {w : World} {A : Array Value} {T i : Nat} {v : Value} (h : A[i]? = some v) : (w.alloc (.cells A T)).cell? ⟨w.heap.size, i, none⟩ = some v := by
  simp [h]

theorem rdTab {rb n m : Nat} {w : World} {o : Obj} (h : ∃ p, RdAt w rb n p) (hm : 1 ≤ m) (hM : m ≤ 1048577) :
    Calls Tryz.prog 49 #[.pointer (some ⟨rb, 0, none⟩), .int .i64 m] (w.alloc o) fun e w' => (∃ y : Nat, y < m ∧ e = .returned (.int .i64 y) ∧ w'.cell? ⟨w.heap.size, y, none⟩ = (w.alloc o).cell? ⟨w.heap.size, y, none⟩) ∧ Drawn rb n w w' := by
  obtain ⟨p, hp⟩ := h
  have hd := (Drawn.refl hp).next ((Below.refl _ _).alloc (Nat.le_refl _) o)
  refine (rdBelow_any rb n m _ hd.rd hm hM).mono ?_
  rintro e w2 ⟨⟨y, hy, rfl⟩, hd2⟩
  exact ⟨⟨y, hy, rfl, hd2.only.cell (by simp) (fun e => by have := hp.lt; omega)⟩, hd.trans hd2⟩

theorem rdTabS (rb n m : Nat) (A : Array Value) (T : TypeId) (w : World) (h : ∃ p, RdAt w rb n p) (hm : 1 ≤ m) (hM : m ≤ 1048577) (hA : tabStr A m = true) :
    Calls Tryz.prog 49 #[.pointer (some ⟨rb, 0, none⟩), .int .i64 m] (w.alloc (.cells A T)) fun e w' => (∃ (y : Nat) (s : ByteArray), y < m ∧ e = .returned (.int .i64 y) ∧ s.size ≤ 60 ∧ w'.cell? ⟨w.heap.size, y, none⟩ = some (.string s)) ∧ Drawn rb n w w' := by
  refine (rdTab h hm hM).mono ?_
  rintro e w2 ⟨⟨y, hy, rfl, hc⟩, hd⟩
  obtain ⟨s, h1, h2⟩ := tabStr_at hA hy
  exact ⟨⟨y, s, hy, rfl, h2, hc.trans (cell_tab h1)⟩, hd⟩
theorem rdTabI (rb n m : Nat) (A : Array Value) (T : TypeId) (w : World) (h : ∃ p, RdAt w rb n p) (hm : 1 ≤ m) (hM : m ≤ 1048577) (hA : tabInt A m = true) :
    Calls Tryz.prog 49 #[.pointer (some ⟨rb, 0, none⟩), .int .i64 m] (w.alloc (.cells A T)) fun e w' => (∃ (y : Nat) (x : Int), y < m ∧ e = .returned (.int .i64 y) ∧ 0 ≤ x ∧ x ≤ 10000000000000000 ∧ w'.cell? ⟨w.heap.size, y, none⟩ = some (.int .i64 x)) ∧ Drawn rb n w w' := by
  refine (rdTab h hm hM).mono ?_
  rintro e w2 ⟨⟨y, hy, rfl, hc⟩, hd⟩
  obtain ⟨x, h1, h2, h3⟩ := tabInt_at hA hy
  exact ⟨⟨y, x, hy, rfl, h2, h3, hc.trans (cell_tab h1)⟩, hd⟩

set_option maxRecDepth 100000 in
set_option maxHeartbeats 1600000 in
theorem rdText_any (rb n : Nat) (w : World) (h : ∃ p, RdAt w rb n p) :
    Calls Tryz.prog 99 #[.pointer (some ⟨rb, 0, none⟩)] w fun e w' => (∃ s : ByteArray, s.size ≤ 60 ∧ e = .returned (.string s)) ∧ Drawn rb n w w' := by
  have H := hideIt h
  clear h
  go_enter Tryz.func99, Tryz.ntmps99
  go_wp2_with fail
  refine (rdBelow_any rb n 10 w H.out (by omega) (by omega)).mono ?_
  rintro e w1 ⟨⟨x, hx, rfl⟩, hd⟩
  have HD := hideIt hd
  clear hd
  by_cases hx6 : x = 6
  · subst hx6
    go_wp2_with fail
    refine (rdTabS rb n 8 _ _ w1 HD.out.rd (by omega) (by omega) (by rfl)).mono ?_
    rintro e w2 ⟨⟨y, s, hy, rfl, hs, hc⟩, hd⟩
    have hy' : (y : Int) < 8 := by omega
    have HD2 := hideIt (HD.out.trans hd)
    clear hd
    go_wp2_with fail
    go_ret
    exact ⟨⟨s, hs, rfl⟩, HD2.out⟩
  by_cases hx7 : x = 7
  · subst hx7
    go_wp2_with fail
    refine (rdTabS rb n 8 _ _ w1 HD.out.rd (by omega) (by omega) (by rfl)).mono ?_
    rintro e w2 ⟨⟨y, s, hy, rfl, hs, hc⟩, hd⟩
    have hy' : (y : Int) < 8 := by omega
    have HD2 := hideIt (HD.out.trans hd)
    clear hd
    go_wp2_with fail
    go_ret
    exact ⟨⟨s, hs, rfl⟩, HD2.out⟩
  have e6 : ((x : Int) == 6) = false := by simp; omega
  have e7 : ((x : Int) == 7) = false := by simp; omega
  by_cases hx8 : x = 8
  · subst hx8
    go_wp2_with fail
    refine (rdBelow_any rb n 37 w1 HD.out.rd (by omega) (by omega)).mono ?_
    rintro e w2 ⟨⟨y, hy, rfl⟩, hd⟩
    have HD2 := hideIt (HD.out.trans hd)
    have hy' : (y : Int) ≤ 36 := by omega
    clear hd
    go_wp2_with fail
    go_ret
    exact ⟨⟨_, by simp only [ByteArray.size_extract]; omega, rfl⟩, HD2.out⟩
  have e8 : ((x : Int) == 8) = false := by simp; omega
  clear hx6 hx7 hx8
  go_wp2_with fail
  refine (rdTabS rb n 6 _ _ w1 HD.out.rd (by omega) (by omega) (by rfl)).mono ?_
  rintro e w2 ⟨⟨y, s, hy, rfl, hs, hc⟩, hd⟩
  have hy' : (y : Int) < 6 := by omega
  have HD2 := hideIt (HD.out.trans hd)
  clear hd
  go_wp2_with fail
  go_ret
  exact ⟨⟨s, hs, rfl⟩, HD2.out⟩

set_option maxRecDepth 100000 in
set_option maxHeartbeats 1600000 in
theorem rdNumber_any (rb n : Nat) (w : World) (h : ∃ p, RdAt w rb n p) :
    Calls Tryz.prog 97 #[.pointer (some ⟨rb, 0, none⟩)] w fun e w' => (∃ x : Int, -10000000000000000 ≤ x ∧ x ≤ 10000000000000000 ∧ e = .returned (.int .i64 x)) ∧ Drawn rb n w w' := by
  have H := hideIt h
  clear h
  go_enter Tryz.func97, Tryz.ntmps97
  go_wp2_with fail
  refine (rdBelow_any rb n 8 w H.out (by omega) (by omega)).mono ?_
  rintro e w1 ⟨⟨x, hx, rfl⟩, hd⟩
  have HD := hideIt hd
  clear hd
  by_cases hx5 : x = 5
  · subst hx5
    go_wp2_with fail
    refine (rdTabI rb n 10 _ _ w1 HD.out.rd (by omega) (by omega) (by rfl)).mono ?_
    rintro e w2 ⟨⟨y, z, hy, rfl, hz1, hz2, hc⟩, hd⟩
    have hy' : (y : Int) < 10 := by omega
    have HD2 := hideIt (HD.out.trans hd)
    clear hd
    go_wp2_with fail
    go_ret
    exact ⟨⟨z, by omega, hz2, rfl⟩, HD2.out⟩
  by_cases hx6 : x = 6
  · subst hx6
    go_wp2_with fail
    refine (rdTabI rb n 13 _ _ w1 HD.out.rd (by omega) (by omega) (by rfl)).mono ?_
    rintro e w2 ⟨⟨y, z, hy, rfl, hz1, hz2, hc⟩, hd⟩
    have hy' : (y : Int) < 13 := by omega
    have HD2 := hideIt (HD.out.trans hd)
    clear hd
    go_wp2_with fail
    go_ret
    exact ⟨⟨-z, by omega, by omega, rfl⟩, HD2.out⟩
  have e5 : ((x : Int) == 5) = false := by simp; omega
  have e6 : ((x : Int) == 6) = false := by simp; omega
  by_cases hx7 : x = 7
  · subst hx7
    go_wp2_with fail
    refine (rdNear_any rb n (-1000000000000000) 1000000000000000 w1 HD.out.rd (by omega) (by omega) (by omega)).mono ?_
    rintro e w2 ⟨⟨z, hz1, hz2, rfl⟩, hd⟩
    have HD2 := hideIt (HD.out.trans hd)
    clear hd
    go_wp2_with fail
    go_ret
    exact ⟨⟨z, by omega, by omega, rfl⟩, HD2.out⟩
  have e7 : ((x : Int) == 7) = false := by simp; omega
  clear hx5 hx6 hx7
  go_wp2_with fail
  refine (rdBelow_any rb n 7 w1 HD.out.rd (by omega) (by omega)).mono ?_
  rintro e w2 ⟨⟨y, hy, rfl⟩, hd⟩
  have HD2 := hideIt (HD.out.trans hd)
  clear hd
  go_wp2_with fail
  go_ret
  exact ⟨⟨(y : Int) - 2, by omega, by omega, rfl⟩, HD2.out⟩
end Go.Proofs.YtiamkmkbkehldaaGreatDoor

/-
  What is drawn is fine: few nodes with few keys and parts. Plain mathematics, and rows of rows while the reader turns.
-/
namespace Go.Proofs.YtiamkmkbkehldaaGreatDoor
open Go.RowKit
set_option linter.unusedSimpArgs false
set_option linter.unusedVariables false

structure FineN (c : Nat) (x : VN) : Prop where
  keysN : x.keys.length ≤ 3
  keysS : ∀ i, i < x.keys.length → (keyAt x.keys i).size ≤ 60
  kidsN : x.kids.length ≤ 3
  kids : ∀ j, j < x.kids.length → 0 ≤ intAt x.kids j ∧ intAt x.kids j < (c : Int)
  size : x.s.size ≤ 60
  kind : -9223372036854775808 ≤ x.kind ∧ x.kind ≤ 9223372036854775807
  num : -9223372036854775808 ≤ x.n ∧ x.n ≤ 9223372036854775807

def Fine (c : Nat) (vs : List VN) : Prop := 0 < vs.length ∧ vs.length ≤ c ∧ ∀ j, j < vs.length → FineN vs.length (nodeAt vs j)

theorem FineN.wide {c c' : Nat} {x : VN} (h : FineN c x) (hc : c ≤ c') : FineN c' x :=
  ⟨h.keysN, h.keysS, h.kidsN, fun j hj => by have := h.kids j hj; omega, h.size, h.kind, h.num⟩
theorem Fine.wide {c c' : Nat} {vs : List VN} (h : Fine c vs) (hc : c ≤ c') : Fine c' vs := ⟨h.1, by have := h.2.1; omega, h.2.2⟩

theorem intAt_shift (l : List Int) (d : Int) {j : Nat} (hj : j < l.length) : intAt (l.map (· + d)) j = intAt l j + d := by
  unfold intAt
  rw [List.getD_eq_getElem?_getD, List.getD_eq_getElem?_getD, List.getElem?_map, List.getElem?_eq_getElem hj]
  simp

theorem FineN.shift {c d c' : Nat} {x : VN} (h : FineN c x) (hc : c + d ≤ c') : FineN c' (shiftN (d : Int) x) := by
  refine ⟨h.keysN, h.keysS, by show (x.kids.map _).length ≤ 3; rw [List.length_map]; exact h.kidsN, fun j hj => ?_, h.size, h.kind, h.num⟩
  have hj' : j < x.kids.length := by have : j < (x.kids.map (· + (d : Int))).length := hj; rwa [List.length_map] at this
  have := h.kids j hj'
  show 0 ≤ intAt (x.kids.map (· + (d : Int))) j ∧ intAt (x.kids.map (· + (d : Int))) j < (c' : Int)
  rw [intAt_shift _ _ hj']
  omega

theorem nodeAt_l {xs ys : List VN} {i : Nat} (h : i < xs.length) : nodeAt (xs ++ ys) i = nodeAt xs i := by
  unfold nodeAt; rw [List.getD_eq_getElem?_getD, List.getD_eq_getElem?_getD, List.getElem?_append_left h]
theorem nodeAt_r {xs ys : List VN} {i : Nat} (h : xs.length ≤ i) : nodeAt (xs ++ ys) i = nodeAt ys (i - xs.length) := by
  unfold nodeAt; rw [List.getD_eq_getElem?_getD, List.getD_eq_getElem?_getD, List.getElem?_append_right h]
theorem nodeAt_sh {xs : List VN} {d : Int} {i : Nat} (h : i < xs.length) : nodeAt (xs.map (shiftN d)) i = shiftN d (nodeAt xs i) := by
  unfold nodeAt; rw [List.getD_eq_getElem?_getD, List.getD_eq_getElem?_getD, List.getElem?_map, List.getElem?_eq_getElem h]; rfl

theorem fine_cat {c m : Nat} {L : Nat → List VN} (h : ∀ i, i < m → Fine c (L i)) : ∀ i, i ≤ m → (catNs L i).length ≤ i * c ∧ ∀ j, j < (catNs L i).length → FineN (catNs L i).length (nodeAt (catNs L i) j) := by
  intro i
  induction i with
  | zero => intro _; exact ⟨by simp [catNs], fun j hj => absurd hj (by simp [catNs])⟩
  | succ i ih =>
    intro hi
    obtain ⟨h1, h2⟩ := ih (by omega)
    have hL := h i (by omega)
    have hl := catNs_len L i
    refine ⟨by rw [hl, Nat.succ_mul]; have := hL.2.1; omega, fun j hj => ?_⟩
    rw [hl] at hj ⊢
    show FineN _ (nodeAt (catNs L i ++ (L i).map (shiftN ((catNs L i).length : Int))) j)
    by_cases e : j < (catNs L i).length
    · rw [nodeAt_l e]; exact (h2 j e).wide (by omega)
    · rw [nodeAt_r (by omega), nodeAt_sh (by omega)]
      exact (hL.2.2 _ (by omega)).shift (by omega)

theorem catKs_at (L : Nat → List VN) : ∀ (m j : Nat), j < m → intAt (catKs L m) j = ((catNs L (j + 1)).length : Int) - 1 := by
  intro m
  induction m with
  | zero => intro j hj; omega
  | succ m ih =>
    intro j hj
    show intAt (catKs L m ++ [((catNs L (m + 1)).length : Int) - 1]) j = _
    by_cases e : j < m
    · have : intAt (catKs L m ++ [((catNs L (m + 1)).length : Int) - 1]) j = intAt (catKs L m) j := by
        unfold intAt; rw [List.getD_eq_getElem?_getD, List.getD_eq_getElem?_getD, List.getElem?_append_left (by rw [catKs_len]; exact e)]
      rw [this]; exact ih j e
    · obtain rfl : j = m := by omega
      unfold intAt
      rw [List.getD_eq_getElem?_getD, List.getElem?_append_right (by rw [catKs_len]; omega), catKs_len]
      simp

theorem fine_make {c m : Nat} {L : Nat → List VN} (h : ∀ i, i < m → Fine c (L i)) (hm : m ≤ 3) {kind : Int} (hk1 : 0 ≤ kind) (hk2 : kind ≤ 6) {keys : List ByteArray} (hk : keys.length ≤ 3) (hks : ∀ i, i < keys.length → (keyAt keys i).size ≤ 60) : Fine (3 * c + 1) (makeNs kind keys L m) := by
  obtain ⟨h1, h2⟩ := fine_cat h m (Nat.le_refl _)
  have hc : m * c ≤ 3 * c := Nat.mul_le_mul_right c hm
  have hl : (makeNs kind keys L m).length = (catNs L m).length + 1 := by unfold makeNs; simp
  refine ⟨by omega, by omega, fun j hj => ?_⟩
  rw [hl] at hj ⊢
  unfold makeNs
  by_cases e : j < (catNs L m).length
  · rw [nodeAt_l e]; exact (h2 j e).wide (by omega)
  · rw [nodeAt_r (by omega), show j - (catNs L m).length = 0 by omega]
    refine ⟨hk, hks, by show (catKs L m).length ≤ 3; rw [catKs_len]; exact hm, fun i hi => ?_, by show ByteArray.empty.size ≤ 60; decide, ⟨by show (-9223372036854775808 : Int) ≤ kind; omega, by show kind ≤ 9223372036854775807; omega⟩, by show (-9223372036854775808 : Int) ≤ 0 ∧ (0 : Int) ≤ 9223372036854775807; decide⟩
    have hi' : i < m := by have : i < (catKs L m).length := hi; rwa [catKs_len] at this
    show 0 ≤ intAt (catKs L m) i ∧ intAt (catKs L m) i < _
    rw [catKs_at L m i hi']
    have h3 := catNs_len L i
    have h4 := (h i hi').1
    have h5 := catNs_mono L (show i + 1 ≤ m by omega)
    omega

theorem Fine.few {c : Nat} {vs : List VN} (h : Fine c vs) (hc : c ≤ 80) : Few vs ∧ ∀ j, j < vs.length → Fits (nodeAt vs j) := by
  refine ⟨⟨by have := h.2.1; omega, fun i hi => ?_⟩, fun j hj => ?_⟩
  · have := h.2.2 i hi; exact ⟨by have := this.keysN; omega, by have := this.kidsN; omega⟩
  · have hx := h.2.2 j hj
    exact ⟨by have := hx.keysN; omega, fun i hi => by have := hx.keysS i hi; omega, by have := hx.kidsN; omega, fun i hi => by have := hx.kids i hi; have := h.2.1; omega, by have := hx.size; omega, hx.kind.1, hx.kind.2, hx.num.1, hx.num.2⟩
theorem Fine.near {c : Nat} {vs : List VN} (h : Fine c vs) (hc : c ≤ 80) : 0 < vs.length ∧ ∀ j, j < vs.length → Near (nodeAt vs j) := by
  refine ⟨h.1, fun j hj => ?_⟩
  have hx := h.2.2 j hj
  exact ⟨by have := hx.keysN; omega, by have := hx.kidsN; omega, fun i hi => by have := hx.kids i hi; have := h.2.1; omega⟩

theorem Drawn.from {rb n base : Nat} {w w' : World} (h : Drawn rb n w w') (hb : rb < base) : From base w w' := ⟨h.only.1, fun c h1 h2 => h.only.2 c h2 (by omega)⟩

/-- One row more, while blocks ahead of the rows may have turned: made in new memory, then appended. -/
theorem Rows2.snocF {base : Nat} {w w1 w5 : World} {v v' r : Value} {m : Nat} {L : Nat → List VN} {rs : Nat → Value} {KV IV : Nat → Nat → Value} {lo : Nat → Nat} {K I : Nat → Value} {o : Obj} (h : Rows2 base w v m L rs KV IV lo) (hb : From base w w1) (hn : Nest w.heap.size w1 r (L m) K I)
    (hown : w5.ownsRow base 24 1 v' (m + 1) ((List.range m).map rs ++ [r])) (hg : (w1.alloc o).grownBy w5 v.ownBlock) :
    Rows2 base w5 v' (m + 1) L (updF rs m r) (updF KV m K) (updF IV m I) (fun i => if i < m then lo i else if i = m then w.heap.size else w1.heap.size) := by
  have h1 := h.from hb
  have hg1 : w1.grownBy w5 v.ownBlock := (World.grownBy_alloc w1 o _).trans hg
  have hs := hb.1
  have hgs := hg1.size
  have kept : ∀ {b : Nat} {u : Value} {vs : List VN} {A C : Nat → Value}, Nest b w1 u vs A C → Nest b w5 u vs A C := fun hx => hx.kept hg1 (own_apart hx.row h1.row (by decide)) (fun i hi => own_apart (hx.rk i hi) h1.row (by decide)) (fun i hi => own_apart (hx.ri i hi) h1.row (by decide))
  refine ⟨by rw [range_map_snoc]; exact hown, fun i hi => ?_, fun i hi => ?_, fun i j hij hj => ?_, ?_, fun i hi x hx => ?_⟩
  · by_cases e : i = m
    · subst e
      simp only [updF_same, Nat.lt_irrefl, if_true, if_false]
      exact kept hn
    · simp only [updF_other _ _ e, if_pos (show i < m by omega)]
      exact kept (h1.nest i (by omega))
  · have hl := h.low m (Nat.le_refl _)
    have ht := h.top
    by_cases e : i < m
    · simp only [if_pos e]; exact h.low i (by omega)
    · by_cases e2 : i = m
      · simp only [if_neg e, if_pos e2]; omega
      · simp only [if_neg e, if_neg e2]; omega
  · have ht := h.top
    by_cases e : j < m
    · simp only [if_pos e, if_pos (show i < m by omega)]; exact h.mono i j hij (by omega)
    · by_cases e1 : i < m
      · have := h.mono i m (by omega) (Nat.le_refl _)
        by_cases e2 : j = m
        · simp only [if_pos e1, if_neg e, if_pos e2]; omega
        · simp only [if_pos e1, if_neg e, if_neg e2]; omega
      · by_cases e2 : j = m
        · simp only [if_neg e1, if_neg e, if_pos e2, if_pos (show i = m by omega)]; omega
        · by_cases e3 : i = m
          · simp only [if_neg e1, if_neg e, if_neg e2, if_pos e3]; omega
          · simp only [if_neg e1, if_neg e, if_neg e2, if_neg e3]; omega
  · simp only [if_neg (show ¬ m + 1 < m by omega), if_neg (show ¬ m + 1 = m by omega)]; omega
  · have ht := h.top
    by_cases e : i = m
    · subst e
      simp only [updF_same] at hx
      simp only [if_neg (show ¬ i + 1 < i by omega), if_neg (show ¬ i + 1 = i by omega)]
      exact (hn.inn hx).2
    · simp only [updF_other _ _ e] at hx
      have := h.inn i (by omega) x hx
      by_cases e2 : i + 1 < m
      · simp only [if_pos e2]; exact this
      · obtain e3 : i + 1 = m := by omega
        rw [e3] at this
        simp only [if_neg e2, if_pos e3]; omega

end Go.Proofs.YtiamkmkbkehldaaGreatDoor

/-
  One node alone, in new memory.
-/
namespace Go.Proofs.YtiamkmkbkehldaaGreatDoor
open Go.RowKit
set_option linter.unusedSimpArgs false
set_option linter.unusedVariables false

def leafN (kind n : Int) (s : ByteArray) : List VN := [{ kind := kind, n := n, s := s, keys := [], kids := [] }]

theorem leaf_nest (w : World) (kind n : Int) (s : ByteArray) : Nest w.heap.size (w.alloc (.cells #[.int .i64 kind, .int .i64 n, .string s, .slice none 0 0, .slice none 0 0] 73)) (.slice (some ⟨w.heap.size, 0, none⟩) 1 1) (leafN kind n s) (fun _ => .slice none 0 0) (fun _ => .slice none 0 0) := by
  refine ⟨?_, fun i hi => ?_, fun i hi => ?_, fun i j hi hj hne => ?_, fun i j hi hj hne => ?_⟩
  · have := World.ownsRow_lit (base := w.heap.size) (e := 73) (size := 5) w #[.int .i64 kind, .int .i64 n, .string s, .slice none 0 0, .slice none 0 0] 1 (Nat.le_refl _) (by simp [maxLen]) rfl
    have eu : upd (fun _ => Value.slice none 0 0) 0 (.slice none 0 0) = fun _ => .slice none 0 0 := by funext i; unfold upd; split <;> rfl
    have e : nestCells (leafN kind n s) (fun _ => .slice none 0 0) (fun _ => .slice none 0 0) = [.int .i64 kind, .int .i64 n, .string s, .slice none 0 0, .slice none 0 0] := by
      have h := nestCells_snoc [] { kind := kind, n := n, s := s, keys := [], kids := [] } (fun _ => .slice none 0 0) (fun _ => .slice none 0 0) (.slice none 0 0) (.slice none 0 0)
      simp only [List.length_nil, eu, List.nil_append] at h
      exact h
    rw [e]
    exact this
  · obtain rfl : i = 0 := by simp [leafN] at hi; omega
    exact World.ownsRow_nil _ _ _ _
  · obtain rfl : i = 0 := by simp [leafN] at hi; omega
    exact World.ownsRow_nil _ _ _ _
  · simp [leafN] at hi hj; omega
  · simp [leafN] at hi hj; omega
end Go.Proofs.YtiamkmkbkehldaaGreatDoor

/-
  Values of one node, as they are drawn.
-/
namespace Go.Proofs.YtiamkmkbkehldaaGreatDoor
open Go.RowKit
set_option linter.unusedSimpArgs false
set_option linter.unusedVariables false

theorem leaf_fine {kind n : Int} {s : ByteArray} (h1 : 0 ≤ kind) (h2 : kind ≤ 6) (h3 : -10000000000000000 ≤ n) (h4 : n ≤ 10000000000000000) (h5 : s.size ≤ 60) : Fine 1 (leafN kind n s) := by
  refine ⟨by simp [leafN], by simp [leafN], fun j hj => ?_⟩
  obtain rfl : j = 0 := by simp [leafN] at hj; omega
  exact ⟨by show 0 ≤ 3; omega, fun i hi => absurd hi (by show ¬ i < 0; omega), by show 0 ≤ 3; omega, fun i hi => absurd hi (by show ¬ i < 0; omega), h5, ⟨by show _ ≤ kind; omega, by show kind ≤ _; omega⟩, ⟨by show _ ≤ n; omega, by show n ≤ _; omega⟩⟩

set_option maxHeartbeats 800000 in
theorem l1Null_any (w : World) : Calls Tryz.prog 94 #[] w fun e w' => ∃ r vs KV IV, e = .returned r ∧ Fine 1 vs ∧ Nest w.heap.size w' r vs KV IV ∧ Below w.heap.size w w' := by
  go_enter Tryz.func94, Tryz.ntmps94
  go_wp2_with fail
  go_ret
  exact ⟨_, leafN 1 0 ByteArray.empty, _, _, rfl, leaf_fine (by omega) (by omega) (by omega) (by omega) (by decide), leaf_nest w 1 0 ByteArray.empty, (Below.refl _ _).alloc (Nat.le_refl _) _⟩

set_option maxHeartbeats 800000 in
theorem l1Bool_any (b : Bool) (w : World) : Calls Tryz.prog 95 #[.bool b] w fun e w' => ∃ r vs KV IV, e = .returned r ∧ Fine 1 vs ∧ Nest w.heap.size w' r vs KV IV ∧ Below w.heap.size w w' := by
  cases b
  · go_enter Tryz.func95, Tryz.ntmps95
    go_wp2_with fail
    go_ret
    exact ⟨_, leafN 2 0 ByteArray.empty, _, _, rfl, leaf_fine (by omega) (by omega) (by omega) (by omega) (by decide), leaf_nest w 2 0 ByteArray.empty, (Below.refl _ _).alloc (Nat.le_refl _) _⟩
  · go_enter Tryz.func95, Tryz.ntmps95
    go_wp2_with fail
    go_ret
    exact ⟨_, leafN 2 1 ByteArray.empty, _, _, rfl, leaf_fine (by omega) (by omega) (by omega) (by omega) (by decide), leaf_nest w 2 1 ByteArray.empty, (Below.refl _ _).alloc (Nat.le_refl _) _⟩

set_option maxHeartbeats 800000 in
theorem l1Number_any (n : Int) (w : World) (h3 : -10000000000000000 ≤ n) (h4 : n ≤ 10000000000000000) : Calls Tryz.prog 96 #[.int .i64 n] w fun e w' => ∃ r vs KV IV, e = .returned r ∧ Fine 1 vs ∧ Nest w.heap.size w' r vs KV IV ∧ Below w.heap.size w w' := by
  go_enter Tryz.func96, Tryz.ntmps96
  go_wp2_with fail
  go_ret
  exact ⟨_, leafN 3 n ByteArray.empty, _, _, rfl, leaf_fine (by omega) (by omega) (by omega) (by omega) (by decide), leaf_nest w 3 n ByteArray.empty, (Below.refl _ _).alloc (Nat.le_refl _) _⟩

set_option maxHeartbeats 800000 in
theorem l1Word_any (s : ByteArray) (w : World) (hs : s.size ≤ 60) : Calls Tryz.prog 98 #[.string s] w fun e w' => ∃ r vs KV IV, e = .returned r ∧ Fine 1 vs ∧ Nest w.heap.size w' r vs KV IV ∧ Below w.heap.size w w' := by
  go_enter Tryz.func98, Tryz.ntmps98
  go_wp2_with fail
  go_ret
  exact ⟨_, leafN 4 0 s, _, _, rfl, leaf_fine (by omega) (by omega) (by omega) (by omega) hs, leaf_nest w 4 0 s, (Below.refl _ _).alloc (Nat.le_refl _) _⟩
end Go.Proofs.YtiamkmkbkehldaaGreatDoor
