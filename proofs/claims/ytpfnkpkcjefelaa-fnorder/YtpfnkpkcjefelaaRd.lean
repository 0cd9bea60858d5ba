/-
  The reader of codes from which values are drawn: what each draw may answer, and that it turns nothing but its own place.
-/
import Derived.Test.YtpfnkpkcjefelaaMark
import Derived.Test.YtpfnkpkcjefelaaProg
import Derived.BigQuiet
namespace Go.Proofs.Ytpfnkpkcjefelaa
open Go.RowKit
set_option linter.unusedSimpArgs false
set_option linter.unusedVariables false

/-- A reader in block rb, of n bytes, at place p. -/
structure RdAt (w : World) (rb n p : Nat) : Prop where
  lt : rb < w.heap.size
  src : ∃ a cap, w.cell? ⟨rb, 0, none⟩ = some (.slice a n cap) ∧ (0 < n → ∃ b o, a = some ⟨b, o, none⟩ ∧ b < rb ∧ ∀ i, i < n → ∃ x : Nat, x < 256 ∧ w.cell? ⟨b, o + i, none⟩ = some (.int .u8 x))
  place : w.cell? ⟨rb, 1, none⟩ = some (.int .i64 p)
  le : p ≤ n
  few : n ≤ 1048576
  free : w.frozen? ⟨rb, 1, none⟩ = false

/-- What a draw leaves: the reader at some place, nothing else turned. -/
structure Drawn (rb n : Nat) (w w' : World) : Prop where
  rd : ∃ p, RdAt w' rb n p
  only : Only (fun c => c = rb) w w'
  below : Below rb w w'

theorem frozen_same {w w' : World} {b o : Nat} (h : w'.heap[b]? = w.heap[b]?) : w'.frozen? ⟨b, o, none⟩ = w.frozen? ⟨b, o, none⟩ := by
  unfold World.frozen?
  rw [show w'.heap[(⟨b, o, none⟩ : Addr).block]? = w.heap[(⟨b, o, none⟩ : Addr).block]? from h]

theorem RdAt.below {w w' : World} {rb n p : Nat} (h : RdAt w rb n p) (hb : Below w.heap.size w w') : RdAt w' rb n p := by
  have hl := h.lt
  refine ⟨by have := hb.size; omega, ?_, (below_cell hb hl).trans h.place, h.le, h.few, (frozen_same (hb.block rb hl)).trans h.free⟩
  obtain ⟨a, cap, h1, h2⟩ := h.src
  refine ⟨a, cap, (below_cell hb hl).trans h1, fun hp => ?_⟩
  obtain ⟨b, o, e, hlt, hx⟩ := h2 hp
  exact ⟨b, o, e, hlt, fun i hi => by obtain ⟨x, h3, h4⟩ := hx i hi; exact ⟨x, h3, (below_cell hb (by omega)).trans h4⟩⟩

theorem RdAt.step {w : World} {rb n p : Nat} (h : RdAt w rb n p) (hp : p < n) : RdAt (w.setCell ⟨rb, 1, none⟩ (.int .i64 ((p + 1 : Nat) : Int))) rb n (p + 1) := by
  refine ⟨by simpa using h.lt, ?_, World.cell?_setCell_same _ _ _ h.place, by omega, h.few, by rw [World.frozen?_setCell]; exact h.free⟩
  obtain ⟨a, cap, h1, h2⟩ := h.src
  refine ⟨a, cap, by rw [World.cell?_setCell_other (h := by simp)]; exact h1, fun hp => ?_⟩
  obtain ⟨b, o, e, hlt, hx⟩ := h2 hp
  refine ⟨b, o, e, hlt, fun i hi => ?_⟩
  obtain ⟨x, h3, h4⟩ := hx i hi
  exact ⟨x, h3, by rw [World.cell?_setCell_other (h := by intro e2; injection e2 with e3; omega)]; exact h4⟩

theorem Drawn.refl {rb n p : Nat} {w : World} (h : RdAt w rb n p) : Drawn rb n w w := ⟨⟨p, h⟩, Only.refl _ _, Below.refl _ _⟩
theorem Drawn.trans {rb n : Nat} {a b c : World} (h : Drawn rb n a b) (k : Drawn rb n b c) : Drawn rb n a c := ⟨k.rd, h.only.trans k.only, h.below.trans k.below⟩
theorem Drawn.next {rb n : Nat} {a b c : World} (h : Drawn rb n a b) (k : Below b.heap.size b c) : Drawn rb n a c := by
  obtain ⟨p, hp⟩ := h.rd
  exact ⟨⟨p, hp.below k⟩, h.only.trans (Only.of_below k), h.below.trans (k.mono (Nat.le_of_lt hp.lt))⟩

set_option maxRecDepth 100000 in
set_option maxHeartbeats 1600000 in
theorem rdNext_any (rb n p : Nat) (w : World) (h : RdAt w rb n p) :
    Calls Try.prog 96 #[.pointer (some ⟨rb, 0, none⟩)] w fun e w' => (∃ x : Nat, x < 256 ∧ e = .returned (.int .i64 x)) ∧ Drawn rb n w w' := by
  have H := hideIt h
  obtain ⟨a, cap, h1, h2⟩ := h.src
  have h3 := h.place
  have h4 := h.le
  have h5 := h.few
  have h6 := h.lt
  have HS := hideIt h2
  clear h h2
  by_cases hp : p < n
  · obtain ⟨b, o, rfl, hlt, hx⟩ := HS.out (by omega)
    obtain ⟨x, hx1, hx2⟩ := hx p hp
    have hfz := H.out.free
    clear hx
    go_enter Try.func96, Try.ntmps96
    go_wp2_with fail
    go_quiet (fail)
    have hd1 := below_drewN (Below.refl w.heap.size w) nq
    have HR1 := hideIt (H.out.below hd1)
    have k1 : (w.drewN nq).cell? ⟨rb, 1, none⟩ = some (.int .i64 p) := HR1.out.place
    have k2 : (w.drewN nq).frozen? ⟨rb, 1, none⟩ = false := HR1.out.free
    have k3 := (below_cell hd1 (by omega)).trans h1
    have k4 := (below_cell hd1 (by omega)).trans hx2
    have HD1 := hideIt hd1
    generalize w.drewN nq = W1 at hd1 HR1 HD1 k1 k2 k3 k4 ⊢
    clear nq h3 h1 hx2 hfz hd1
    have z1 := HD1.out.size
    go_wp2_with fail
    have HR2 := hideIt (HR1.out.step hp)
    have l1 : (W1.setCell ⟨rb, 1, none⟩ (.int .i64 ((p : Int) + 1))).cell? ⟨rb, 1, none⟩ = some (.int .i64 ((p : Int) + 1)) := World.cell?_setCell_same _ _ _ k1
    have l3 : (W1.setCell ⟨rb, 1, none⟩ (.int .i64 ((p : Int) + 1))).cell? ⟨rb, 0, none⟩ = some (.slice (some ⟨b, o, none⟩) n cap) := by rw [World.cell?_setCell_other (h := by simp)]; exact k3
    have l4 : (W1.setCell ⟨rb, 1, none⟩ (.int .i64 ((p : Int) + 1))).cell? ⟨b, o + p, none⟩ = some (.int .u8 x) := by rw [World.cell?_setCell_other (h := by intro e2; injection e2 with e3; omega)]; exact k4
    have HDR : Hid (Drawn rb n w (W1.setCell ⟨rb, 1, none⟩ (.int .i64 ((p : Int) + 1)))) := by
      refine ⟨⟨p + 1, HR2.out⟩, (Only.of_below HD1.out).trans (Only.set (P := fun c => c = rb) _ rfl _), (HD1.out.mono (Nat.le_of_lt h6)).setCell (Nat.le_refl _) _⟩
    have p1 : (p : Int) + 1 - 1 = (p : Int) := by omega
    clear HR2
    generalize W1.setCell ⟨rb, 1, none⟩ (.int .i64 ((p : Int) + 1)) = W2 at l1 l3 l4 HDR ⊢
    clear k1 k2 k3 k4 HD1 HR1
    go_quiet (fail)
    go_wp2_with fail
    go_ret
    exact ⟨⟨x, hx1, by simp⟩, HDR.out.next (below_drewN (Below.refl _ _) nq)⟩
  · have hnp : ¬ ((p : Int) < (n : Int)) := by omega
    go_enter Try.func96, Try.ntmps96
    go_wp2_with fail
    go_quiet (fail)
    go_wp2_with fail
    go_ret
    exact ⟨⟨0, by omega, rfl⟩, (Drawn.refl H.out).next (below_drewN (Below.refl _ _) nq)⟩

/-! ### Draws of numbers below a bound, and of yes or no -/
set_option maxRecDepth 100000 in
set_option maxHeartbeats 1600000 in
theorem rdBelow_any (rb n m : Nat) (w : World) (h : ∃ p, RdAt w rb n p) (hm : 1 ≤ m) (hM : m ≤ 1048577) :
    Calls Try.prog 68 #[.pointer (some ⟨rb, 0, none⟩), .int .i64 m] w fun e w' => (∃ x : Nat, x < m ∧ e = .returned (.int .i64 x)) ∧ Drawn rb n w w' := by
  obtain ⟨p, h⟩ := h
  have H := hideIt h
  clear h
  by_cases h1 : m ≤ 1
  · have h1' : (m : Int) ≤ 1 := by omega
    go_enter Try.func68, Try.ntmps68
    go_wp2_with fail
    go_ret
    exact ⟨⟨0, by omega, rfl⟩, Drawn.refl H.out⟩
  · have h1' : ¬ (m : Int) ≤ 1 := by omega
    have hm0 : ¬ (m : Int) = 0 := by omega
    have hmb : ((m : Int) == 0) = false := by simp; omega
    by_cases h2 : m ≤ 256
    · have h2' : (m : Int) ≤ 256 := by omega
      go_enter Try.func68, Try.ntmps68
      go_wp2_with fail
      refine (rdNext_any rb n p w H.out).mono ?_
      rintro e w1 ⟨⟨x, hx, rfl⟩, hd⟩
      have HD := hideIt hd
      clear hd
      go_wp2_with fail
      go_ret
      exact ⟨⟨x % m, Nat.mod_lt _ (by omega), by simp⟩, HD.out⟩
    · have h2' : ¬ (m : Int) ≤ 256 := by omega
      go_enter Try.func68, Try.ntmps68
      go_wp2_with fail
      refine (rdNext_any rb n p w H.out).mono ?_
      rintro e w1 ⟨⟨x, hx, rfl⟩, hd⟩
      have HD := hideIt hd
      obtain ⟨p2, hp2⟩ := hd.rd
      have H2 := hideIt hp2
      clear hd hp2
      go_wp2_with fail
      refine (rdNext_any rb n p2 w1 H2.out).mono ?_
      rintro e w2 ⟨⟨y, hy, rfl⟩, hd2⟩
      have HD2 := hideIt (HD.out.trans hd2)
      clear hd2
      go_wp2_with fail
      go_ret
      exact ⟨⟨(x * 256 + y) % m, Nat.mod_lt _ (by omega), by simp⟩, HD2.out⟩

set_option maxRecDepth 100000 in
set_option maxHeartbeats 1600000 in
theorem rdOnce_any (rb n m : Nat) (w : World) (h : ∃ p, RdAt w rb n p) (hm : 1 ≤ m) (hM : m ≤ 1048577) :
    Calls Try.prog 49 #[.pointer (some ⟨rb, 0, none⟩), .int .i64 m] w fun e w' => (∃ x : Bool, e = .returned (.bool x)) ∧ Drawn rb n w w' := by
  have H := hideIt h
  clear h
  go_enter Try.func49, Try.ntmps49
  go_wp2_with fail
  refine (rdBelow_any rb n m w H.out hm hM).mono ?_
  rintro e w1 ⟨⟨x, hx, rfl⟩, hd⟩
  have HD := hideIt hd
  clear hd
  go_wp2_with fail
  go_ret
  exact ⟨⟨_, rfl⟩, HD.out⟩
end Go.Proofs.Ytpfnkpkcjefelaa
