/-
  spec.PartOf: nothing where the value is not right or there is no such node, else the nodes of the part.
-/
import Derived.Test.YtpfnkpkcjefelaaPartP
namespace Go.Proofs.Ytpfnkpkcjefelaa
open Go.RowKit
set_option linter.unusedSimpArgs false
set_option linter.unusedVariables false

set_option maxRecDepth 100000 in
set_option maxHeartbeats 1600000 in
theorem specPartOf_no (B : Nat) (v : Value) (vs : List VN) (n : Int) (w : World) (h : NodesAt B w v vs) (hB : B ≤ w.heap.size) (hno : partB vs n = false) :
    Calls Try.prog 22 #[v, .int .i64 n] w fun e w' => e = .returned (.tuple #[.slice none 0 0, .bool false]) ∧ Below w.heap.size w w' := by
  have HV := hideIt h
  have hl := h.1
  obtain ⟨_, a, cap, rfl, _⟩ := h
  unfold partB at hno
  go_enter Try.func22, Try.ntmps22
  go_wp2_with fail
  refine (specOk_any B _ vs _ HV.out hB).mono ?_
  rintro e w1 ⟨rfl, hb1⟩
  cases ok1 : okB vs
  · go_wp2_with fail
    go_ret2
    exact ⟨rfl, hb1⟩
  · rw [ok1, Bool.true_and] at hno
    go_wp2_with fail
    refine (l1In_any _ _ _ _).mono ?_
    rintro e w2 ⟨rfl, rfl⟩
    rw [hno]
    go_wp2_with fail
    go_ret2
    exact ⟨rfl, hb1⟩

set_option maxRecDepth 100000 in
set_option maxHeartbeats 1600000 in
theorem specPartOf_yes (B : Nat) (v : Value) (vs : List VN) (n : Nat) (w : World) (h : NodesAt B w v vs) (hB : B ≤ w.heap.size) (hok : okB vs = true) (hn : n < vs.length) :
    Calls Try.prog 22 #[v, .int .i64 n] w fun e w' => ∃ r base KV IV, e = .returned (.tuple #[r, .bool true]) ∧ w.heap.size ≤ base ∧ Nest base w' r (partOf vs n) KV IV ∧ Below w.heap.size w w' := by
  have HV := hideIt h
  have hl := h.1
  obtain ⟨_, a, cap, rfl, _⟩ := h
  have hin : inB n 0 ((vs.length : Int) - 1) = true := by simp [inB]; omega
  obtain ⟨p1, _, p3, _⟩ := okB_parts hok
  have HKF := hideIt (keys_few hok)
  obtain ⟨⟨a0, h0⟩, htr⟩ := p3 n hn
  have HTR := hideIt htr
  have HP : Hid (partOf vs n = run vs (-(a0 : Int)) a0 (n + 1 - a0)) := by rw [Hid, partOf, htr]; simp [trF]
  clear p3 htr
  go_enter Try.func22, Try.ntmps22
  go_wp2_with fail
  refine (specOk_any B _ vs _ HV.out hB).mono ?_
  rintro e w1 ⟨rfl, hb1⟩
  rw [hok]
  have z1 := hb1.size
  go_wp2_with fail
  refine (l1In_any _ _ _ _).mono ?_
  rintro e w2 ⟨rfl, hw2⟩
  subst hw2
  rw [hin]
  go_wp2_with fail
  refine (l1Part_any B _ vs n a0 h0 _ (HV.out.below (hb1.mono hB)) (by omega) p1.2 HKF.out hn HTR.out).mono ?_
  rintro e w3 ⟨r, KV, IV, rfl, hnest, hb3⟩
  have HN := hideIt hnest
  obtain ⟨ar, cr, rfl⟩ := own_slice hnest.row
  clear hnest
  go_wp2_with fail
  go_ret2
  exact ⟨_, _, KV, IV, rfl, z1, by rw [HP.out]; exact HN.out, hb1.trans (hb3.mono z1)⟩
end Go.Proofs.Ytpfnkpkcjefelaa
