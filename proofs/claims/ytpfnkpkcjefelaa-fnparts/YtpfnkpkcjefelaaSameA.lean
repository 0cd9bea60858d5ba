/-
  The law's comparison of two rows of rows of nodes; and the draw of a value with a place in it.
-/
import Derived.Test.YtpfnkpkcjefelaaSame
import Derived.Test.YtpfnkpkcjefelaaSortP
import Derived.Test.YtpfnkpkcjefelaaBigC
namespace Go.Proofs.Ytpfnkpkcjefelaa
open Go.RowKit
set_option linter.unusedSimpArgs false
set_option linter.unusedVariables false

/-- Two rows of rows are the same. -/
def SameRows (m n : Nat) (L L' : Nat → List VN) : Prop := m = n ∧ ∀ i, i < m → L i = L' i

set_option maxRecDepth 100000 in
set_option maxHeartbeats 1600000 in
theorem sameAll_any (B : Nat) (u1 u2 : Value) (m n : Nat) (L L' : Nat → List VN) (w : World) (h1 : RowsAt B w u1 m L) (h2 : RowsAt B w u2 n L') (hB : B ≤ w.heap.size) :
    Calls Try.prog 24 #[u1, u2] w fun e w' => (∃ b, e = .returned (.bool b) ∧ (b = true ↔ SameRows m n L L')) ∧ Below w.heap.size w w' := by
  obtain ⟨hm, a1, c1, rfl, hc1⟩ := h1
  obtain ⟨hn, a2, c2, rfl, hc2⟩ := h2
  have HC1 := hideIt hc1
  have HC2 := hideIt hc2
  clear hc1 hc2
  by_cases hl : m = n
  case neg =>
    have hne : ((m : Int) != (n : Int)) = true := by simp; omega
    have HO : Hid (¬ SameRows m n L L') := fun e => hl e.1
    clear hl
    go_enter Try.func24, Try.ntmps24
    go_wp2_with fail
    go_ret
    exact ⟨ret_no HO.out, Below.refl _ _⟩
  case pos =>
  subst hl
  have hne : ((m : Int) != (m : Int)) = false := by simp
  go_enter Try.func24, Try.ntmps24
  go_wp2_with fail
  go_loopw [5] (fun i wr => ∃ k : Nat, k ≤ m ∧ i = .int .i64 k ∧ Hid (∀ j, j < k → L j = L' j) ∧ Below w.heap.size w wr) (fun i _ => m - (intOf i).toNat)
  case atStart => exact ⟨0, Nat.zero_le _, rfl, fun j hj => absurd hj (by omega), Below.refl _ _⟩
  case round =>
    obtain ⟨k, hk, rfl, HE, hbel⟩ := hrel
    have zs := hbel.size
    by_cases hlt : k < m
    case neg =>
      have HO : Hid (SameRows m m L L') := ⟨rfl, fun j hj => HE.out j (by omega)⟩
      go_wp2_with fail
      go_ret
      exact ⟨⟨true, rfl, by simp only [true_iff]; exact HO.out⟩, hbel⟩
    case pos =>
    obtain ⟨b1, rfl, hb1, hr1⟩ := HC1.out (by omega)
    obtain ⟨b2, rfl, hb2, hr2⟩ := HC2.out (by omega)
    obtain ⟨r1, e1, n1⟩ := hr1 k hlt
    obtain ⟨r2, e2, n2⟩ := hr2 k hlt
    have f1 := (below_cell hbel (show b1 < w.heap.size by omega)).trans e1
    have f2 := (below_cell hbel (show b2 < w.heap.size by omega)).trans e2
    have HN1 := hideIt (n1.below (hbel.mono hB))
    have HN2 := hideIt (n2.below (hbel.mono hB))
    obtain ⟨_, ar1, cr1, rfl, _⟩ := n1
    obtain ⟨_, ar2, cr2, rfl, _⟩ := n2
    clear hr1 hr2 e1 e2
    go_wp2_with fail
    go_region_with (go_at_call 19; refine (same_any B _ _ (L k) (L' k) _ ?_ ?_ ?_).mono ?_; exact HN1.out.below (bsame rfl rfl rfl rfl); exact HN2.out.below (bsame rfl rfl rfl rfl); exact (by simp; omega); rintro e w1 ⟨⟨b, rfl, hb⟩, hq⟩)
    all_goals
      have HB1 : Hid (Below w.heap.size w w1) := hbel.drew.trans (hq.mono (by simpa using zs))
      have HBB := hideIt hb
      clear hb hq
      cases b
      · have HO : Hid (¬ SameRows m m L L') := fun e => by
          have := HBB.out.2 (e.2 k hlt)
          cases this
        go_wp2_with fail
        go_ret
        exact ⟨ret_no HO.out, HB1.out⟩
      · have HE2 : Hid (∀ j, j < k + 1 → L j = L' j) := fun j hj => by
          by_cases e : j = k
          · subst e; exact HBB.out.1 rfl
          · exact HE.out j (by omega)
        go_wp2_with fail
        go_roundw
        case rel => exact ⟨k + 1, by omega, by go_num, HE2, HB1.out⟩
        case measure => simp [intOf]; omega

set_option maxHeartbeats 800000 in
theorem drawPartOf_any (B : Nat) (v : Value) (n : Nat) (w : World) (h : CodeAt B w v n) (hB : B ≤ w.heap.size) :
    Calls Try.prog 20 #[v] w fun e w' => ∃ r vs KV IV q, e = .returned (.tuple #[r, .int .i64 q]) ∧ -9223372036854775808 ≤ q ∧ q ≤ 9223372036854775807 ∧ Fine 40 vs ∧ Nest w.heap.size w' r vs KV IV ∧ Below w.heap.size w w' := by
  have H := hideIt h
  obtain ⟨_, a, cap, rfl, _⟩ := h
  go_enter Try.func20, Try.ntmps20
  go_wp2_with fail
  refine (l1Open_any B _ n w H.out hB).mono ?_
  rintro e w1 ⟨rfl, hr, hb⟩
  have HR := hideIt hr
  have HB := hideIt hb
  have z1 := hb.size
  have hw1 : w.heap.size < w1.heap.size := hr.lt
  clear hr hb
  go_wp2_with fail
  refine (rdMaybe_any w.heap.size n w1 ⟨0, HR.out⟩).mono ?_
  rintro e w2 ⟨⟨r, vs, KV, IV, rfl, hf, hn⟩, hd⟩
  have HF := hideIt hf
  have HN := hideIt hn
  have HD := hideIt hd
  have hl1 : 0 < vs.length := hf.1
  have hl2 : vs.length ≤ 40 := hf.2.1
  obtain ⟨ar, cr, er⟩ := own_slice hn.row
  obtain ⟨M, hM⟩ : ∃ M, vs.length = M := ⟨_, rfl⟩
  rw [hM] at er hl1 hl2
  subst er
  clear hf hn hd hM
  go_wp2_with fail
  refine (rdOff_any w.heap.size n 0 ((M : Int) - 1) w2 HD.out.rd (by omega) (by omega) (by omega)).mono ?_
  rintro e w3 ⟨⟨q, hq1, hq2, rfl⟩, hd3⟩
  have HN3 := hideIt ((HN.out.from (hd3.from hw1)).low z1)
  have HB3 := hideIt (HB.out.trans (HD.out.trans hd3).below)
  clear hd3
  go_wp2_with fail
  go_ret2
  exact ⟨_, vs, KV, IV, q, rfl, hq1, hq2, HF.out, HN3.out, HB3.out⟩
end Go.Proofs.Ytpfnkpkcjefelaa
