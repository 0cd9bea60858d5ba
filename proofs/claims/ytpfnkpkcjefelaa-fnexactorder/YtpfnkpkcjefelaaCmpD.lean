/-
  impl.compared: two values of unlike kinds.
-/
import Derived.Test.YtpfnkpkcjefelaaCmpF
namespace Go.Proofs.Ytpfnkpkcjefelaa
open Go.RowKit
set_option linter.unusedSimpArgs false
set_option linter.unusedVariables false

set_option maxRecDepth 100000 in
set_option maxHeartbeats 6400000 in
theorem compared_diff (lo B lo' B' f f' n m : Nat) (us vs : List VN) (v v' : Value) (w : World) (h1 : ValG lo B w us f n v) (h2 : ValG lo' B' w vs f' m v') (hne : (nodeAt us n).kind ≠ (nodeAt vs m).kind) :
    Calls Try.prog 52 #[v, v'] w fun e w' => e = .returned (.int .i64 (cmpI (nodeAt us n).kind (nodeAt vs m).kind)) ∧ Below w.heap.size w w' := by
  cases f with
  | zero => exact h1.elim
  | succ f =>
  cases f' with
  | zero => exact h2.elim
  | succ f' =>
  rcases h1 with ⟨k1, rfl⟩ | ⟨k1, rfl⟩ | ⟨k1, rfl⟩ | ⟨k1, rfl⟩ | ⟨k1, _, rfl, a1, p1, rfl, _⟩ | ⟨k1, _, _, rfl, ⟨_, _, b1, q1, rfl, _⟩, a1, p1, rfl, _⟩ <;>
  rcases h2 with ⟨k2, rfl⟩ | ⟨k2, rfl⟩ | ⟨k2, rfl⟩ | ⟨k2, rfl⟩ | ⟨k2, _, rfl, a2, p2, rfl, _⟩ | ⟨k2, _, _, rfl, ⟨_, _, b2, q2, rfl, _⟩, a2, p2, rfl, _⟩ <;>
  first
  | exact absurd (k1.trans k2.symm) hne
  | (rw [k1, k2]
     clear hne k1 k2
     go_enter Try.func52, Try.ntmps52
     go_wp2_with fail
     first | refine (kind1_any _).mono ?_ | refine (kind2_any _ _).mono ?_ | refine (kind3_any _ _).mono ?_ | refine (kind4_any _ _).mono ?_ | refine (kind5_any _ _ _ _).mono ?_ | refine (kind6_any _ _ _ _ _ _ _).mono ?_
     rintro e w1 ⟨rfl, hb1⟩
     go_wp2_with fail
     first | refine (kind1_any _).mono ?_ | refine (kind2_any _ _).mono ?_ | refine (kind3_any _ _).mono ?_ | refine (kind4_any _ _).mono ?_ | refine (kind5_any _ _ _ _).mono ?_ | refine (kind6_any _ _ _ _ _ _ _).mono ?_
     rintro e w2 ⟨rfl, hb2⟩
     go_wp2_with fail
     refine (cmpInt_any _ _ _).mono ?_
     rintro e w3 ⟨rfl, rfl⟩
     go_wp2_with fail
     go_ret
     exact ⟨rfl, hb1.trans (hb2.mono hb1.size)⟩)
end Go.Proofs.Ytpfnkpkcjefelaa
