/-
  impl.Order: -2 where one of the two is not right, else the order of their values.
-/
import Derived.Test.YtpfnkpkcjefelaaComp
import Derived.Test.YtpfnkpkcjefelaaVOf
namespace Go.Proofs.Ytpfnkpkcjefelaa
open Go.RowKit
set_option linter.unusedSimpArgs false
set_option linter.unusedVariables false

set_option maxRecDepth 100000 in
set_option maxHeartbeats 3200000 in
theorem implOrder_any (B : Nat) (v1 v2 : Value) (us vs : List VN) (w : World) (h1 : NodesAt B w v1 us) (h2 : NodesAt B w v2 vs) (hB : B ≤ w.heap.size) :
    Calls Try.prog 15 #[v1, v2] w fun e w' => e = .returned (.int .i64 (orderOf us vs)) ∧ Below w.heap.size w w' := by
  have H1 := hideIt h1
  have H2 := hideIt h2
  obtain ⟨_, a1, c1, rfl, _⟩ := h1
  obtain ⟨_, a2, c2, rfl, _⟩ := h2
  go_enter Try.func15, Try.ntmps15
  go_wp2_with fail
  cases ok1 : okB us
  · have HO := hideIt (orderOf_left (vs := vs) ok1)
    refine (valueOf_no B _ us _ H1.out hB ok1).mono ?_
    rintro e w1 ⟨rfl, hb1⟩
    have z1 := hb1.size
    go_wp2_with fail
    cases ok2 : okB vs
    · refine (valueOf_no B _ vs _ (H2.out.below (hb1.mono hB)) (by omega) ok2).mono ?_
      rintro e w2 ⟨rfl, hb2⟩
      go_wp2_with fail
      go_ret
      exact ⟨ret_int HO.out.symm, Below.next hb1 hb2⟩
    · refine (valueOf_yes B _ vs _ (H2.out.below (hb1.mono hB)) (by omega) ok2).mono ?_
      rintro e w2 ⟨lo2, t2, x2, rfl, _, _, _, hb2⟩
      go_wp2_with fail
      go_ret
      exact ⟨ret_int HO.out.symm, Below.next hb1 hb2⟩
  · refine (valueOf_yes B _ us _ H1.out hB ok1).mono ?_
    rintro e w1 ⟨lo1, t1, x1, rfl, hl1, hl1', hv1, hb1⟩
    have HV1 := hideIt hv1
    have z1 := hb1.size
    clear hv1
    go_wp2_with fail
    cases ok2 : okB vs
    · have HO := hideIt (orderOf_right (us := us) ok2)
      refine (valueOf_no B _ vs _ (H2.out.below (hb1.mono hB)) (by omega) ok2).mono ?_
      rintro e w2 ⟨rfl, hb2⟩
      go_wp2_with fail
      go_ret
      exact ⟨ret_int HO.out.symm, Below.next hb1 hb2⟩
    · have HO := hideIt (orderOf_yes ok1 ok2)
      refine (valueOf_yes B _ vs _ (H2.out.below (hb1.mono hB)) (by omega) ok2).mono ?_
      rintro e w2 ⟨lo2, t2, x2, rfl, hl2, hl2', hv2, hb2⟩
      have HV2 := hideIt hv2
      have z2 := hb2.size
      have HV1' := hideIt (ValIs.keep (Keep.of_below hb2) (Nat.le_refl _) (by omega) HV1.out)
      clear hv2
      obtain ⟨p1, _⟩ := okB_parts ok1
      obtain ⟨p2, _⟩ := okB_parts ok2
      have HF := hideIt (And.intro (fine_of ok1) (fine_of ok2))
      go_wp2_with fail
      refine (compared_any us vs HF.out.1 HF.out.2 lo1 w1.heap.size lo2 w2.heap.size (by omega) (by omega) us.length vs.length (us.length - 1) (vs.length - 1) _ _ _ (by omega) (by omega) (HV1'.out.gen (by omega)) (HV2.out.gen (by omega)) (by omega) (Nat.le_refl _)).mono ?_
      rintro e w3 ⟨rfl, hb3⟩
      have hr := ord_range us vs us.length (us.length - 1) (vs.length - 1)
      go_wp2_with fail
      go_ret
      exact ⟨ret_int HO.out.symm, Below.next (Below.next hb1 hb2) hb3⟩
end Go.Proofs.Ytpfnkpkcjefelaa
