/-
  impl.ListOf: as the specification's.
-/
import Derived.Test.YtpfnkpkcjefelaaVsOf
import Derived.Test.YtpfnkpkcjefelaaRNodes
namespace Go.Proofs.Ytpfnkpkcjefelaa
open Go.RowKit
set_option linter.unusedSimpArgs false
set_option linter.unusedVariables false

theorem listNs_of {L : Nat → List VN} {m : Nat} (h : (allB L m && decide (m ≤ 80)) = true) : listNs L m = rightNs (makeNs 5 [] L m) ∧ listB L m = okB (makeNs 5 [] L m) := by
  have e : listB L m = okB (makeNs 5 [] L m) := by unfold listB; rw [h]; rfl
  refine ⟨?_, e⟩
  unfold listNs rightNs
  rw [e]

set_option maxRecDepth 100000 in
set_option maxHeartbeats 3200000 in
theorem implListOf_any (B : Nat) (u : Value) (m : Nat) (L : Nat → List VN) (w : World) (hu : RowsAt B w u m L) (hB : B ≤ w.heap.size) (hf : ∀ i, i < m → ∀ j, j < (L i).length → Fits (nodeAt (L i) j)) :
    Calls Try.prog 26 #[u] w fun e w' => ∃ r base KV IV, e = .returned (.tuple #[r, .bool (listB L m)]) ∧ w.heap.size ≤ base ∧ base ≤ w'.heap.size ∧ Nest base w' r (listNs L m) KV IV ∧ Below w.heap.size w w' := by
  have HU := hideIt hu
  obtain ⟨_, au, cu, rfl, _⟩ := hu
  have HLB : Hid (listB L m = (allB L m && decide (m ≤ 80) && okB (makeNs 5 [] L m))) := rfl
  have HLN : Hid (listNs L m = if listB L m = true then makeNs 5 [] L m else []) := rfl
  go_enter Try.func26, Try.ntmps26
  go_wp2_with fail
  refine (valuesOf_any B _ m L _ HU.out hB).mono ?_
  rintro e w1 ⟨v, V, lo, hi, rfl, hyes, hno, hb1⟩
  have z1 := hb1.size
  cases ok1 : (allB L m && decide (m ≤ 80))
  · obtain rfl := hno ok1
    clear hyes hno
    go_wp2_with fail
    go_ret2
    have hno : listB L m = false := by rw [HLB.out, ok1]; rfl
    exact ⟨.slice none 0 0, w.heap.size, fun _ => undef, fun _ => undef, by rw [hno]; rfl, Nat.le_refl _, z1, by rw [HLN.out, hno]; exact Nest.nil _ _ _ _, hb1⟩
  · have hv := hyes ok1
    have HLO := hideIt (listNs_of ok1)
    have hall : allB L m = true ∧ m ≤ 80 := by simpa using ok1
    have HOK := hideIt (allB_yes hall.1)
    have hm := hall.2
    have HNI := hideIt (make_nice hm HOK.out hf (kind := 5) (by omega) (by omega) (keys := []) (by simp) (fun i hi => absurd hi (by simp)))
    have HIT := hideIt (hv.items hB hm HOK.out)
    obtain ⟨av, cv, ev⟩ := own_slice hv.row
    subst ev
    have HTR : Hid (TreeAt w1.heap.size w1 81 (.mk 5 0 ByteArray.empty [] (kidsL L m)) (.iface 93 (.agg #[.slice av m cv]))) :=
      Or.inr (Or.inr (Or.inr (Or.inr (Or.inl ⟨rfl, rfl, rfl, rfl, _, rfl, HIT.out⟩))))
    have HLL := hideIt (lay_list 5 [] L m HOK.out)
    clear hyes hno hall hv
    go_wp2_with fail
    refine (rightNodes_any 81 (.mk 5 0 ByteArray.empty [] (kidsL L m)) _ (makeNs 5 [] L m) _ HTR.out HLL.out (by have := HNI.out.1; omega) (fun i hi => (HNI.out.2 i hi).1)).mono ?_
    rintro e w2 ⟨r, base, KV, IV, rfl, hb0, hb01, hn2, hb2⟩
    have HN2 := hideIt hn2
    obtain ⟨ar, cr, er⟩ := own_slice hn2.row
    obtain ⟨N, hN⟩ : ∃ N, (rightNs (makeNs 5 [] L m)).length = N := ⟨_, rfl⟩
    rw [hN] at er
    subst er
    have HB2 := hideIt (hb1.trans (hb2.mono z1))
    clear hn2 hb2 hN
    go_wp2_with fail
    go_ret2
    exact ⟨.slice ar N cr, base, KV, IV, by rw [HLO.out.2]; rfl, by omega, by omega, by rw [HLO.out.1]; exact HN2.out, HB2.out⟩
end Go.Proofs.Ytpfnkpkcjefelaa
