/-
  impl.PathsOf and spec.PathsOf: the rows of the value's paths.
-/
import Derived.Test.YtbclgogolimbgaaWPaths
import Derived.Test.YtbclgogolimbgaaSPaths
import Derived.Test.YtbclgogolimbgaaFind
import Derived.Test.YtbclgogolimbgaaVOf
namespace Go.Proofs.Ytbclgogolimbgaa
open Go.RowKit
set_option linter.unusedSimpArgs false
set_option linter.unusedVariables false

def pathsLs (vs : List VN) : List (List PS) := if okB vs = true then pathsN vs vs.length (vs.length - 1) [] else []

theorem pathsLs_le (vs : List VN) : (pathsLs vs).length ≤ 80 := by
  unfold pathsLs
  split
  · rename_i h
    obtain ⟨p1, _⟩ := okB_parts h
    exact paths_le h (by omega) (by omega) []
  · simp

theorem pathsLs_short (vs : List VN) : ∀ i, i < (pathsLs vs).length → Short 1000 (rowP (pathsLs vs) i) := by
  intro i hi
  have hm : rowP (pathsLs vs) i ∈ pathsLs vs := by
    unfold rowP
    rw [List.getD_eq_getElem?_getD, List.getElem?_eq_getElem hi]
    exact List.getElem_mem hi
  generalize rowP (pathsLs vs) i = p at hm ⊢
  unfold pathsLs at hm
  split at hm
  · rename_i h
    obtain ⟨p1, _⟩ := okB_parts h
    exact (paths_short h vs.length (vs.length - 1) 0 [] (by omega) (by omega) ⟨by simp, fun i hi => absurd hi (by simp)⟩ p hm).wide (by omega)
  · simp at hm

set_option maxRecDepth 100000 in
set_option maxHeartbeats 3200000 in
theorem implPathsOf_any (B : Nat) (v : Value) (vs : List VN) (w : World) (h : NodesAt B w v vs) (hB : B ≤ w.heap.size) :
    Calls Try.prog 10 #[v] w fun e w' => ∃ r base rs lo, e = .returned r ∧ w.heap.size ≤ base ∧ RowsP base w' r (pathsLs vs) rs lo ∧ Below w.heap.size w w' := by
  have HV := hideIt h
  obtain ⟨_, a, cap, rfl, _⟩ := h
  cases ok : okB vs
  · have HL : Hid (pathsLs vs = []) := by rw [Hid, pathsLs, ok]; rfl
    go_enter Try.func10, Try.ntmps10
    go_wp2_with fail
    refine (valueOf_no B _ vs _ HV.out hB ok).mono ?_
    rintro e w1 ⟨rfl, hb1⟩
    have z1 := hb1.size
    go_wp2_with fail
    go_ret
    exact ⟨.slice none 0 0, w.heap.size, fun _ => undef, fun _ => w.heap.size, rfl, Nat.le_refl _, by rw [HL.out]; exact RowsP.start (World.ownsRow_nil _ _ _ _) z1, hb1⟩
  · obtain ⟨p1, p2, _, p4⟩ := okB_parts ok
    have HL : Hid (pathsLs vs = [] ++ pathsN vs vs.length (vs.length - 1) []) := by rw [Hid, pathsLs, ok]; rfl
    have hle := paths_le ok (f := vs.length) (n := vs.length - 1) (by omega) (by omega) []
    have HOK := hideIt ok
    go_enter Try.func10, Try.ntmps10
    go_wp2_with fail
    refine (valueOf_yes B _ vs _ HV.out hB ok).mono ?_
    rintro e w1 ⟨lo1, t, x, rfl, hl1, hl2, hv1, hb1⟩
    have z1 := hb1.size
    have HT := hideIt (ValIs.tree (by omega) p2 p4 p1.2 (by omega) hv1)
    have HB1 := hideIt hb1
    clear hv1 p2 p4 hb1
    go_wp2_with fail
    refine (treeOf_any w1.heap.size vs.length _ _ _ HT.out (Nat.le_refl _)).mono ?_
    rintro e w2 ⟨p, rfl, hpt, hb2⟩
    have HPT := hideIt hpt
    have z2 := hb2.size
    have HB2 := hideIt (HB1.out.trans (hb2.mono z1))
    clear hpt hb2
    go_wp2_with fail
    refine (withPaths_any w1.heap.size w2.heap.size vs HOK.out vs.length (vs.length - 1) _ w2.heap.size _ (.slice none 0 0) (.slice none 0 0) [] [] (fun _ => undef) (fun _ => w2.heap.size) w2 (by omega) (by omega) HPT.out (Nat.le_refl _) z2 (Nat.le_refl _) (RowsP.start (World.ownsRow_nil _ _ _ _) (Nat.le_refl _)) (World.ownsRow_nil _ _ _ _) (by simp; omega) (by simp; omega)).mono ?_
    rintro e w3 ⟨r, rs, lo, rfl, hr, hg, _⟩
    have hb3 : Below w2.heap.size w2 w3 := (Below.refl _ _).grown hg (Nat.le_refl _) (fun k hk => by simp [Value.ownBlock] at hk)
    have HR := hideIt hr
    have HB3 := hideIt (HB2.out.trans (hb3.mono (by omega)))
    obtain ⟨ar, cr, er⟩ := own_slice hr.row
    obtain ⟨N, hN⟩ : ∃ N, ([] ++ pathsN vs vs.length (vs.length - 1) []).length = N := ⟨_, rfl⟩
    rw [hN] at er
    subst er
    clear hr hg hb3 hN
    go_wp2_with fail
    go_ret
    exact ⟨_, w2.heap.size, rs, lo, rfl, by omega, by rw [HL.out]; exact HR.out, HB3.out⟩

set_option maxRecDepth 100000 in
set_option maxHeartbeats 3200000 in
theorem specPathsOf_any (B : Nat) (v : Value) (vs : List VN) (w : World) (h : NodesAt B w v vs) (hB : B ≤ w.heap.size) :
    Calls Try.prog 11 #[v] w fun e w' => ∃ r base rs lo, e = .returned r ∧ w.heap.size ≤ base ∧ RowsP base w' r (pathsLs vs) rs lo ∧ Below w.heap.size w w' := by
  have HV := hideIt h
  obtain ⟨_, a, cap, rfl, _⟩ := h
  cases ok : okB vs
  · have HL : Hid (pathsLs vs = []) := by rw [Hid, pathsLs, ok]; rfl
    go_enter Try.func11, Try.ntmps11
    go_wp2_with fail
    refine (specOk_any B _ vs _ HV.out hB).mono ?_
    rintro e w1 ⟨rfl, hb1⟩
    rw [ok]
    have z1 := hb1.size
    go_wp2_with fail
    go_ret
    exact ⟨_, w1.heap.size, fun _ => undef, fun _ => w1.heap.size, rfl, z1, by rw [HL.out]; exact RowsP.start (World.ownsRow_lit (base := w1.heap.size) w1 #[] 0 (Nat.le_refl _) (by simp [maxLen]) rfl) (by simp), hb1.alloc z1 _⟩
  · obtain ⟨p1, _⟩ := okB_parts ok
    have HL : Hid (pathsLs vs = pathsN vs vs.length (vs.length - 1) []) := by rw [Hid, pathsLs, ok]; rfl
    have HOK := hideIt ok
    have hcast : (vs.length : Int) - 1 = ((vs.length - 1 : Nat) : Int) := by omega
    go_enter Try.func11, Try.ntmps11
    go_wp2_with fail
    refine (specOk_any B _ vs _ HV.out hB).mono ?_
    rintro e w1 ⟨rfl, hb1⟩
    rw [ok]
    have z1 := hb1.size
    have HV1 := hideIt (HV.out.below (hb1.mono hB))
    have HB1 := hideIt hb1
    clear hb1
    go_wp2_with fail
    refine (l6Paths_any B vs HOK.out vs.length (vs.length - 1) _ (.slice none 0 0) [] w1.heap.size w1 (by omega) (by omega) HV1.out (by omega) (World.ownsRow_nil _ _ _ _) (by simp; omega)).mono ?_
    rintro e w3 ⟨r, rs, lo, rfl, hr, hb3⟩
    have HR := hideIt hr
    have HB3 := hideIt (HB1.out.trans (hb3.mono z1))
    obtain ⟨ar, cr, er⟩ := own_slice hr.row
    obtain ⟨N, hN⟩ : ∃ N, (pathsN vs vs.length (vs.length - 1) []).length = N := ⟨_, rfl⟩
    rw [hN] at er
    subst er
    clear hr hb3 hN
    go_wp2_with fail
    go_ret
    exact ⟨_, w1.heap.size, rs, lo, rfl, z1, by rw [HL.out]; exact HR.out, HB3.out⟩
end Go.Proofs.Ytbclgogolimbgaa
