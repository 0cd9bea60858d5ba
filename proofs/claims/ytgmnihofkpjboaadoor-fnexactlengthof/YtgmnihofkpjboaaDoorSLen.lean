/-
  spec.LengthOf.
-/
import Derived.Test.YtgmnihofkpjboaaDoorLenP
import Derived.Test.YtgmnihofkpjboaaDoorSpc3
namespace Go.Proofs.YtgmnihofkpjboaaDoor
open Go.RowKit
set_option linter.unusedSimpArgs false
set_option linter.unusedVariables false

set_option maxHeartbeats 800000 in
theorem l1NumberX (n : Int) (w : World) : Calls Tryd.prog 44 #[.int .i64 n] w fun e w' => ∃ r KV IV, e = .returned r ∧ Nest w.heap.size w' r (leafN 3 n ByteArray.empty) KV IV ∧ Below w.heap.size w w' := by
  go_enter Tryd.func44, Tryd.ntmps44
  go_wp2_with fail
  go_ret
  exact ⟨_, _, _, rfl, leaf_nest w 3 n _, (Below.refl _ _).alloc (Nat.le_refl _) _⟩

set_option maxRecDepth 100000 in
set_option maxHeartbeats 3200000 in
theorem l8Length_any (B : Nat) (v : Value) (vs : List VN) (w : World) (h : NodesAt B w v vs) (hB : B ≤ w.heap.size) (hok : okB vs = true) :
    Calls Tryd.prog 21 #[v] w fun e w' => ∃ r base KV IV, e = .returned (.tuple #[r, .int .i64 (kindC (lenK (rootN vs)))]) ∧ w.heap.size ≤ base ∧ Nest base w' r (oneNs (lenK (rootN vs))) KV IV ∧ Below w.heap.size w w' := by
  have HRS := hideIt (root_says hok)
  obtain ⟨hlen, av, cap, rfl, hcell⟩ := h
  obtain ⟨p1, _, _, _⟩ := okB_parts hok
  obtain ⟨b0, o0, rfl, hb0, hc⟩ := hcell (by omega)
  obtain ⟨ka, ki, hn⟩ := hc (vs.length - 1) (by omega)
  obtain ⟨x, hx⟩ : ∃ x, rootN vs = x := ⟨_, rfl⟩
  have hx' : nodeAt vs (vs.length - 1) = x := hx
  rw [hx'] at hn
  rw [hx] at HRS ⊢
  have HK : Hid (lenK x = lenK x) := rfl
  obtain ⟨M, hM⟩ : ∃ M, vs.length = M := ⟨_, rfl⟩
  rw [hM] at hn p1 hlen ⊢
  obtain ⟨_, _, aK, cK, eK, _⟩ := hn.inn.keys
  obtain ⟨_, _, aI, cI, eI, _⟩ := hn.inn.kids
  subst eK eI
  have c0 := hn.c0
  have c1 := hn.c1
  have c2 := hn.c2
  have c3 := hn.c3
  have c4 := hn.c4
  have p0 : ((M : Int) - 1).toNat = M - 1 := by omega
  obtain ⟨p1a, p1b⟩ := p1
  clear hcell hc hn hx hx' hM hok HK
  obtain ⟨W, hW⟩ : ∃ W, w.alloc (.cells #[.int .i64 x.kind, .int .i64 x.n, .string x.s, .slice aK x.keys.length cK, .slice aI x.kids.length cI] 41) = W := ⟨_, rfl⟩
  have r0 : W.cell? ⟨w.heap.size, 0, none⟩ = some (.int .i64 x.kind) := by rw [← hW]; simp
  have r1 : W.cell? ⟨w.heap.size, 1, none⟩ = some (.int .i64 x.n) := by rw [← hW]; simp
  have r2 : W.cell? ⟨w.heap.size, 2, none⟩ = some (.string x.s) := by rw [← hW]; simp
  have r4 : W.cell? ⟨w.heap.size, 4, none⟩ = some (.slice aI x.kids.length cI) := by rw [← hW]; simp
  have rz : w.heap.size < W.heap.size := by rw [← hW]; simp
  have HW := hideIt hW
  have HBW : Hid (Below w.heap.size w W) := by rw [Hid, ← hW]; exact (Below.refl _ _).alloc (Nat.le_refl _) _
  clear hW
  have HRST := hideIt (And.intro r0 (And.intro r1 (And.intro r2 r4)))
  clear r0 r1 r2 r4
  have HAL : Hid (w.alloc (.cells #[.int .i64 x.kind, .int .i64 x.n, .string x.s, .slice aK x.keys.length cK, .slice aI x.kids.length cI] 41) = W) := HW.out
  rcases HRS.out with k | k | ⟨k, n1, n2⟩ | ⟨k, n1⟩ | ⟨k, n1⟩ | ⟨k, n1⟩
  · have HL : Hid (lenK x = some (0)) := by unfold Hid lenK; simp [k]
    rw [HL.out]
    rw [k] at c0 HAL HRST
    clear k HRS
    have hzz : w.heap.size ≤ (w.alloc (.cells #[.int .i64 1, .int .i64 x.n, .string x.s, .slice aK x.keys.length cK, .slice aI x.kids.length cI] 41)).heap.size := by simp
    go_enter Tryd.func21, Tryd.ntmps21
    go_wp2_with fail
    refine (l1NumberX (0) _).mono ?_
    rintro e w2 ⟨r, KV, IV, rfl, hn, hb⟩
    have HN := hideIt hn
    obtain ⟨ar, cr, er⟩ := own_slice hn.row
    simp only [leafN, List.length_cons, List.length_nil] at er
    subst er
    have HB2 : Hid (Below w.heap.size w w2) := ((Below.refl _ _).alloc (Nat.le_refl _) _).trans (hb.mono (by simp))
    clear hn hb
    go_wp2_with fail
    go_ret2
    exact ⟨_, _, KV, IV, rfl, hzz, HN.out, HB2.out⟩
  · have HL : Hid (lenK x = none) := by unfold Hid lenK; simp [k]
    rw [HL.out]
    rw [k] at c0 HAL HRST
    clear k HRS
    go_enter Tryd.func21, Tryd.ntmps21
    go_wp2_with fail
    go_ret2
    exact ⟨_, w.heap.size, fun _ => undef, fun _ => undef, rfl, Nat.le_refl _, Nest.nil _ _ _ _, (Below.refl _ _).alloc (Nat.le_refl _) _⟩
  · by_cases hs : x.n < -x.n
    · have HL : Hid (lenK x = some (-x.n)) := by unfold Hid lenK; simp [k]; omega
      rw [HL.out]
      rw [k] at c0 HAL HRST
      clear k HRS
      have hzz : w.heap.size ≤ (w.alloc (.cells #[.int .i64 3, .int .i64 x.n, .string x.s, .slice aK x.keys.length cK, .slice aI x.kids.length cI] 41)).heap.size := by simp
      go_enter Tryd.func21, Tryd.ntmps21
      go_wp2_with fail
      refine (l1NumberX (-x.n) _).mono ?_
      rintro e w2 ⟨r, KV, IV, rfl, hn, hb⟩
      have HN := hideIt hn
      obtain ⟨ar, cr, er⟩ := own_slice hn.row
      simp only [leafN, List.length_cons, List.length_nil] at er
      subst er
      have HB2 : Hid (Below w.heap.size w w2) := ((Below.refl _ _).alloc (Nat.le_refl _) _).trans (hb.mono (by simp))
      clear hn hb
      go_wp2_with fail
      go_ret2
      exact ⟨_, _, KV, IV, rfl, hzz, HN.out, HB2.out⟩
    · have HL : Hid (lenK x = some (x.n)) := by unfold Hid lenK; simp [k]; omega
      rw [HL.out]
      rw [k] at c0 HAL HRST
      clear k HRS
      have hzz : w.heap.size ≤ (w.alloc (.cells #[.int .i64 3, .int .i64 x.n, .string x.s, .slice aK x.keys.length cK, .slice aI x.kids.length cI] 41)).heap.size := by simp
      go_enter Tryd.func21, Tryd.ntmps21
      go_wp2_with fail
      refine (l1NumberX (x.n) _).mono ?_
      rintro e w2 ⟨r, KV, IV, rfl, hn, hb⟩
      have HN := hideIt hn
      obtain ⟨ar, cr, er⟩ := own_slice hn.row
      simp only [leafN, List.length_cons, List.length_nil] at er
      subst er
      have HB2 : Hid (Below w.heap.size w w2) := ((Below.refl _ _).alloc (Nat.le_refl _) _).trans (hb.mono (by simp))
      clear hn hb
      go_wp2_with fail
      go_ret2
      exact ⟨_, _, KV, IV, rfl, hzz, HN.out, HB2.out⟩
  · have HL : Hid (lenK x = some ((x.s.size : Int))) := by unfold Hid lenK; simp [k]
    rw [HL.out]
    rw [k] at c0 HAL HRST
    clear k HRS
    have hzz : w.heap.size ≤ (w.alloc (.cells #[.int .i64 4, .int .i64 x.n, .string x.s, .slice aK x.keys.length cK, .slice aI x.kids.length cI] 41)).heap.size := by simp
    go_enter Tryd.func21, Tryd.ntmps21
    go_wp2_with fail
    refine (l1NumberX ((x.s.size : Int)) _).mono ?_
    rintro e w2 ⟨r, KV, IV, rfl, hn, hb⟩
    have HN := hideIt hn
    obtain ⟨ar, cr, er⟩ := own_slice hn.row
    simp only [leafN, List.length_cons, List.length_nil] at er
    subst er
    have HB2 : Hid (Below w.heap.size w w2) := ((Below.refl _ _).alloc (Nat.le_refl _) _).trans (hb.mono (by simp))
    clear hn hb
    go_wp2_with fail
    go_ret2
    exact ⟨_, _, KV, IV, rfl, hzz, HN.out, HB2.out⟩
  · have HL : Hid (lenK x = some ((x.kids.length : Int))) := by unfold Hid lenK; simp [k]
    rw [HL.out]
    rw [k] at c0 HAL HRST
    clear k HRS
    have hzz : w.heap.size ≤ (w.alloc (.cells #[.int .i64 5, .int .i64 x.n, .string x.s, .slice aK x.keys.length cK, .slice aI x.kids.length cI] 41)).heap.size := by simp
    go_enter Tryd.func21, Tryd.ntmps21
    go_wp2_with fail
    refine (l1NumberX ((x.kids.length : Int)) _).mono ?_
    rintro e w2 ⟨r, KV, IV, rfl, hn, hb⟩
    have HN := hideIt hn
    obtain ⟨ar, cr, er⟩ := own_slice hn.row
    simp only [leafN, List.length_cons, List.length_nil] at er
    subst er
    have HB2 : Hid (Below w.heap.size w w2) := ((Below.refl _ _).alloc (Nat.le_refl _) _).trans (hb.mono (by simp))
    clear hn hb
    go_wp2_with fail
    go_ret2
    exact ⟨_, _, KV, IV, rfl, hzz, HN.out, HB2.out⟩
  · have HL : Hid (lenK x = some ((x.kids.length : Int))) := by unfold Hid lenK; simp [k]
    rw [HL.out]
    rw [k] at c0 HAL HRST
    clear k HRS
    have hzz : w.heap.size ≤ (w.alloc (.cells #[.int .i64 6, .int .i64 x.n, .string x.s, .slice aK x.keys.length cK, .slice aI x.kids.length cI] 41)).heap.size := by simp
    go_enter Tryd.func21, Tryd.ntmps21
    go_wp2_with fail
    refine (l1NumberX ((x.kids.length : Int)) _).mono ?_
    rintro e w2 ⟨r, KV, IV, rfl, hn, hb⟩
    have HN := hideIt hn
    obtain ⟨ar, cr, er⟩ := own_slice hn.row
    simp only [leafN, List.length_cons, List.length_nil] at er
    subst er
    have HB2 : Hid (Below w.heap.size w w2) := ((Below.refl _ _).alloc (Nat.le_refl _) _).trans (hb.mono (by simp))
    clear hn hb
    go_wp2_with fail
    go_ret2
    exact ⟨_, _, KV, IV, rfl, hzz, HN.out, HB2.out⟩

set_option maxRecDepth 100000 in
set_option maxHeartbeats 1600000 in
theorem specLengthOf_any (B : Nat) (v : Value) (vs : List VN) (w : World) (h : NodesAt B w v vs) (hB : B ≤ w.heap.size) :
    Calls Tryd.prog 8 #[v] w fun e w' => ∃ r base KV IV, e = .returned (.tuple #[r, .int .i64 (lenC vs)]) ∧ w.heap.size ≤ base ∧ Nest base w' r (lenNs vs) KV IV ∧ Below w.heap.size w w' := by
  have HV := hideIt h
  obtain ⟨_, a, cap, rfl, _⟩ := h
  have HLN : Hid (lenNs vs = if okB vs = true then oneNs (lenK (rootN vs)) else []) := rfl
  have HLC : Hid (lenC vs = if okB vs = true then kindC (lenK (rootN vs)) else 1) := rfl
  go_enter Tryd.func8, Tryd.ntmps8
  go_wp2_with fail
  refine (specOk_any B _ vs _ HV.out hB).mono ?_
  rintro e w1 ⟨rfl, hb1⟩
  have z1 := hb1.size
  cases ok1 : okB vs
  · go_wp2_with fail
    go_ret2
    exact ⟨_, w.heap.size, fun _ => undef, fun _ => undef, by rw [HLC.out, ok1]; rfl, Nat.le_refl _, by rw [HLN.out, ok1]; exact Nest.nil _ _ _ _, hb1⟩
  · have HN1 := hideIt (HV.out.below (hb1.mono hB))
    have HB1 := hideIt hb1
    clear hb1
    go_wp2_with fail
    refine (l8Length_any B _ vs w1 HN1.out (by omega) ok1).mono ?_
    rintro e w2 ⟨r, base, KV, IV, rfl, hbase, hn, hb2⟩
    have HN := hideIt hn
    have HB2 := hideIt (HB1.out.trans (hb2.mono z1))
    obtain ⟨ar, cr, er⟩ := own_slice hn.row
    obtain ⟨L, hL⟩ : ∃ L, (oneNs (lenK (rootN vs))).length = L := ⟨_, rfl⟩
    rw [hL] at er
    subst er
    obtain ⟨C, hC⟩ : ∃ C, kindC (lenK (rootN vs)) = C := ⟨_, rfl⟩
    have HC := hideIt hC
    rw [hC]
    clear hn hb2 hL hC
    go_wp2_with fail
    go_ret2
    exact ⟨_, base, KV, IV, by rw [HLC.out, ok1, if_pos rfl, HC.out]; rfl, by omega, by rw [HLN.out, ok1, if_pos rfl]; exact HN.out, HB2.out⟩
end Go.Proofs.YtgmnihofkpjboaaDoor
