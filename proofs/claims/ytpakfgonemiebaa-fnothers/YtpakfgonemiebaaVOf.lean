/-
  (*impl.treePart).holder: the part into which the last step leads.
-/
import Derived.Test.YtpakfgonemiebaaUTk
import Derived.Test.YtpakfgonemiebaaPsZ
import Derived.Test.YtpakfgonemiebaaSpc3
import Derived.Test.YtpakfgonemiebaaNs
import Derived.Test.YtpakfgonemiebaaStbA
import Derived.Test.YtpakfgonemiebaaSPart
import Derived.Test.YtpakfgonemiebaaUFol
import Derived.Deep.RegionWith
import Derived.Test.YtpakfgonemiebaaTVal
import Derived.Test.YtpakfgonemiebaaMapP
namespace Go.Proofs.Ytpakfgonemiebaa
open Go.RowKit
set_option linter.unusedSimpArgs false
set_option linter.unusedVariables false

theorem steps_init {B : Nat} {w : World} {a : Option Addr} {cap m : Nat} {ps : List PS} (h : StepsAt B w (.slice a (m + 1) cap) ps) (hm : ps.length = m + 1) : StepsAt B w (.slice a m cap) (ps.take m) := by
  obtain ⟨h1, h2, a', cap', e, h3⟩ := h
  simp only [Value.slice.injEq] at e
  obtain ⟨rfl, _, rfl⟩ := e
  have hl : (ps.take m).length = m := by rw [List.length_take]; omega
  have hat : ∀ i, i < m → stepAt (ps.take m) i = stepAt ps i := fun i hi => by
    unfold stepAt
    rw [List.getD_eq_getElem?_getD, List.getD_eq_getElem?_getD, List.getElem?_take, if_pos hi]
  refine ⟨by rw [hl]; omega, fun i hi => ?_, a, cap, by rw [hl], fun hpos => ?_⟩
  · rw [hl] at hi; rw [hat i hi]; exact h2 i (by omega)
  · obtain ⟨b, o, ea, hb, hc⟩ := h3 (by omega)
    refine ⟨b, o, ea, hb, fun i hi => ?_⟩
    rw [hl] at hi
    rw [hat i hi]
    exact hc i (by omega)

set_option maxRecDepth 100000 in
set_option maxHeartbeats 3200000 in
theorem holder_nil (p0 : Nat) (a : Option Addr) (cap : Nat) (w : World) : Calls Try.prog 38 #[.pointer (some ⟨p0, 0, none⟩), .slice a 0 cap] w fun e w' => e = .returned (.tuple #[.pointer none, .agg #[.bool false, .string ⟨#[]⟩, .int .i64 0], .bool false]) ∧ Below w.heap.size w w' := by
  go_enter Try.func38, Try.ntmps38
  go_wp2_with fail
  refine bodyPost_ret (v := .tuple #[.pointer none, .agg #[.bool false, .string ⟨#[]⟩, .int .i64 0], .bool false]) (by simp [results, Try.results38, go_sem]) rfl ?_
  exact ⟨rfl, (Below.refl _ _).alloc (Nat.le_refl _) _⟩

set_option maxRecDepth 100000 in
set_option maxHeartbeats 3200000 in
theorem holder_some (B X f0 : Nat) (t0 : VT) (lo0 hi0 p0 : Nat) (a : Option Addr) (cap N m : Nat) (hNm : N = m + 1) (ps : List PS) (w : World) (h : PT B w f0 t0 lo0 hi0 (.pointer (some ⟨p0, 0, none⟩))) (hg0 : goodT f0 t0) (hBl : B ≤ lo0) (hX : hi0 ≤ X) (hXw : X ≤ w.heap.size) (hh : hi0 ≤ w.heap.size) (hBw : B ≤ w.heap.size)
    (hm : ps.length = N) (hv : StepsAt w.heap.size w (.slice a N cap) ps) (hst : ∀ k, k < ps.length → stepB (stepAt ps k) = true) (hcap : N ≤ cap) (hN : N ≤ 1048576) :
    Calls Try.prog 38 #[.pointer (some ⟨p0, 0, none⟩), .slice a N cap] w fun e w' => ∃ p, e = .returned (.tuple #[folPtrT (folT (ps.take m) t0) p, .agg #[.bool (stepAt ps m).named, .string (stepAt ps m).key, .int .i64 (stepAt ps m).pl], .bool (folT (ps.take m) t0).isSome]) ∧ (∀ s, folT (ps.take m) t0 = some s → ∃ f lo hi, (f0 ≤ f + m ∧ goodT f s) ∧ lo0 ≤ lo ∧ hi ≤ hi0 ∧ PT B w' f s lo hi (.pointer (some ⟨p, 0, none⟩)) ∧ Ctx w' X f0 (plugT (ps.take m) t0) (.pointer (some ⟨p0, 0, none⟩)) f lo hi (.pointer (some ⟨p, 0, none⟩))) ∧ Below w.heap.size w w' := by
  have hba : Below w.heap.size w (w.alloc (.cells #[.bool false, .string ⟨#[]⟩, .int .i64 0] 39)) := (Below.refl _ _).alloc (Nat.le_refl _) _
  have hin := steps_init (m := m) (by rw [← hNm]; exact hv) (by rw [hm, hNm])
  have HC := hideIt (followC_any B X f0 t0 lo0 hi0 p0 (.slice a m cap) (ps.take m) (w.alloc (.cells #[.bool false, .string ⟨#[]⟩, .int .i64 0] 39)) (h.below hba hBw hh) hg0 hBl hX (by simp; omega) (by simp; omega) (by simp; omega) ((hin.below hba).wide (by simp)) (fun k hk => by
    rw [List.length_take] at hk
    have hat : stepAt (ps.take m) k = stepAt ps k := by
      unfold stepAt
      rw [List.getD_eq_getElem?_getD, List.getD_eq_getElem?_getD, List.getElem?_take, if_pos (by omega)]
    rw [hat]
    exact hst k (by omega)))
  obtain ⟨_, _, a', cap', e, h3⟩ := hv
  simp only [Value.slice.injEq] at e
  obtain ⟨rfl, hNx, rfl⟩ := e
  clear hNx
  obtain ⟨b, o, rfl, hb, hc⟩ := h3 (by omega)
  obtain ⟨hc0, hc1, hc2⟩ := hc m (by omega)
  obtain ⟨F, hF⟩ : ∃ F, folT (ps.take m) t0 = F := ⟨_, rfl⟩
  obtain ⟨PL, hPL⟩ : ∃ PL, plugT (ps.take m) t0 = PL := ⟨_, rfl⟩
  rw [hF, hPL] at HC ⊢
  have HBA := hideIt hba
  have hNI : (N : Int) - 1 = (m : Int) := by omega
  have hN0 : ¬ (N : Int) = 0 := by omega
  have hN0' : ((N : Int) == 0) = false := by simp; omega
  have hmN : (m : Int) ≤ (N : Int) := by omega
  have hmN' : m ≤ N := by omega
  have hmN2 : (m : Int) < (N : Int) := by omega
  have hmc : m ≤ cap := by omega
  have HNM := hideIt hNm
  have HMM := hideIt hm
  clear h hg0 hin hst h3 hc hba hF hPL hNm hm
  go_enter Try.func38, Try.ntmps38
  go_wp2_with fail
  refine HC.out.mono ?_
  rintro e w1 ⟨p, rfl, hctx, hb1⟩
  have HX := hideIt hctx
  have HB1 : Hid (Below w.heap.size w w1) := HBA.out.trans (hb1.mono (by simp))
  have d0 := (below_cell HB1.out hb).trans hc0
  have d1 := (below_cell HB1.out hb).trans hc1
  have d2 := (below_cell HB1.out hb).trans hc2
  have z0 : w.heap.size + 1 ≤ w1.heap.size := by simpa using hb1.size
  have nb := (hb1.block w.heap.size (by simp)).trans (heap_alloc_new w _)
  obtain ⟨FP, hFP⟩ : ∃ FP, folPtrT F p = FP := ⟨_, rfl⟩
  obtain ⟨FS, hFS⟩ : ∃ FS, F.isSome = FS := ⟨_, rfl⟩
  rw [hFP, hFS]
  have HFP := hideIt hFP
  have HFS := hideIt hFS
  clear hctx hb1 hc0 hc1 hc2 HC hFP hFS
  go_wp2_with fail
  have HBD : Hid (Below w1.heap.size w1 w1.drew) := (Below.refl _ _).drew
  refine wp_region_any (by kernel_rfl) ?_
  change wpAny _ _ _ _ _ _ _ (World.drew _)
  refine wpAny_take (i := 0) (v := FP) rfl (by kernel_rfl) (by kernel_rfl) (by kernel_rfl) (fun _ _ _ h => h) (Or.inl ⟨by kernel_rfl, fun w => ?_⟩) ?_
  · go_simp
  refine wpAny_take (i := 1) (v := .slice (some ⟨b, o, none⟩) N cap) rfl (by kernel_rfl) (by kernel_rfl) (by kernel_rfl) (fun _ _ _ h => h) (Or.inl ⟨by kernel_rfl, fun w => ?_⟩) ?_
  · go_simp
  refine wpAny_take (i := 2) (v := .int .i64 (m : Int)) rfl (by kernel_rfl) (by kernel_rfl) (by kernel_rfl) (fun _ _ _ h => h) (Or.inl ⟨by kernel_rfl, fun w => ?_⟩) ?_
  · go_simp
  refine wpAny_take (i := 3) (v := .pointer (some ⟨b, o + m * 3, none⟩)) rfl (by kernel_rfl) (by kernel_rfl) (by kernel_rfl) (fun _ _ _ h => h) (Or.inl ⟨by kernel_rfl, fun w => ?_⟩) ?_
  · go_simp
  refine wpAny_take (i := 5) (v := .bool FS) rfl (by kernel_rfl) (by kernel_rfl) (by kernel_rfl) (fun _ _ _ h => h) (Or.inl ⟨by kernel_rfl, fun w => ?_⟩) ?_
  · go_simp
  refine wpAny_take (i := 6) (v := FP) rfl (by kernel_rfl) (by kernel_rfl) (by kernel_rfl) (fun _ _ _ h => h) (Or.inl ⟨by kernel_rfl, fun w => ?_⟩) ?_
  · go_simp
  go_simp
  refine wpAny_ready (rs := [4]) (by kernel_rfl) (by simp) ?_
  refine AllReady.cons rfl (fun K hK => ?_) AllReady.nil
  go_simp
  refine hK _ _ ?_
  clear hK K
  have nbD : w1.heap[w.heap.size]? = some (.cells #[.bool false, .string ⟨#[]⟩, .int .i64 0] 39 (0, 0)) := nb
  have q0 : w1.cell? ⟨w.heap.size, 0, none⟩ = some (.bool false) := by simp [World.cell?, nbD]
  have q1 : w1.cell? ⟨w.heap.size, 1, none⟩ = some (.string ⟨#[]⟩) := by simp [World.cell?, nbD]
  have q2 : w1.cell? ⟨w.heap.size, 2, none⟩ = some (.int .i64 0) := by simp [World.cell?, nbD]
  have r0 : w1.frozen? ⟨w.heap.size, 0, none⟩ = false := by simp [World.frozen?, nbD]
  have r1 : w1.frozen? ⟨w.heap.size, 1, none⟩ = false := by simp [World.frozen?, nbD]
  have r2 : w1.frozen? ⟨w.heap.size, 2, none⟩ = false := by simp [World.frozen?, nbD]
  clear nb nbD
  refine wpAny_ready (rs := [7]) (by kernel_rfl) (by simp) ?_
  refine AllReady.cons rfl (fun K hK => ?_) AllReady.nil
  go_simp
  refine hK _ _ ?_
  clear hK K
  obtain ⟨W5, hW5⟩ : ∃ W5, (((w1.setCell ⟨w.heap.size, 0, none⟩ (.bool (stepAt ps m).named)).setCell ⟨w.heap.size, 1, none⟩ (.string (stepAt ps m).key)).setCell ⟨w.heap.size, 2, none⟩ (.int .i64 (stepAt ps m).pl)).drew = W5 := ⟨_, rfl⟩
  rw [hW5]
  have k0 : W5.cell? ⟨w.heap.size, 0, none⟩ = some (.bool (stepAt ps m).named) := by
    rw [← hW5]; show World.cell? (World.setCell _ _ _) _ = _
    rw [World.cell?_setCell_other (h := by simp), World.cell?_setCell_other (h := by simp)]; exact World.cell?_setCell_same _ _ _ q0
  have k1 : W5.cell? ⟨w.heap.size, 1, none⟩ = some (.string (stepAt ps m).key) := by
    rw [← hW5]; show World.cell? (World.setCell _ _ _) _ = _
    rw [World.cell?_setCell_other (h := by simp)]; exact World.cell?_setCell_same _ _ _ (by rw [World.cell?_setCell_other (h := by simp)]; exact q1)
  have k2 : W5.cell? ⟨w.heap.size, 2, none⟩ = some (.int .i64 (stepAt ps m).pl) := by
    rw [← hW5]; show World.cell? (World.setCell _ _ _) _ = _
    exact World.cell?_setCell_same _ _ _ (by rw [World.cell?_setCell_other (h := by simp), World.cell?_setCell_other (h := by simp)]; exact q2)
  have HW5 : Hid (W5.os = w1.os ∧ W5.tape = w1.tape ∧ W5.output = w1.output ∧ W5.heap.size = w1.heap.size ∧ ∀ c, c ≠ w.heap.size → W5.heap[c]? = w1.heap[c]?) := by
    rw [Hid, ← hW5]
    refine ⟨rfl, rfl, rfl, by show (World.setCell _ _ _).heap.size = _; simp, fun c hc => ?_⟩
    show (World.setCell _ _ _).heap[c]? = _
    rw [Below.heap_setCell _ _ _ c hc, Below.heap_setCell _ _ _ c hc, Below.heap_setCell _ _ _ c hc]
  have HBL5 : Hid (Below w.heap.size w W5) := ⟨HW5.out.1.trans HB1.out.os, HW5.out.2.1.trans HB1.out.tape, HW5.out.2.2.1.trans HB1.out.output, by rw [HW5.out.2.2.2.1]; exact HB1.out.size, fun c hc => (HW5.out.2.2.2.2 c (by omega)).trans (HB1.out.block c hc)⟩
  have HFIN : Hid (∀ s, F = some s → ∃ f lo hi, (f0 ≤ f + m ∧ goodT f s) ∧ lo0 ≤ lo ∧ hi ≤ hi0 ∧ PT B W5 f s lo hi (.pointer (some ⟨p, 0, none⟩)) ∧ Ctx W5 X f0 PL (.pointer (some ⟨p0, 0, none⟩)) f lo hi (.pointer (some ⟨p, 0, none⟩))) := fun s hs => by
    obtain ⟨f, lo, hi, h1, h2, h3, h4, h5⟩ := HX.out s hs
    exact ⟨f, lo, hi, ⟨by have a1 := h1.1; have a2 := List.length_take_le m ps; omega, h1.2⟩, h2, h3, h4.move (fun c hc => HW5.out.2.2.2.2 c (by omega)) (Nat.le_refl _) (Nat.le_refl _) (fun c _ hc => HW5.out.2.2.2.2 c (by omega)), h5.below (fun c hc => HW5.out.2.2.2.2 c (by omega))⟩
  clear hW5 q0 q1 q2 r0 r1 r2 d0 d1 d2
  refine wpAny_take (i := 8) (v := .bool FS) rfl (by kernel_rfl) (by kernel_rfl) (by kernel_rfl) (fun _ _ _ h => h) (Or.inl ⟨by kernel_rfl, fun w => ?_⟩) ?_
  · go_simp
  go_simp
  refine wpAny_done (by kernel_rfl) ?_ _
  go_wp2_with fail
  refine bodyPost_ret (v := .tuple #[FP, .agg #[.bool (stepAt ps m).named, .string (stepAt ps m).key, .int .i64 (stepAt ps m).pl], .bool FS]) (by simp [results, Try.results38, go_sem, k0, k1, k2]) rfl ?_
  exact ⟨p, by rw [HFP.out, HFS.out], HFIN.out, HBL5.out⟩
end Go.Proofs.Ytpakfgonemiebaa

/-
  PathOk of the specification and of the program: both say the same of every path.
-/
namespace Go.Proofs.Ytpakfgonemiebaa
open Go.RowKit
set_option linter.unusedSimpArgs false
set_option linter.unusedVariables false

theorem stepB_named {x : PS} (h : x.named = true) : stepB x = (textB x.key && decide (x.pl = 0)) := by simp [stepB, h]
theorem stepB_plain {x : PS} (h : x.named = false) : stepB x = (decide (x.key.toList = []) && inB x.pl 0 80) := by simp [stepB, h, inB]

set_option maxHeartbeats 1600000 in
theorem stepOk_any (x : PS) (w : World) (hs : x.key.size ≤ 140737488355328) :
    Calls Try.prog 106 #[.agg #[.bool x.named, .string x.key, .int .i64 x.pl]] w fun e w' => e = .returned (.bool (stepB x)) ∧ Below w.heap.size w w' := by
  have hw1 : ∀ o, Below w.heap.size w (w.alloc o) := fun o => (Below.refl _ _).alloc (Nat.le_refl _) o
  cases hn : x.named
  · have HB := hideIt (stepB_plain hn)
    go_enter Try.func106, Try.ntmps106
    go_wp2_with fail
    all_goals
      go_ret
      refine ⟨ret_bool ?_, hw1 _⟩
      rw [HB.out]
      go_light
      simp_all [inB] <;> omega
  · have HB := hideIt (stepB_named hn)
    go_enter Try.func106, Try.ntmps106
    go_wp2_with (go_at_call 90; refine (textOk_any _ _ hs).mono ?_; rintro e w' ⟨rfl, rfl⟩)
    all_goals
      go_ret
      refine ⟨ret_bool ?_, hw1 _⟩
      rw [HB.out]
      go_light
      simp_all <;> (rw [Bool.eq_iff_iff]; simp)

set_option maxHeartbeats 1600000 in
theorem implPathOk_any (B : Nat) (v : Value) (ps : List PS) (w : World) (h : StepsAt B w v ps) (hB : B ≤ w.heap.size) :
    Calls Try.prog 77 #[v] w fun e w' => e = .returned (.bool (pathB ps)) ∧ Below w.heap.size w w' := by
  obtain ⟨hlen, hfit, a, cap, rfl, hcell⟩ := h
  have HC := hideIt hcell
  have HF := hideIt hfit
  clear hcell hfit
  by_cases h10 : 10 < ps.length
  · have HO : Hid (pathB ps = false) := by rw [Hid, pathB, decide_eq_false (by omega)]; rfl
    have h10' : (10 : Int) < (ps.length : Int) := by omega
    go_enter Try.func77, Try.ntmps77
    go_wp2_with fail
    go_ret
    exact ⟨ret_bool HO.out.symm, Below.refl _ _⟩
  have h10' : ¬ (10 : Int) < (ps.length : Int) := by omega
  go_enter Try.func77, Try.ntmps77
  go_wp2_with fail
  go_loopw [10] (fun i wr => ∃ (k : Nat), k ≤ ps.length ∧ i = .int .i64 k ∧ (∀ j, j < k → stepB (stepAt ps j) = true) ∧ Below w.heap.size w wr) (fun i _ => ps.length - (intOf i).toNat)
  case atStart => exact ⟨0, Nat.zero_le _, rfl, fun j hj => by omega, Below.refl _ _⟩
  case round =>
    obtain ⟨k, hk, rfl, hall, hbel⟩ := hrel
    have HA := hideIt hall
    clear hall
    have hsize := hbel.size
    by_cases hlt : k < ps.length
    · obtain ⟨b, o, rfl, hbB, hc⟩ := HC.out (by omega)
      obtain ⟨hc0, hc1, hc2⟩ := hc k hlt
      have c0 := (below_cell (hbel.mono hB) hbB).trans hc0
      have c1 := (below_cell (hbel.mono hB) hbB).trans hc1
      have c2 := (below_cell (hbel.mono hB) hbB).trans hc2
      have hs := (HF.out k hlt).1
      clear hc hc0 hc1 hc2
      go_wp2_with fail
      refine (stepOk_any (stepAt ps k) _ (by omega)).mono ?_
      rintro e w1 ⟨rfl, hb1⟩
      have hb2 : Below w.heap.size w w1 := (hbel.alloc hsize _).trans (hb1.mono (by simp; omega))
      clear hb1
      cases hst : stepB (stepAt ps k)
      · have HO := hideIt (pathB_false hlt hst)
        go_wp2_with fail
        go_ret
        exact ⟨ret_bool HO.out.symm, hb2⟩
      · have HA1 : Hid (∀ j, j < k + 1 → stepB (stepAt ps j) = true) := by
          intro j hj
          by_cases e : j = k
          · subst e; exact hst
          · exact HA.out j (by omega)
        go_wp2_with fail
        go_roundw
        case rel => exact ⟨k + 1, by omega, by go_num, HA1.out, hb2⟩
        case measure => simp [intOf]; omega
    · obtain rfl : k = ps.length := by omega
      have HO : Hid (pathB ps = true) := by rw [Hid, pathB_all HA.out]; simp; omega
      go_wp2_with fail
      go_ret
      exact ⟨ret_bool HO.out.symm, hbel⟩

set_option maxHeartbeats 3200000 in
theorem specPathOk_any (B : Nat) (v : Value) (ps : List PS) (w : World) (h : StepsAt B w v ps) (hB : B ≤ w.heap.size) :
    Calls Try.prog 43 #[v] w fun e w' => e = .returned (.bool (pathB ps)) ∧ Below w.heap.size w w' := by
  obtain ⟨hlen, hfit, a, cap, rfl, hcell⟩ := h
  have HC := hideIt hcell
  have HF := hideIt hfit
  clear hcell hfit
  go_enter Try.func43, Try.ntmps43
  go_wp2_with fail
  go_loopw [3] (fun i wr => ∃ (k : Nat), k ≤ ps.length ∧ i = .int .i64 k ∧ (∀ j, j < k → stepB (stepAt ps j) = true) ∧ Below w.heap.size w wr) (fun i _ => ps.length - (intOf i).toNat)
  case atStart => exact ⟨0, Nat.zero_le _, rfl, fun j hj => by omega, Below.refl _ _⟩
  case round =>
    obtain ⟨k, hk, rfl, hall, hbel⟩ := hrel
    have HA := hideIt hall
    clear hall
    have hsize := hbel.size
    by_cases hlt : k < ps.length
    · obtain ⟨b, o, rfl, hbB, hc⟩ := HC.out (by omega)
      obtain ⟨hc0, hc1, hc2⟩ := hc k hlt
      have c0 := (below_cell (hbel.mono hB) hbB).trans hc0
      have c1 := (below_cell (hbel.mono hB) hbB).trans hc1
      have c2 := (below_cell (hbel.mono hB) hbB).trans hc2
      have hs : (stepAt ps k).key.size ≤ 140737488355328 := by have := (HF.out k hlt).1; omega
      clear hc hc0 hc1 hc2
      have HY : stepB (stepAt ps k) = true → Hid (∀ j, j < k + 1 → stepB (stepAt ps j) = true) := by
        intro hst j hj
        by_cases e : j = k
        · subst e; exact hst
        · exact HA.out j (by omega)
      have HNO : stepB (stepAt ps k) = false → Hid (pathB ps = false) := fun hst => pathB_false hlt hst
      generalize stepAt ps k = x at *
      obtain ⟨nm, ky, pl⟩ := x
      simp only at c0 c1 c2 hs
      cases nm
      · by_cases he : ky.toList = []
        · have hz1 : (ky.toList == []) = true := by simp [he]
          have hz2 : (ky.toList != []) = false := by simp [he]
          cases hi : inB pl 0 80
          · have HR := HNO (by rw [stepB_plain rfl]; simp [hi])
            clear HY HNO
            go_wp2_with fail
            refine (l1In_any _ _ _ _).mono ?_
            rintro e w1 ⟨rfl, rfl⟩
            go_wp2_with fail
            go_ret
            exact ⟨ret_bool HR.out.symm, hbel⟩
          · have HR := HY (by rw [stepB_plain rfl]; simp [hi, he])
            clear HY HNO
            go_wp2_with fail
            refine (l1In_any _ _ _ _).mono ?_
            rintro e w1 ⟨rfl, rfl⟩
            go_wp2_with fail
            go_roundw
            case rel => exact ⟨k + 1, by omega, by go_num, HR.out, hbel⟩
            case measure => simp [intOf]; omega
        · have HR := HNO (by rw [stepB_plain rfl]; simp [he])
          have hz1 : (ky.toList == []) = false := by simpa using he
          have hz2 : (ky.toList != []) = true := by simpa using he
          clear HY HNO
          go_wp2_with fail
          go_ret
          exact ⟨ret_bool HR.out.symm, hbel⟩
      · by_cases he : pl = 0
        · subst he
          cases hi : textB ky
          · have HR := HNO (by rw [stepB_named rfl]; simp [hi])
            clear HY HNO
            go_wp2_with fail
            refine (l1Text_any _ _ hs).mono ?_
            rintro e w1 ⟨rfl, rfl⟩
            go_wp2_with fail
            go_ret
            exact ⟨ret_bool HR.out.symm, hbel⟩
          · have HR := HY (by rw [stepB_named rfl]; simp [hi])
            clear HY HNO
            go_wp2_with fail
            refine (l1Text_any _ _ hs).mono ?_
            rintro e w1 ⟨rfl, rfl⟩
            go_wp2_with fail
            go_roundw
            case rel => exact ⟨k + 1, by omega, by go_num, HR.out, hbel⟩
            case measure => simp [intOf]; omega
        · have HR := HNO (by rw [stepB_named rfl]; simp [he])
          have hz1 : (pl == 0) = false := by simpa using he
          have hz2 : (pl != 0) = true := by simpa using he
          clear HY HNO
          go_wp2_with fail
          go_ret
          exact ⟨ret_bool HR.out.symm, hbel⟩
    · obtain rfl : k = ps.length := by omega
      have HO := hideIt (pathB_all HA.out)
      go_wp2_with fail
      go_ret
      exact ⟨ret_bool (by rw [HO.out]; simp; omega), hbel⟩
end Go.Proofs.Ytpakfgonemiebaa

/-
  spec.Got: the nodes of the part to which the steps lead.
-/
namespace Go.Proofs.Ytpakfgonemiebaa
open Go.RowKit
set_option linter.unusedSimpArgs false
set_option linter.unusedVariables false

def kidR (o : Option Nat) : Int := match o with
  | none => -1
  | some k => k

set_option maxRecDepth 100000 in
set_option maxHeartbeats 1600000 in
theorem l6Kid_any (B : Nat) (x : VN) (ka ki : Value) (s : PS) (w : World) (h : NodeIn B w x ka ki) (hB : B ≤ w.heap.size) (h6 : x.kind = 6 → Rise x.keys ∧ x.keys.length ≤ 80) (hs : s.named = true ∨ 0 ≤ s.pl) (hl : x.kids.length ≤ 1048576) (hpl : -9223372036854775808 ≤ s.pl ∧ s.pl ≤ 9223372036854775807) :
    Calls Try.prog 88 #[.agg #[.int .i64 x.kind, .int .i64 x.n, .string x.s, ka, ki], .agg #[.bool s.named, .string s.key, .int .i64 s.pl]] w fun e w' => e = .returned (.int .i64 (kidR (stepN x s))) ∧ Below w.heap.size w w' := by
  obtain ⟨hkn, hks, a1, c1, e1, hkc⟩ := h.keys
  obtain ⟨_, _, a2, c2, e2, _⟩ := h.kids
  have HKC := hideIt hkc
  have H6 := hideIt h6
  subst e1 e2
  clear h hkc h6
  obtain ⟨nm, ky, pl⟩ := s
  simp only at hs hpl ⊢
  obtain ⟨hp1, hp2⟩ := hpl
  have hba : Below w.heap.size w ((w.alloc (.cells #[.int .i64 x.kind, .int .i64 x.n, .string x.s, .slice a1 x.keys.length c1, .slice a2 x.kids.length c2] 78)).alloc (.cells #[.bool nm, .string ky, .int .i64 pl] 39)) := ((Below.refl _ _).alloc (Nat.le_refl _) _).alloc (by simp) _
  cases nm
  · have h0 : 0 ≤ pl := by rcases hs with e | e; cases e; exact e
    by_cases h5 : x.kind = 5
    · by_cases hlt : pl < (x.kids.length : Int)
      · have HR : Hid (kidR (stepN x ⟨false, ky, pl⟩) = pl) := by unfold Hid stepN stepTo; simp [h5, hlt, kidR]; omega
        go_enter Try.func88, Try.ntmps88
        go_wp2_with fail
        go_ret
        exact ⟨ret_int HR.out.symm, ((Below.refl _ _).alloc (Nat.le_refl _) _).alloc (by simp) _⟩
      · have HR : Hid (kidR (stepN x ⟨false, ky, pl⟩) = -1) := by unfold Hid stepN stepTo; simp [hlt, kidR]
        go_enter Try.func88, Try.ntmps88
        go_wp2_with fail
        go_ret
        exact ⟨ret_int HR.out.symm, ((Below.refl _ _).alloc (Nat.le_refl _) _).alloc (by simp) _⟩
    · have HR : Hid (kidR (stepN x ⟨false, ky, pl⟩) = -1) := by unfold Hid stepN stepTo; simp [h5, kidR]
      have h5' : (x.kind == 5) = false := by simpa using h5
      go_enter Try.func88, Try.ntmps88
      go_wp2_with fail
      go_ret
      exact ⟨ret_int HR.out.symm, hba⟩
  · have HBA := hideIt hba
    have x0 : ((w.alloc (.cells #[.int .i64 x.kind, .int .i64 x.n, .string x.s, .slice a1 x.keys.length c1, .slice a2 x.kids.length c2] 78)).alloc (.cells #[.bool true, .string ky, .int .i64 pl] 39)).cell? ⟨w.heap.size, 0, none⟩ = some (.int .i64 x.kind) := by simp
    have x3 : ((w.alloc (.cells #[.int .i64 x.kind, .int .i64 x.n, .string x.s, .slice a1 x.keys.length c1, .slice a2 x.kids.length c2] 78)).alloc (.cells #[.bool true, .string ky, .int .i64 pl] 39)).cell? ⟨w.heap.size, 3, none⟩ = some (.slice a1 x.keys.length c1) := by simp
    have y1 : ((w.alloc (.cells #[.int .i64 x.kind, .int .i64 x.n, .string x.s, .slice a1 x.keys.length c1, .slice a2 x.kids.length c2] 78)).alloc (.cells #[.bool true, .string ky, .int .i64 pl] 39)).cell? ⟨w.heap.size + 1, 1, none⟩ = some (.string ky) := by simp
    have sz : ((w.alloc (.cells #[.int .i64 x.kind, .int .i64 x.n, .string x.s, .slice a1 x.keys.length c1, .slice a2 x.kids.length c2] 78)).alloc (.cells #[.bool true, .string ky, .int .i64 pl] 39)).heap.size = w.heap.size + 1 + 1 := by simp
    clear hba
    go_enter Try.func88, Try.ntmps88
    go_wp2_with fail
    generalize ((w.alloc (.cells #[.int .i64 x.kind, .int .i64 x.n, .string x.s, .slice a1 x.keys.length c1, .slice a2 x.kids.length c2] 78)).alloc (.cells #[.bool true, .string ky, .int .i64 pl] 39)) = W1 at *
    have hW : w.heap.size + 1 < W1.heap.size := by omega
    have HX := hideIt (And.intro x0 (And.intro x3 y1))
    clear x0 x3 y1 sz
    go_loopw [5] (fun i wr => ∃ (k : Nat), i = .int .i64 k ∧ (x.kind = 6 → k ≤ x.keys.length) ∧ Hid (∀ j, j < k → (keyAt x.keys j).toList ≠ ky.toList) ∧ Below W1.heap.size W1 wr) (fun i _ => x.keys.length + 1 - (intOf i).toNat)
    case atStart => exact ⟨0, rfl, fun _ => Nat.zero_le _, fun j hj => by omega, Below.refl _ _⟩
    case round =>
      obtain ⟨k, rfl, hk, HF, hbl⟩ := hrel
      have z0 : wr.cell? ⟨w.heap.size, 0, none⟩ = some (.int .i64 x.kind) := (below_cell hbl (by omega)).trans HX.out.1
      have z3 : wr.cell? ⟨w.heap.size, 3, none⟩ = some (.slice a1 x.keys.length c1) := (below_cell hbl (by omega)).trans HX.out.2.1
      have z1 : wr.cell? ⟨w.heap.size + 1, 1, none⟩ = some (.string ky) := (below_cell hbl (by omega)).trans HX.out.2.2
      have HB2 : Hid (Below w.heap.size w wr) := HBA.out.trans (hbl.mono (by omega))
      by_cases e6 : x.kind = 6
      · have hk6 := hk e6
        by_cases hlt : k < x.keys.length
        · obtain ⟨b, o, rfl, hbB, hc⟩ := HKC.out (by omega)
          have hck : wr.cell? ⟨b, o + k, none⟩ = some (.string (keyAt x.keys k)) := (below_cell hbl (by omega)).trans ((below_cell HBA.out (by omega)).trans (hc k hlt))
          clear hc hk
          by_cases he : (keyAt x.keys k).toList = ky.toList
          · have HR : Hid (kidR (stepN x ⟨true, ky, pl⟩) = (k : Int)) := by
              obtain ⟨g1, g2⟩ := hasK_first (H6.out e6).1 hlt he HF.out
              unfold Hid stepN stepTo
              simp [e6, g1, g2, kidR]
            have hz : ((keyAt x.keys k).toList == ky.toList) = true := by simp [he]
            go_wp2_with fail
            go_quiet (fail)
            go_wp2_with fail
            go_ret
            exact ⟨ret_int HR.out.symm, below_drewN HB2.out nq⟩
          · have HF2 : Hid (∀ j, j < k + 1 → (keyAt x.keys j).toList ≠ ky.toList) := fun j hj => by
              by_cases e : j = k
              · subst e; exact he
              · exact HF.out j (by omega)
            have hz : ((keyAt x.keys k).toList == ky.toList) = false := by simpa using he
            go_wp2_with fail
            go_quiet (fail)
            go_wp2_with fail
            go_roundw
            case rel => exact ⟨k + 1, by go_num, fun _ => by omega, HF2, below_drewN hbl nq⟩
            case measure => simp [intOf]; omega
        · obtain rfl : k = x.keys.length := by omega
          have HR : Hid (kidR (stepN x ⟨true, ky, pl⟩) = -1) := by unfold Hid stepN stepTo; simp [hasK_none HF.out, kidR]
          have hlt' : ¬ ((x.keys.length : Int) < (x.keys.length : Int)) := by omega
          go_wp2_with fail
          go_ret
          exact ⟨ret_int HR.out.symm, HB2.out⟩
      · have HR : Hid (kidR (stepN x ⟨true, ky, pl⟩) = -1) := by unfold Hid stepN stepTo; simp [e6, kidR]
        have e6' : (x.kind == 6) = false := by simpa using e6
        go_wp2_with fail
        go_ret
        exact ⟨ret_int HR.out.symm, HB2.out⟩

/-- The nodes that come of it. -/
def gotPart (vs : List VN) (o : Option Nat) : List VN := match o with
  | none => []
  | some q => partOf vs q
def gotB (vs : List VN) (ps : List PS) : Bool := okB vs && pathB ps && (gotN vs (vs.length - 1) ps).isSome
def gotNs (vs : List VN) (ps : List PS) : List VN := if okB vs && pathB ps then (gotPart vs (gotN vs (vs.length - 1) ps)) else []

theorem pathB_steps {ps : List PS} (h : pathB ps = true) : ∀ k, k < ps.length → stepB (stepAt ps k) = true := by
  unfold pathB at h
  simp only [Bool.and_eq_true, List.all_eq_true] at h
  exact fun k hk => h.2 k (List.mem_range.2 hk)

theorem stepB_nonneg {x : PS} (h : stepB x = true) : x.named = true ∨ 0 ≤ x.pl := by
  unfold stepB at h
  cases hnm : x.named
  · right; simp [hnm] at h; omega
  · exact Or.inl rfl

end Go.Proofs.Ytpakfgonemiebaa

/-
  impl.valueOf: the value of right nodes.
-/
namespace Go.Proofs.Ytpakfgonemiebaa
open Go.RowKit
set_option linter.unusedSimpArgs false
set_option linter.unusedVariables false

set_option maxRecDepth 100000 in
set_option maxHeartbeats 1600000 in
theorem valueOf_no (B : Nat) (v : Value) (vs : List VN) (w : World) (h : NodesAt B w v vs) (hB : B ≤ w.heap.size) (hno : okB vs = false) :
    Calls Try.prog 36 #[v] w fun e w' => e = .returned (.tuple #[.nilIface, .bool false]) ∧ Below w.heap.size w w' := by
  have HV := hideIt h
  obtain ⟨_, a, cap, rfl, _⟩ := h
  go_enter Try.func36, Try.ntmps36
  go_wp2_with fail
  refine (implOk_any B _ vs _ HV.out hB).mono ?_
  rintro e w1 ⟨rfl, hb1⟩
  go_wp2_with fail
  go_ret2
  exact ⟨rfl, hb1⟩

set_option maxRecDepth 100000 in
set_option maxHeartbeats 1600000 in
theorem valueOf_yes (B : Nat) (v : Value) (vs : List VN) (w : World) (h : NodesAt B w v vs) (hB : B ≤ w.heap.size) (hyes : okB vs = true) :
    Calls Try.prog 36 #[v] w fun e w' => ∃ lo t x, e = .returned (.tuple #[.iface t x, .bool true]) ∧ w.heap.size ≤ lo ∧ lo < w'.heap.size ∧ ValIs lo w'.heap.size w' vs vs.length (vs.length - 1) (.iface t x) ∧ Below w.heap.size w w' := by
  have HV := hideIt h
  obtain ⟨_, a, cap, rfl, _⟩ := h
  obtain ⟨⟨hn1, hn2⟩, hok, _, hkn⟩ := okB_parts hyes
  have HOK := hideIt hok
  have HKN := hideIt hkn
  clear hok hkn
  go_enter Try.func36, Try.ntmps36
  go_wp2_with fail
  refine (implOk_any B _ vs _ HV.out hB).mono ?_
  rintro e w1 ⟨rfl, hb1⟩
  have z1 := hb1.size
  go_wp2_with fail
  refine (valuesAt_any B _ vs _ (HV.out.below (hb1.mono hB)) (by omega) hn1 hn2 HOK.out HKN.out).mono ?_
  rintro e w2 ⟨VV, rfl, hrow, hvals, hb2⟩
  have z2 := hb2.size
  obtain ⟨t, x, hx⟩ := (hvals (vs.length - 1) (by omega)).iface
  have hc : w2.cell? ⟨w1.heap.size, vs.length - 1, none⟩ = some (.iface t x) := by rw [hrow.cell (by omega), hx]
  have hlt := hrow.lt
  have hval := hvals (vs.length - 1) (by omega)
  rw [hx] at hval
  have HVL := hideIt hval
  have p0 : ((vs.length : Int) - 1).toNat = vs.length - 1 := by omega
  clear hrow hvals hx hval
  go_wp2_with fail
  go_ret2
  exact ⟨w1.heap.size, t, x, rfl, by omega, hlt, ValIs.more (by omega) HVL.out, hb1.trans (hb2.mono z1)⟩
end Go.Proofs.Ytpakfgonemiebaa
