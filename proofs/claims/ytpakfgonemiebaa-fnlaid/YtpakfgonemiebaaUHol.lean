/-
  (*impl.treePart).holder: the part into which the last step leads.
-/
import Derived.Test.YtpakfgonemiebaaSWh
namespace Go.Proofs.Ytpakfgonemiebaa
open Go.RowKit
set_option linter.unusedSimpArgs false
set_option linter.unusedVariables false

theorem steps_init {B : Nat} {w : World} {a : Option Addr} {cap m : Nat} {ps : List PS} (h : StepsAt B w (.slice a (m + 1) cap) ps) (hm : ps.length = m + 1) : StepsAt B w (.slice a m cap) (ps.take m) := by
  obtain ⟨h1, h2, a', cap', e, h3⟩ := h
  simp only [Value.slice.injEq] at e
  obtain ⟨rfl, _, rfl⟩ := e
  have hl : (ps.take m).length = m := by rw [List.length_take]; omega
  have hat : ∀ i, i < m → stepAt (ps.take m) i = stepAt ps i := fun i hi => by
    unfold stepAt
    rw [List.getD_eq_getElem?_getD, List.getD_eq_getElem?_getD, List.getElem?_take, if_pos hi]
  refine ⟨by rw [hl]; omega, fun i hi => ?_, a, cap, by rw [hl], fun hpos => ?_⟩
  · rw [hl] at hi; rw [hat i hi]; exact h2 i (by omega)
  · obtain ⟨b, o, ea, hb, hc⟩ := h3 (by omega)
    refine ⟨b, o, ea, hb, fun i hi => ?_⟩
    rw [hl] at hi
    rw [hat i hi]
    exact hc i (by omega)

set_option maxRecDepth 100000 in
set_option maxHeartbeats 3200000 in
theorem holder_nil (p0 : Nat) (a : Option Addr) (cap : Nat) (w : World) : Calls Try.prog 38 #[.pointer (some ⟨p0, 0, none⟩), .slice a 0 cap] w fun e w' => e = .returned (.tuple #[.pointer none, .agg #[.bool false, .string ⟨#[]⟩, .int .i64 0], .bool false]) ∧ Below w.heap.size w w' := by
  go_enter Try.func38, Try.ntmps38
  go_wp2_with fail
  refine bodyPost_ret (v := .tuple #[.pointer none, .agg #[.bool false, .string ⟨#[]⟩, .int .i64 0], .bool false]) (by simp [results, Try.results38, go_sem]) rfl ?_
  exact ⟨rfl, (Below.refl _ _).alloc (Nat.le_refl _) _⟩

set_option maxRecDepth 100000 in
set_option maxHeartbeats 3200000 in
theorem holder_some (B X f0 : Nat) (t0 : VT) (lo0 hi0 p0 : Nat) (a : Option Addr) (cap N m : Nat) (hNm : N = m + 1) (ps : List PS) (w : World) (h : PT B w f0 t0 lo0 hi0 (.pointer (some ⟨p0, 0, none⟩))) (hg0 : goodT f0 t0) (hBl : B ≤ lo0) (hX : hi0 ≤ X) (hXw : X ≤ w.heap.size) (hh : hi0 ≤ w.heap.size) (hBw : B ≤ w.heap.size)
    (hm : ps.length = N) (hv : StepsAt w.heap.size w (.slice a N cap) ps) (hst : ∀ k, k < ps.length → stepB (stepAt ps k) = true) (hcap : N ≤ cap) (hN : N ≤ 1048576) :
    Calls Try.prog 38 #[.pointer (some ⟨p0, 0, none⟩), .slice a N cap] w fun e w' => ∃ p, e = .returned (.tuple #[folPtrT (folT (ps.take m) t0) p, .agg #[.bool (stepAt ps m).named, .string (stepAt ps m).key, .int .i64 (stepAt ps m).pl], .bool (folT (ps.take m) t0).isSome]) ∧ (∀ s, folT (ps.take m) t0 = some s → ∃ f lo hi, (f0 ≤ f + m ∧ goodT f s) ∧ lo0 ≤ lo ∧ hi ≤ hi0 ∧ PT B w' f s lo hi (.pointer (some ⟨p, 0, none⟩)) ∧ Ctx w' X f0 (plugT (ps.take m) t0) (.pointer (some ⟨p0, 0, none⟩)) f lo hi (.pointer (some ⟨p, 0, none⟩))) ∧ Below w.heap.size w w' := by
  have hba : Below w.heap.size w (w.alloc (.cells #[.bool false, .string ⟨#[]⟩, .int .i64 0] 39)) := (Below.refl _ _).alloc (Nat.le_refl _) _
  have hin := steps_init (m := m) (by rw [← hNm]; exact hv) (by rw [hm, hNm])
  have HC := hideIt (followC_any B X f0 t0 lo0 hi0 p0 (.slice a m cap) (ps.take m) (w.alloc (.cells #[.bool false, .string ⟨#[]⟩, .int .i64 0] 39)) (h.below hba hBw hh) hg0 hBl hX (by simp; omega) (by simp; omega) (by simp; omega) ((hin.below hba).wide (by simp)) (fun k hk => by
    rw [List.length_take] at hk
    have hat : stepAt (ps.take m) k = stepAt ps k := by
      unfold stepAt
      rw [List.getD_eq_getElem?_getD, List.getD_eq_getElem?_getD, List.getElem?_take, if_pos (by omega)]
    rw [hat]
    exact hst k (by omega)))
  obtain ⟨_, _, a', cap', e, h3⟩ := hv
  simp only [Value.slice.injEq] at e
  obtain ⟨rfl, hNx, rfl⟩ := e
  clear hNx
  obtain ⟨b, o, rfl, hb, hc⟩ := h3 (by omega)
  obtain ⟨hc0, hc1, hc2⟩ := hc m (by omega)
  obtain ⟨F, hF⟩ : ∃ F, folT (ps.take m) t0 = F := ⟨_, rfl⟩
  obtain ⟨PL, hPL⟩ : ∃ PL, plugT (ps.take m) t0 = PL := ⟨_, rfl⟩
  rw [hF, hPL] at HC ⊢
  have HBA := hideIt hba
  have hNI : (N : Int) - 1 = (m : Int) := by omega
  have hN0 : ¬ (N : Int) = 0 := by omega
  have hN0' : ((N : Int) == 0) = false := by simp; omega
  have hmN : (m : Int) ≤ (N : Int) := by omega
  have hmN' : m ≤ N := by omega
  have hmN2 : (m : Int) < (N : Int) := by omega
  have hmc : m ≤ cap := by omega
  have HNM := hideIt hNm
  have HMM := hideIt hm
  clear h hg0 hin hst h3 hc hba hF hPL hNm hm
  go_enter Try.func38, Try.ntmps38
  go_wp2_with fail
  refine HC.out.mono ?_
  rintro e w1 ⟨p, rfl, hctx, hb1⟩
  have HX := hideIt hctx
  have HB1 : Hid (Below w.heap.size w w1) := HBA.out.trans (hb1.mono (by simp))
  have d0 := (below_cell HB1.out hb).trans hc0
  have d1 := (below_cell HB1.out hb).trans hc1
  have d2 := (below_cell HB1.out hb).trans hc2
  have z0 : w.heap.size + 1 ≤ w1.heap.size := by simpa using hb1.size
  have nb := (hb1.block w.heap.size (by simp)).trans (heap_alloc_new w _)
  obtain ⟨FP, hFP⟩ : ∃ FP, folPtrT F p = FP := ⟨_, rfl⟩
  obtain ⟨FS, hFS⟩ : ∃ FS, F.isSome = FS := ⟨_, rfl⟩
  rw [hFP, hFS]
  have HFP := hideIt hFP
  have HFS := hideIt hFS
  clear hctx hb1 hc0 hc1 hc2 HC hFP hFS
  go_wp2_with fail
  have HBD : Hid (Below w1.heap.size w1 w1.drew) := (Below.refl _ _).drew
  refine wp_region_any (by kernel_rfl) ?_
  change wpAny _ _ _ _ _ _ _ (World.drew _)
  refine wpAny_take (i := 0) (v := FP) rfl (by kernel_rfl) (by kernel_rfl) (by kernel_rfl) (fun _ _ _ h => h) (Or.inl ⟨by kernel_rfl, fun w => ?_⟩) ?_
  · go_simp
  refine wpAny_take (i := 1) (v := .slice (some ⟨b, o, none⟩) N cap) rfl (by kernel_rfl) (by kernel_rfl) (by kernel_rfl) (fun _ _ _ h => h) (Or.inl ⟨by kernel_rfl, fun w => ?_⟩) ?_
  · go_simp
  refine wpAny_take (i := 2) (v := .int .i64 (m : Int)) rfl (by kernel_rfl) (by kernel_rfl) (by kernel_rfl) (fun _ _ _ h => h) (Or.inl ⟨by kernel_rfl, fun w => ?_⟩) ?_
  · go_simp
  refine wpAny_take (i := 3) (v := .pointer (some ⟨b, o + m * 3, none⟩)) rfl (by kernel_rfl) (by kernel_rfl) (by kernel_rfl) (fun _ _ _ h => h) (Or.inl ⟨by kernel_rfl, fun w => ?_⟩) ?_
  · go_simp
  refine wpAny_take (i := 5) (v := .bool FS) rfl (by kernel_rfl) (by kernel_rfl) (by kernel_rfl) (fun _ _ _ h => h) (Or.inl ⟨by kernel_rfl, fun w => ?_⟩) ?_
  · go_simp
  refine wpAny_take (i := 6) (v := FP) rfl (by kernel_rfl) (by kernel_rfl) (by kernel_rfl) (fun _ _ _ h => h) (Or.inl ⟨by kernel_rfl, fun w => ?_⟩) ?_
  · go_simp
  go_simp
  refine wpAny_ready (rs := [4]) (by kernel_rfl) (by simp) ?_
  refine AllReady.cons rfl (fun K hK => ?_) AllReady.nil
  go_simp
  refine hK _ _ ?_
  clear hK K
  have nbD : w1.heap[w.heap.size]? = some (.cells #[.bool false, .string ⟨#[]⟩, .int .i64 0] 39 (0, 0)) := nb
  have q0 : w1.cell? ⟨w.heap.size, 0, none⟩ = some (.bool false) := by simp [World.cell?, nbD]
  have q1 : w1.cell? ⟨w.heap.size, 1, none⟩ = some (.string ⟨#[]⟩) := by simp [World.cell?, nbD]
  have q2 : w1.cell? ⟨w.heap.size, 2, none⟩ = some (.int .i64 0) := by simp [World.cell?, nbD]
  have r0 : w1.frozen? ⟨w.heap.size, 0, none⟩ = false := by simp [World.frozen?, nbD]
  have r1 : w1.frozen? ⟨w.heap.size, 1, none⟩ = false := by simp [World.frozen?, nbD]
  have r2 : w1.frozen? ⟨w.heap.size, 2, none⟩ = false := by simp [World.frozen?, nbD]
  clear nb nbD
  refine wpAny_ready (rs := [7]) (by kernel_rfl) (by simp) ?_
  refine AllReady.cons rfl (fun K hK => ?_) AllReady.nil
  go_simp
  refine hK _ _ ?_
  clear hK K
  obtain ⟨W5, hW5⟩ : ∃ W5, (((w1.setCell ⟨w.heap.size, 0, none⟩ (.bool (stepAt ps m).named)).setCell ⟨w.heap.size, 1, none⟩ (.string (stepAt ps m).key)).setCell ⟨w.heap.size, 2, none⟩ (.int .i64 (stepAt ps m).pl)).drew = W5 := ⟨_, rfl⟩
  rw [hW5]
  have k0 : W5.cell? ⟨w.heap.size, 0, none⟩ = some (.bool (stepAt ps m).named) := by
    rw [← hW5]; show World.cell? (World.setCell _ _ _) _ = _
    rw [World.cell?_setCell_other (h := by simp), World.cell?_setCell_other (h := by simp)]; exact World.cell?_setCell_same _ _ _ q0
  have k1 : W5.cell? ⟨w.heap.size, 1, none⟩ = some (.string (stepAt ps m).key) := by
    rw [← hW5]; show World.cell? (World.setCell _ _ _) _ = _
    rw [World.cell?_setCell_other (h := by simp)]; exact World.cell?_setCell_same _ _ _ (by rw [World.cell?_setCell_other (h := by simp)]; exact q1)
  have k2 : W5.cell? ⟨w.heap.size, 2, none⟩ = some (.int .i64 (stepAt ps m).pl) := by
    rw [← hW5]; show World.cell? (World.setCell _ _ _) _ = _
    exact World.cell?_setCell_same _ _ _ (by rw [World.cell?_setCell_other (h := by simp), World.cell?_setCell_other (h := by simp)]; exact q2)
  have HW5 : Hid (W5.os = w1.os ∧ W5.tape = w1.tape ∧ W5.output = w1.output ∧ W5.heap.size = w1.heap.size ∧ ∀ c, c ≠ w.heap.size → W5.heap[c]? = w1.heap[c]?) := by
    rw [Hid, ← hW5]
    refine ⟨rfl, rfl, rfl, by show (World.setCell _ _ _).heap.size = _; simp, fun c hc => ?_⟩
    show (World.setCell _ _ _).heap[c]? = _
    rw [Below.heap_setCell _ _ _ c hc, Below.heap_setCell _ _ _ c hc, Below.heap_setCell _ _ _ c hc]
  have HBL5 : Hid (Below w.heap.size w W5) := ⟨HW5.out.1.trans HB1.out.os, HW5.out.2.1.trans HB1.out.tape, HW5.out.2.2.1.trans HB1.out.output, by rw [HW5.out.2.2.2.1]; exact HB1.out.size, fun c hc => (HW5.out.2.2.2.2 c (by omega)).trans (HB1.out.block c hc)⟩
  have HFIN : Hid (∀ s, F = some s → ∃ f lo hi, (f0 ≤ f + m ∧ goodT f s) ∧ lo0 ≤ lo ∧ hi ≤ hi0 ∧ PT B W5 f s lo hi (.pointer (some ⟨p, 0, none⟩)) ∧ Ctx W5 X f0 PL (.pointer (some ⟨p0, 0, none⟩)) f lo hi (.pointer (some ⟨p, 0, none⟩))) := fun s hs => by
    obtain ⟨f, lo, hi, h1, h2, h3, h4, h5⟩ := HX.out s hs
    exact ⟨f, lo, hi, ⟨by have a1 := h1.1; have a2 := List.length_take_le m ps; omega, h1.2⟩, h2, h3, h4.move (fun c hc => HW5.out.2.2.2.2 c (by omega)) (Nat.le_refl _) (Nat.le_refl _) (fun c _ hc => HW5.out.2.2.2.2 c (by omega)), h5.below (fun c hc => HW5.out.2.2.2.2 c (by omega))⟩
  clear hW5 q0 q1 q2 r0 r1 r2 d0 d1 d2
  refine wpAny_take (i := 8) (v := .bool FS) rfl (by kernel_rfl) (by kernel_rfl) (by kernel_rfl) (fun _ _ _ h => h) (Or.inl ⟨by kernel_rfl, fun w => ?_⟩) ?_
  · go_simp
  go_simp
  refine wpAny_done (by kernel_rfl) ?_ _
  go_wp2_with fail
  refine bodyPost_ret (v := .tuple #[FP, .agg #[.bool (stepAt ps m).named, .string (stepAt ps m).key, .int .i64 (stepAt ps m).pl], .bool FS]) (by simp [results, Try.results38, go_sem, k0, k1, k2]) rfl ?_
  exact ⟨p, by rw [HFP.out, HFS.out], HFIN.out, HBL5.out⟩
end Go.Proofs.Ytpakfgonemiebaa
