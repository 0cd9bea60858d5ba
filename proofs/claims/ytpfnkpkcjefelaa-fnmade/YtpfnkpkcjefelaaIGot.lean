/-
  Got of the specification and of the program.
-/
import Derived.Test.YtpfnkpkcjefelaaSGot
import Derived.Test.YtpfnkpkcjefelaaTVal
import Derived.Test.YtpfnkpkcjefelaaIListOf
namespace Go.Proofs.Ytpfnkpkcjefelaa
open Go.RowKit
set_option linter.unusedSimpArgs false
set_option linter.unusedVariables false

theorem gotN_lt {vs : List VN} (hok : okB vs = true) : ∀ (ps : List PS) (i q : Nat), i < vs.length → (∀ s ∈ ps, s.named = true ∨ 0 ≤ s.pl) → gotN vs i ps = some q → q < vs.length := by
  intro ps
  induction ps with
  | nil => intro i q hi _ h; simp [gotN] at h; omega
  | cons s r ih =>
    intro i q hi hs h
    simp only [gotN] at h
    cases e : stepN (nodeAt vs i) s with
    | none => rw [e] at h; cases h
    | some k =>
      rw [e] at h
      have hk := stepN_lt (hs s (by simp)) (fun e => (node6 hok hi e).2.1) e
      have := kidsIn_get (keys_few hok i hi).1 hk
      exact ih _ _ (by omega) (fun x hx => hs x (by simp [hx])) h

/-- The nodes that come of Got are few, and fit. -/
theorem got_few {vs : List VN} {ps : List PS} (hf : ∀ i, i < vs.length → Fits (nodeAt vs i)) : Few (gotNs vs ps) ∧ ∀ i, i < (gotNs vs ps).length → Fits (nodeAt (gotNs vs ps) i) := by
  have nil : Few ([] : List VN) ∧ ∀ i, i < ([] : List VN).length → Fits (nodeAt [] i) := ⟨⟨by simp, fun i hi => absurd hi (by simp)⟩, fun i hi => absurd hi (by simp)⟩
  unfold gotNs
  split
  · rename_i h
    simp only [Bool.and_eq_true] at h
    cases e : gotN vs (vs.length - 1) ps with
    | none => exact nil
    | some q =>
      have hl := (okB_parts h.1).1
      have hst := pathB_steps h.2
      have hq := gotN_lt h.1 ps (vs.length - 1) q (by omega) (fun s hs => by
        obtain ⟨k, hk, rfl⟩ := List.getElem_of_mem hs
        have := stepB_nonneg (hst k hk)
        simpa [stepAt, hk] using this) e
      have pf := part_fits h.1 hf hq
      have pl := (okB_parts (part_okB h.1 hq)).1
      exact ⟨⟨pl.2, fun i hi => (pf i hi).2⟩, fun i hi => (pf i hi).1⟩
  · exact nil

set_option maxRecDepth 100000 in
set_option maxHeartbeats 1600000 in
theorem treeFor_no (B : Nat) (v u : Value) (vs : List VN) (ps : List PS) (w : World) (h : NodesAt B w v vs) (hu : StepsAt B w u ps) (hB : B ≤ w.heap.size) (hno : (okB vs && pathB ps) = false) :
    Calls Try.prog 74 #[v, u] w fun e w' => e = .returned (.tuple #[.pointer none, .bool false]) ∧ Below w.heap.size w w' := by
  have HV := hideIt h
  have HU := hideIt hu
  obtain ⟨_, a, cap, rfl, _⟩ := h
  obtain ⟨_, _, au, cu, rfl, _⟩ := hu
  cases ok1 : okB vs
  · go_enter Try.func74, Try.ntmps74
    go_wp2_with fail
    refine (valueOf_no B _ vs _ HV.out hB ok1).mono ?_
    rintro e w1 ⟨rfl, hb1⟩
    go_wp2_with fail
    go_ret2
    exact ⟨rfl, hb1⟩
  · have ok2 : pathB ps = false := by rw [ok1] at hno; exact hno
    go_enter Try.func74, Try.ntmps74
    go_wp2_with fail
    refine (valueOf_yes B _ vs _ HV.out hB ok1).mono ?_
    rintro e w1 ⟨lo1, t, x, rfl, hl1, hl2, hv1, hb1⟩
    have z1 := hb1.size
    clear hv1
    go_wp2_with fail
    refine (implPathOk_any B _ ps _ (HU.out.below (hb1.mono hB)) (by omega)).mono ?_
    rintro e w2 ⟨rfl, hb2⟩
    rw [ok2]
    go_wp2_with fail
    go_ret2
    exact ⟨rfl, hb1.trans (hb2.mono z1)⟩

set_option maxRecDepth 100000 in
set_option maxHeartbeats 1600000 in
theorem treeFor_yes (B : Nat) (v u : Value) (vs : List VN) (ps : List PS) (w : World) (h : NodesAt B w v vs) (hu : StepsAt B w u ps) (hB : B ≤ w.heap.size) (ok1 : okB vs = true) (ok2 : pathB ps = true) :
    Calls Try.prog 74 #[v, u] w fun e w' => ∃ p B' lo, e = .returned (.tuple #[.pointer (some ⟨p, 0, none⟩), .bool true]) ∧ w.heap.size ≤ B' ∧ B' ≤ lo ∧ lo ≤ w'.heap.size ∧ PT B' w' vs.length (treeOf vs vs.length (vs.length - 1)) lo w'.heap.size (.pointer (some ⟨p, 0, none⟩)) ∧ Below w.heap.size w w' := by
  have HV := hideIt h
  have HU := hideIt hu
  obtain ⟨_, a, cap, rfl, _⟩ := h
  obtain ⟨_, _, au, cu, rfl, _⟩ := hu
  obtain ⟨p1, p2, _, p4⟩ := okB_parts ok1
  go_enter Try.func74, Try.ntmps74
  go_wp2_with fail
  refine (valueOf_yes B _ vs _ HV.out hB ok1).mono ?_
  rintro e w1 ⟨lo1, t, x, rfl, hl1, hl2, hv1, hb1⟩
  have z1 := hb1.size
  have HT := hideIt (ValIs.tree (by omega) p2 p4 p1.2 (by omega) hv1)
  clear hv1 p2 p4
  go_wp2_with fail
  refine (implPathOk_any B _ ps _ (HU.out.below (hb1.mono hB)) (by omega)).mono ?_
  rintro e w2 ⟨rfl, hb2⟩
  rw [ok2]
  have z2 := hb2.size
  have HT2 := hideIt (TreeAt.keep (fun c hc => hb2.block c hc) (Nat.le_refl _) HT.out)
  have HB2 := hideIt (hb1.trans (hb2.mono z1))
  clear hb1 hb2
  go_wp2_with fail
  refine (treeOf_any w1.heap.size vs.length _ _ _ HT2.out z2).mono ?_
  rintro e w3 ⟨p, rfl, hpt, hb3⟩
  have HPT := hideIt hpt
  have z3 := hb3.size
  have HB3 := hideIt (HB2.out.trans (hb3.mono (by omega)))
  clear hpt hb3
  go_wp2_with fail
  go_ret2
  exact ⟨p, w1.heap.size, w2.heap.size, rfl, z1, z2, z3, HPT.out, HB3.out⟩

set_option maxRecDepth 100000 in
set_option maxHeartbeats 3200000 in
theorem implGot_any (B : Nat) (v u : Value) (vs : List VN) (ps : List PS) (w : World) (h : NodesAt B w v vs) (hu : StepsAt B w u ps) (hB : B ≤ w.heap.size) :
    Calls Try.prog 32 #[v, u] w fun e w' => ∃ r base KV IV, e = .returned (.tuple #[r, .bool (gotB vs ps)]) ∧ w.heap.size ≤ base ∧ base ≤ w'.heap.size ∧ Nest base w' r (gotNs vs ps) KV IV ∧ Below w.heap.size w w' := by
  have HV := hideIt h
  have HU := hideIt hu
  have HFI := hideIt h.fits
  obtain ⟨_, a, cap, rfl, _⟩ := h
  obtain ⟨_, _, au, cu, rfl, _⟩ := hu
  have HGB : Hid (gotB vs ps = (okB vs && pathB ps && (gotN vs (vs.length - 1) ps).isSome)) := rfl
  have HGN : Hid (gotNs vs ps = if okB vs && pathB ps then (gotPart vs (gotN vs (vs.length - 1) ps)) else []) := rfl
  cases ok : (okB vs && pathB ps)
  · go_enter Try.func32, Try.ntmps32
    go_wp2_with fail
    refine (treeFor_no B _ _ vs ps _ HV.out HU.out hB ok).mono ?_
    rintro e w1 ⟨rfl, hb1⟩
    have z1 := hb1.size
    go_wp2_with fail
    go_ret2
    exact ⟨.slice none 0 0, w.heap.size, fun _ => undef, fun _ => undef, by rw [HGB.out, ok]; rfl, Nat.le_refl _, z1, by rw [HGN.out, ok]; exact Nest.nil _ _ _ _, hb1⟩
  · obtain ⟨ok1, ok2⟩ : okB vs = true ∧ pathB ps = true := by simpa using ok
    have hl := (okB_parts ok1).1
    have HST := hideIt (pathB_steps ok2)
    go_enter Try.func32, Try.ntmps32
    go_wp2_with fail
    refine (treeFor_yes B _ _ vs ps _ HV.out HU.out hB ok1 ok2).mono ?_
    rintro e w1 ⟨p, B', lo, rfl, hB', hlo, hlo', hpt, hb1⟩
    have HPT := hideIt hpt
    have z1 := hb1.size
    have HB1 := hideIt hb1
    have HU1 := hideIt ((HU.out.below (hb1.mono hB)).wide (B' := w1.heap.size) (by omega))
    clear hpt hb1
    go_wp2_with fail
    refine (follow_any B' vs ok1 vs.length (vs.length - 1) lo w1.heap.size p _ ps _ HPT.out (by omega) (by omega) (by omega) (Nat.le_refl _) HU1.out HST.out).mono ?_
    rintro e w2 ⟨p2, rfl, hfol, hb2⟩
    have z2 := hb2.size
    have HF := hideIt hfol
    have HB2 := hideIt (HB1.out.trans (hb2.mono z1))
    clear hfol hb2
    cases hg : gotN vs (vs.length - 1) ps with
    | none =>
      have h1 : folPtr none p2 = .pointer none := rfl
      have h2 : (none : Option Nat).isSome = false := rfl
      rw [h1, h2]
      go_wp2_with fail
      go_ret2
      exact ⟨.slice none 0 0, w.heap.size, fun _ => undef, fun _ => undef, by rw [HGB.out, ok, hg]; rfl, Nat.le_refl _, by omega, by rw [HGN.out, ok, hg]; exact Nest.nil _ _ _ _, HB2.out⟩
    | some q =>
      obtain ⟨hq, f, lo2, hi2, hqf, hhi, hpt2⟩ := HF.out q hg
      have HPT2 := hideIt hpt2
      have h1 : folPtr (some q) p2 = .pointer (some ⟨p2, 0, none⟩) := rfl
      have h2 : (some q : Option Nat).isSome = true := rfl
      have HLP := hideIt (lay_part ok1 hqf hq)
      have HPO := hideIt (part_okB ok1 hq)
      have HPF := hideIt (part_fits ok1 HFI.out hq)
      rw [h1, h2]
      clear hpt2 h1 h2
      go_wp2_with fail
      refine (value_any B' w2.heap.size f _ lo2 hi2 _ _ HPT2.out hhi (by omega) (Nat.le_refl _)).mono ?_
      rintro e w3 ⟨ty, x, rfl, htk, hb3⟩
      have z3 := hb3.size
      have HT := hideIt (htk.tree (X := w3.heap.size) z3 (Nat.le_refl _))
      have HB3 := hideIt (HB2.out.trans (hb3.mono (by omega)))
      clear htk hb3
      go_wp2_with fail
      refine (rightNodes_any f (treeOf vs f q) _ (partOf vs q) _ HT.out HLP.out.1 (by have := HLP.out.2; omega) (fun i hi => (HPF.out i hi).1)).mono ?_
      rintro e w4 ⟨r, base, KV, IV, rfl, hbs, hbs2, hn4, hb4⟩
      rw [HPO.out]
      have hrn : rightNs (partOf vs q) = partOf vs q := by unfold rightNs; rw [HPO.out]; rfl
      rw [hrn] at hn4
      have HN4 := hideIt hn4
      obtain ⟨ar, cr, er⟩ := own_slice hn4.row
      obtain ⟨N, hN⟩ : ∃ N, (partOf vs q).length = N := ⟨_, rfl⟩
      rw [hN] at er
      subst er
      have HB4 := hideIt (HB3.out.trans (hb4.mono (by omega)))
      clear hn4 hN hb4 hrn
      go_wp2_with fail
      go_ret2
      exact ⟨.slice ar N cr, base, KV, IV, by rw [HGB.out, ok, hg]; rfl, by omega, by omega, by rw [HGN.out, ok, hg]; exact HN4.out, HB4.out⟩
end Go.Proofs.Ytpfnkpkcjefelaa
