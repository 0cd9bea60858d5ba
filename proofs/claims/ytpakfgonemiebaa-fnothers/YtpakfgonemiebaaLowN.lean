/-
  Got of the specification and of the program.
-/
import Derived.Test.YtpakfgonemiebaaVOf
import Derived.Test.YtpakfgonemiebaaTVal
import Derived.Test.YtpakfgonemiebaaMapP
import Derived.Test.YtpakfgonemiebaaSParts
import Derived.Test.YtpakfgonemiebaaAppS
import Derived.Deep.AppendLies
import Derived.Test.YtpakfgonemiebaaSPart
namespace Go.Proofs.Ytpakfgonemiebaa
open Go.RowKit
set_option linter.unusedSimpArgs false
set_option linter.unusedVariables false

theorem gotN_lt {vs : List VN} (hok : okB vs = true) : ∀ (ps : List PS) (i q : Nat), i < vs.length → (∀ s ∈ ps, s.named = true ∨ 0 ≤ s.pl) → gotN vs i ps = some q → q < vs.length := by
  intro ps
  induction ps with
  | nil => intro i q hi _ h; simp [gotN] at h; omega
  | cons s r ih =>
    intro i q hi hs h
    simp only [gotN] at h
    cases e : stepN (nodeAt vs i) s with
    | none => rw [e] at h; cases h
    | some k =>
      rw [e] at h
      have hk := stepN_lt (hs s (by simp)) (fun e => (node6 hok hi e).2.1) e
      have := kidsIn_get (keys_few hok i hi).1 hk
      exact ih _ _ (by omega) (fun x hx => hs x (by simp [hx])) h

/-- The nodes that come of Got are few, and fit. -/
theorem got_few {vs : List VN} {ps : List PS} (hf : ∀ i, i < vs.length → Fits (nodeAt vs i)) : Few (gotNs vs ps) ∧ ∀ i, i < (gotNs vs ps).length → Fits (nodeAt (gotNs vs ps) i) := by
  have nil : Few ([] : List VN) ∧ ∀ i, i < ([] : List VN).length → Fits (nodeAt [] i) := ⟨⟨by simp, fun i hi => absurd hi (by simp)⟩, fun i hi => absurd hi (by simp)⟩
  unfold gotNs
  split
  · rename_i h
    simp only [Bool.and_eq_true] at h
    cases e : gotN vs (vs.length - 1) ps with
    | none => exact nil
    | some q =>
      have hl := (okB_parts h.1).1
      have hst := pathB_steps h.2
      have hq := gotN_lt h.1 ps (vs.length - 1) q (by omega) (fun s hs => by
        obtain ⟨k, hk, rfl⟩ := List.getElem_of_mem hs
        have := stepB_nonneg (hst k hk)
        simpa [stepAt, hk] using this) e
      have pf := part_fits h.1 hf hq
      have pl := (okB_parts (part_okB h.1 hq)).1
      exact ⟨⟨pl.2, fun i hi => (pf i hi).2⟩, fun i hi => (pf i hi).1⟩
  · exact nil

set_option maxRecDepth 100000 in
set_option maxHeartbeats 1600000 in
theorem treeFor_no (B : Nat) (v u : Value) (vs : List VN) (ps : List PS) (w : World) (h : NodesAt B w v vs) (hu : StepsAt B w u ps) (hB : B ≤ w.heap.size) (hno : (okB vs && pathB ps) = false) :
    Calls Try.prog 35 #[v, u] w fun e w' => e = .returned (.tuple #[.pointer none, .bool false]) ∧ Below w.heap.size w w' := by
  have HV := hideIt h
  have HU := hideIt hu
  obtain ⟨_, a, cap, rfl, _⟩ := h
  obtain ⟨_, _, au, cu, rfl, _⟩ := hu
  cases ok1 : okB vs
  · go_enter Try.func35, Try.ntmps35
    go_wp2_with fail
    refine (valueOf_no B _ vs _ HV.out hB ok1).mono ?_
    rintro e w1 ⟨rfl, hb1⟩
    go_wp2_with fail
    go_ret2
    exact ⟨rfl, hb1⟩
  · have ok2 : pathB ps = false := by rw [ok1] at hno; exact hno
    go_enter Try.func35, Try.ntmps35
    go_wp2_with fail
    refine (valueOf_yes B _ vs _ HV.out hB ok1).mono ?_
    rintro e w1 ⟨lo1, t, x, rfl, hl1, hl2, hv1, hb1⟩
    have z1 := hb1.size
    clear hv1
    go_wp2_with fail
    refine (implPathOk_any B _ ps _ (HU.out.below (hb1.mono hB)) (by omega)).mono ?_
    rintro e w2 ⟨rfl, hb2⟩
    rw [ok2]
    go_wp2_with fail
    go_ret2
    exact ⟨rfl, hb1.trans (hb2.mono z1)⟩

set_option maxRecDepth 100000 in
set_option maxHeartbeats 1600000 in
theorem treeFor_yes (B : Nat) (v u : Value) (vs : List VN) (ps : List PS) (w : World) (h : NodesAt B w v vs) (hu : StepsAt B w u ps) (hB : B ≤ w.heap.size) (ok1 : okB vs = true) (ok2 : pathB ps = true) :
    Calls Try.prog 35 #[v, u] w fun e w' => ∃ p B' lo, e = .returned (.tuple #[.pointer (some ⟨p, 0, none⟩), .bool true]) ∧ w.heap.size ≤ B' ∧ B' ≤ lo ∧ lo ≤ w'.heap.size ∧ PT B' w' vs.length (treeOf vs vs.length (vs.length - 1)) lo w'.heap.size (.pointer (some ⟨p, 0, none⟩)) ∧ Below w.heap.size w w' := by
  have HV := hideIt h
  have HU := hideIt hu
  obtain ⟨_, a, cap, rfl, _⟩ := h
  obtain ⟨_, _, au, cu, rfl, _⟩ := hu
  obtain ⟨p1, p2, _, p4⟩ := okB_parts ok1
  go_enter Try.func35, Try.ntmps35
  go_wp2_with fail
  refine (valueOf_yes B _ vs _ HV.out hB ok1).mono ?_
  rintro e w1 ⟨lo1, t, x, rfl, hl1, hl2, hv1, hb1⟩
  have z1 := hb1.size
  have HT := hideIt (ValIs.tree (by omega) p2 p4 p1.2 (by omega) hv1)
  clear hv1 p2 p4
  go_wp2_with fail
  refine (implPathOk_any B _ ps _ (HU.out.below (hb1.mono hB)) (by omega)).mono ?_
  rintro e w2 ⟨rfl, hb2⟩
  rw [ok2]
  have z2 := hb2.size
  have HT2 := hideIt (TreeAt.keep (fun c hc => hb2.block c hc) (Nat.le_refl _) HT.out)
  have HB2 := hideIt (hb1.trans (hb2.mono z1))
  clear hb1 hb2
  go_wp2_with fail
  refine (treeOf_any w1.heap.size vs.length _ _ _ HT2.out z2).mono ?_
  rintro e w3 ⟨p, rfl, hpt, hb3⟩
  have HPT := hideIt hpt
  have z3 := hb3.size
  have HB3 := hideIt (HB2.out.trans (hb3.mono (by omega)))
  clear hpt hb3
  go_wp2_with fail
  go_ret2
  exact ⟨p, w1.heap.size, w2.heap.size, rfl, z1, z2, z3, HPT.out, HB3.out⟩

set_option maxRecDepth 100000 in
set_option maxHeartbeats 3200000 in
theorem implGot_any (B : Nat) (v u : Value) (vs : List VN) (ps : List PS) (w : World) (h : NodesAt B w v vs) (hu : StepsAt B w u ps) (hB : B ≤ w.heap.size) :
    Calls Try.prog 12 #[v, u] w fun e w' => ∃ r base KV IV, e = .returned (.tuple #[r, .bool (gotB vs ps)]) ∧ w.heap.size ≤ base ∧ base ≤ w'.heap.size ∧ Nest base w' r (gotNs vs ps) KV IV ∧ Below w.heap.size w w' := by
  have HV := hideIt h
  have HU := hideIt hu
  have HFI := hideIt h.fits
  obtain ⟨_, a, cap, rfl, _⟩ := h
  obtain ⟨_, _, au, cu, rfl, _⟩ := hu
  have HGB : Hid (gotB vs ps = (okB vs && pathB ps && (gotN vs (vs.length - 1) ps).isSome)) := rfl
  have HGN : Hid (gotNs vs ps = if okB vs && pathB ps then (gotPart vs (gotN vs (vs.length - 1) ps)) else []) := rfl
  cases ok : (okB vs && pathB ps)
  · go_enter Try.func12, Try.ntmps12
    go_wp2_with fail
    refine (treeFor_no B _ _ vs ps _ HV.out HU.out hB ok).mono ?_
    rintro e w1 ⟨rfl, hb1⟩
    have z1 := hb1.size
    go_wp2_with fail
    go_ret2
    exact ⟨.slice none 0 0, w.heap.size, fun _ => undef, fun _ => undef, by rw [HGB.out, ok]; rfl, Nat.le_refl _, z1, by rw [HGN.out, ok]; exact Nest.nil _ _ _ _, hb1⟩
  · obtain ⟨ok1, ok2⟩ : okB vs = true ∧ pathB ps = true := by simpa using ok
    have hl := (okB_parts ok1).1
    have HST := hideIt (pathB_steps ok2)
    go_enter Try.func12, Try.ntmps12
    go_wp2_with fail
    refine (treeFor_yes B _ _ vs ps _ HV.out HU.out hB ok1 ok2).mono ?_
    rintro e w1 ⟨p, B', lo, rfl, hB', hlo, hlo', hpt, hb1⟩
    have HPT := hideIt hpt
    have z1 := hb1.size
    have HB1 := hideIt hb1
    have HU1 := hideIt ((HU.out.below (hb1.mono hB)).wide (B' := w1.heap.size) (by omega))
    clear hpt hb1
    go_wp2_with fail
    refine (follow_any B' vs ok1 vs.length (vs.length - 1) lo w1.heap.size p _ ps _ HPT.out (by omega) (by omega) (by omega) (Nat.le_refl _) HU1.out HST.out).mono ?_
    rintro e w2 ⟨p2, rfl, hfol, hb2⟩
    have z2 := hb2.size
    have HF := hideIt hfol
    have HB2 := hideIt (HB1.out.trans (hb2.mono z1))
    clear hfol hb2
    cases hg : gotN vs (vs.length - 1) ps with
    | none =>
      have h1 : folPtr none p2 = .pointer none := rfl
      have h2 : (none : Option Nat).isSome = false := rfl
      rw [h1, h2]
      go_wp2_with fail
      go_ret2
      exact ⟨.slice none 0 0, w.heap.size, fun _ => undef, fun _ => undef, by rw [HGB.out, ok, hg]; rfl, Nat.le_refl _, by omega, by rw [HGN.out, ok, hg]; exact Nest.nil _ _ _ _, HB2.out⟩
    | some q =>
      obtain ⟨hq, f, lo2, hi2, hqf, hhi, hpt2⟩ := HF.out q hg
      have HPT2 := hideIt hpt2
      have h1 : folPtr (some q) p2 = .pointer (some ⟨p2, 0, none⟩) := rfl
      have h2 : (some q : Option Nat).isSome = true := rfl
      have HLP := hideIt (lay_part ok1 hqf hq)
      have HPO := hideIt (part_okB ok1 hq)
      have HPF := hideIt (part_fits ok1 HFI.out hq)
      rw [h1, h2]
      clear hpt2 h1 h2
      go_wp2_with fail
      refine (value_any B' w2.heap.size f _ lo2 hi2 _ _ HPT2.out hhi (by omega) (Nat.le_refl _)).mono ?_
      rintro e w3 ⟨ty, x, rfl, htk, hb3⟩
      have z3 := hb3.size
      have HT := hideIt (htk.tree (X := w3.heap.size) z3 (Nat.le_refl _))
      have HB3 := hideIt (HB2.out.trans (hb3.mono (by omega)))
      clear htk hb3
      go_wp2_with fail
      refine (rightNodes_any f (treeOf vs f q) _ (partOf vs q) _ HT.out HLP.out.1 (by have := HLP.out.2; omega) (fun i hi => (HPF.out i hi).1)).mono ?_
      rintro e w4 ⟨r, base, KV, IV, rfl, hbs, hbs2, hn4, hb4⟩
      rw [HPO.out]
      have hrn : rightNs (partOf vs q) = partOf vs q := by unfold rightNs; rw [HPO.out]; rfl
      rw [hrn] at hn4
      have HN4 := hideIt hn4
      obtain ⟨ar, cr, er⟩ := own_slice hn4.row
      obtain ⟨N, hN⟩ : ∃ N, (partOf vs q).length = N := ⟨_, rfl⟩
      rw [hN] at er
      subst er
      have HB4 := hideIt (HB3.out.trans (hb4.mono (by omega)))
      clear hn4 hN hb4 hrn
      go_wp2_with fail
      go_ret2
      exact ⟨.slice ar N cr, base, KV, IV, by rw [HGB.out, ok, hg]; rfl, by omega, by omega, by rw [HGN.out, ok, hg]; exact HN4.out, HB4.out⟩
end Go.Proofs.Ytpakfgonemiebaa

/-
  The program's Taken.
-/
namespace Go.Proofs.Ytpakfgonemiebaa
open Go.RowKit
set_option linter.unusedSimpArgs false
set_option linter.unusedVariables false

theorem ok_fits {vs : List VN} (hok : okB vs = true) : Few vs ∧ ∀ i, i < vs.length → Fits (nodeAt vs i) := by
  obtain ⟨p1, p2, _, _⟩ := okB_parts hok
  refine ⟨⟨p1.2, fun i hi => ⟨(keys_few hok i hi).2.2, (keys_few hok i hi).2.1⟩⟩, fun i hi => ?_⟩
  obtain ⟨k1, k2, k3⟩ := keys_few hok i hi
  have hkid : ∀ j, j < (nodeAt vs i).kids.length → -9223372036854775808 ≤ intAt (nodeAt vs i).kids j ∧ intAt (nodeAt vs i).kids j ≤ 9223372036854775807 := fun j hj => by
    have := kidsIn_get k1 hj
    have := p1.2
    omega
  have hnode := (p2 i hi).1
  rw [nodeT_eq] at hnode
  have hem : ByteArray.empty.size = 0 := rfl
  rcases nodeT_says hnode with ⟨a1, a2, a3, a4, _⟩ | ⟨a1, a2, a3, a4, _⟩ | ⟨a1, a2, a3, a4, _⟩ | ⟨a1, a2, a3, a4, _⟩ | ⟨a1, a2, a3, a4⟩ | ⟨a1, a2, a3, a4, a5⟩
  · exact ⟨by omega, fun j hj => by rw [a4] at hj; simp at hj, by omega, hkid, by rw [a3]; omega, by omega, by omega, by omega, by omega⟩
  · exact ⟨by omega, fun j hj => by rw [a4] at hj; simp at hj, by omega, hkid, by rw [a3]; omega, by omega, by omega, by omega, by omega⟩
  · exact ⟨by omega, fun j hj => by rw [a4] at hj; simp at hj, by omega, hkid, by rw [a3]; omega, by omega, by omega, by omega, by omega⟩
  · exact ⟨by omega, fun j hj => by rw [a4] at hj; simp at hj, by omega, hkid, by omega, by omega, by omega, by omega, by omega⟩
  · exact ⟨by omega, fun j hj => by rw [a4] at hj; simp at hj, by omega, hkid, by rw [a3]; omega, by omega, by omega, by omega, by omega⟩
  · refine ⟨by omega, fun j hj => ?_, by omega, hkid, by rw [a3]; omega, by omega, by omega, by omega, by omega⟩
    have := (rise_at a5 hj).1
    unfold textB at this
    simp only [Bool.and_eq_true, decide_eq_true_eq] at this
    omega
/-- The tree of right nodes. -/
def treeV (vs : List VN) : VT := treeOf vs vs.length (vs.length - 1)
def takenT (vs : List VN) (ps : List PS) : Option VT := if (okB vs && pathB ps) = true then updT takeG ps (treeV vs) else none
def takenNs (vs : List VN) (ps : List PS) : List VN := match takenT vs ps with
  | none => []
  | some u => layT vs.length u 0
theorem steps_mem {ps : List PS} (h : pathB ps = true) : ∀ x ∈ ps, x.named = true ∨ 0 ≤ x.pl := by
  intro x hx
  obtain ⟨i, hi, e⟩ := List.getElem_of_mem hx
  have h1 := pathB_steps h i hi
  have e2 : stepAt ps i = x := by
    unfold stepAt
    rw [List.getD_eq_getElem?_getD, List.getElem?_eq_getElem hi, e]; rfl
  rw [e2] at h1
  exact stepB_nonneg h1
/-- What is taken of right nodes is right. -/
theorem taken_ok {vs : List VN} {ps : List PS} (hok : okB vs = true) (hps : pathB ps = true) {u : VT} (h : updT takeG ps (treeV vs) = some u) : goodT vs.length u ∧ okB (layT vs.length u 0) = true := by
  obtain ⟨p1, _⟩ := okB_parts hok
  have hg := good_tree hok vs.length (vs.length - 1) (by omega) (by omega)
  have hn := taken_nomore ps vs.length (treeV vs) u hg (steps_mem hps) h
  refine ⟨hn.2.2, (ok_lay hn.2.2.full).2 ⟨?_, hn.2.2, ?_⟩⟩
  · have := hn.1
    have h2 := whole_len hok
    unfold treeV at this
    omega
  · have h1 := (ok_lay hg.full).1 (by rw [whole_lay hok]; exact hok)
    have := hn.2.1
    have := h1.2.2
    unfold treeV at *
    omega

set_option maxRecDepth 100000 in
set_option maxHeartbeats 3200000 in
theorem implTaken_any (B : Nat) (v u : Value) (vs : List VN) (ps : List PS) (w : World) (h : NodesAt B w v vs) (hu : StepsAt B w u ps) (hcu : ∀ a n c, u = .slice a n c → n ≤ c) (hB : B ≤ w.heap.size) :
    Calls Try.prog 18 #[v, u] w fun e w' => ∃ r base KV IV, e = .returned (.tuple #[r, .bool (takenT vs ps).isSome]) ∧ w.heap.size ≤ base ∧ base ≤ w'.heap.size ∧ Nest base w' r (takenNs vs ps) KV IV ∧ Below w.heap.size w w' := by
  have HV := hideIt h
  have HU := hideIt hu
  obtain ⟨_, a, cap, rfl, _⟩ := h
  obtain ⟨hul, hfits, au, cu, rfl, hsteps⟩ := hu
  have HTN : Hid (takenNs vs ps = match takenT vs ps with | none => [] | some u => layT vs.length u 0) := rfl
  cases ok : (okB vs && pathB ps)
  · have HTT : Hid (takenT vs ps = none) := by rw [Hid]; unfold takenT; rw [ok]; rfl
    go_enter Try.func18, Try.ntmps18
    go_wp2_with fail
    refine (treeFor_no B _ _ vs ps _ HV.out HU.out hB ok).mono ?_
    rintro e w1 ⟨rfl, hb1⟩
    have z1 := hb1.size
    go_wp2_with fail
    go_ret2
    exact ⟨.slice none 0 0, w.heap.size, fun _ => undef, fun _ => undef, by rw [HTT.out]; rfl, Nat.le_refl _, z1, by rw [HTN.out, HTT.out]; exact Nest.nil _ _ _ _, hb1⟩
  obtain ⟨ok1, ok2⟩ : okB vs = true ∧ pathB ps = true := by simpa using ok
  have HTT : Hid (takenT vs ps = updT takeG ps (treeV vs)) := by rw [Hid]; unfold takenT; rw [if_pos ok]
  have HG := hideIt (good_tree ok1 vs.length (vs.length - 1) (by have := (okB_parts ok1).1; omega) (by have := (okB_parts ok1).1; omega))
  have HST := hideIt (pathB_steps ok2)
  have HFT := hideIt hfits
  have hul2 : ps.length ≤ 10 := by unfold pathB at ok2; simp only [Bool.and_eq_true, decide_eq_true_eq] at ok2; first | exact ok2.1 | exact ok2.2
  have hcapu : ps.length ≤ cu := hcu _ _ _ rfl
  clear hcu
  obtain ⟨N, hN⟩ : ∃ N, ps.length = N := ⟨_, rfl⟩
  have HNN := hideIt hN
  have HTF := hideIt (treeFor_yes B _ _ vs ps _ HV.out HU.out hB ok1 ok2)
  have HUW : Hid (∀ w', Below w.heap.size w w' → StepsAt w'.heap.size w' (.slice au N cu) ps) := fun w' hb => by
    have := (HU.out.below (hb.mono hB)).wide (B' := w'.heap.size) (by have := hb.size; omega)
    rw [hN] at this
    exact this
  rw [hN] at HTF hul2 hcapu ⊢
  have HTK : Hid (∀ u, takenT vs ps = some u → goodT vs.length u ∧ okB (layT vs.length u 0) = true) := fun u hu => taken_ok ok1 ok2 (by rw [← HTT.out]; exact hu)
  have HGE : Hid (goodT vs.length (treeV vs)) := HG.out
  obtain ⟨T0, hT0⟩ : ∃ T0, treeV vs = T0 := ⟨_, rfl⟩
  have hT0' : treeOf vs vs.length (vs.length - 1) = T0 := hT0
  rw [hT0] at HTT HGE
  rw [hT0'] at HTF
  clear hN hsteps hfits HG hT0 hT0' ok ok1 ok2 HV HU
  by_cases hN0 : N = 0
  · subst hN0
    have hnil : ps = [] := List.eq_nil_of_length_eq_zero HNN.out
    have HTT2 : Hid (takenT vs ps = none) := by rw [Hid, HTT.out, hnil]; rfl
    clear hnil
    go_enter Try.func18, Try.ntmps18
    go_wp2_with fail
    refine HTF.out.mono ?_
    rintro e w1 ⟨p, B', lo, rfl, hB', hlo, hlo', hpt, hb1⟩
    have HB1 := hideIt hb1
    have z1 := hb1.size
    clear hpt hb1
    go_wp2_with fail
    refine (holder_nil p au cu w1).mono ?_
    rintro e w2 ⟨rfl, hb2⟩
    have HB2 := hideIt (HB1.out.trans (hb2.mono z1))
    have HB3 : Hid (Below w.heap.size w (w2.alloc (.cells #[.bool false, .string ⟨#[]⟩, .int .i64 0] 39))) := HB2.out.alloc HB2.out.size _
    have z3 := HB3.out.size
    clear hb2
    go_wp2_with fail
    go_ret2
    exact ⟨.slice none 0 0, w.heap.size, fun _ => undef, fun _ => undef, by rw [HTT2.out]; rfl, Nat.le_refl _, z3, by rw [HTN.out, HTT2.out]; exact Nest.nil _ _ _ _, HB3.out⟩
  obtain ⟨m, hNm⟩ : ∃ m, N = m + 1 := ⟨N - 1, by omega⟩
  have hm10 : m < N := by omega
  have HPS : Hid (ps = ps.take m ++ [stepAt ps m]) := by
    have h1 := take_step (ps := ps) (k := m) (by rw [HNN.out]; exact hm10)
    rw [Hid, ← h1, ← hNm, ← HNN.out, List.take_length]
  have HUP : Hid (takenT vs ps = match folT (ps.take m) T0 with | none => none | some s => match takeG s (stepAt ps m) with | none => none | some u => some (plugT (ps.take m) T0 u)) := by
    rw [Hid, HTT.out]
    conv => lhs; rw [HPS.out]
    exact updT_snoc takeG _ _ _
  have hfx := HFT.out m (by rw [HNN.out]; exact hm10)
  have hsx := HST.out m (by rw [HNN.out]; exact hm10)
  have h0x := stepB_nonneg hsx
  have HHO := hideIt (fun B' lo p (w1 : World) (hb : Below w.heap.size w w1) (h : PT B' w1 vs.length T0 lo w1.heap.size (.pointer (some ⟨p, 0, none⟩))) (h1 : B' ≤ lo) (h2 : lo ≤ w1.heap.size) => holder_some B' w1.heap.size vs.length T0 lo w1.heap.size p au cu N m hNm ps w1 h HGE.out h1 (Nat.le_refl _) (Nat.le_refl _) (Nat.le_refl _) (by omega) HNN.out (HUW.out w1 hb) HST.out hcapu (by omega))
  obtain ⟨F, hF⟩ : ∃ F, folT (ps.take m) T0 = F := ⟨_, rfl⟩
  obtain ⟨PL, hPL⟩ : ∃ PL, plugT (ps.take m) T0 = PL := ⟨_, rfl⟩
  simp only [hF, hPL] at HHO HUP
  obtain ⟨x, hxx⟩ : ∃ x, stepAt ps m = x := ⟨_, rfl⟩
  simp only [hxx] at HHO HUP hfx hsx h0x
  clear hF hPL hxx HPS HST HFT HUW HTT hNm hsx
  go_enter Try.func18, Try.ntmps18
  go_wp2_with fail
  refine HTF.out.mono ?_
  rintro e w1 ⟨p, B', lo, rfl, hB', hlo, hlo', hpt, hb1⟩
  have HB1 := hideIt hb1
  have HPT := hideIt hpt
  have z1 := hb1.size
  have HH := hideIt (HHO.out B' lo p w1 hb1 hpt hlo hlo')
  clear hpt hb1 HHO
  go_wp2_with fail
  refine HH.out.mono ?_
  rintro e w2 ⟨q, rfl, hctx, hb2⟩
  have HX := hideIt hctx
  have H12 := hideIt hb2
  have HB2 := hideIt (HB1.out.trans (hb2.mono z1))
  have HB3 : Hid (Below w.heap.size w (w2.alloc (.cells #[.bool x.named, .string x.key, .int .i64 x.pl] 39))) := HB2.out.alloc HB2.out.size _
  have HBA : Hid (Below w2.heap.size w2 (w2.alloc (.cells #[.bool x.named, .string x.key, .int .i64 x.pl] 39))) := (Below.refl _ _).alloc (Nat.le_refl _) _
  have z2 := hb2.size
  have z3 := HB3.out.size
  clear hb2 hctx
  cases hF : F with
  | none =>
    rw [hF] at HUP
    have HTT2 : Hid (takenT vs ps = none) := HUP.out
    have e1 : folPtrT none q = .pointer none := rfl
    have e2 : (none : Option VT).isSome = false := rfl
    rw [e1, e2]
    clear hF e1 e2 HUP
    go_wp2_with fail
    go_ret2
    exact ⟨.slice none 0 0, w.heap.size, fun _ => undef, fun _ => undef, by rw [HTT2.out]; rfl, Nat.le_refl _, z3, by rw [HTN.out, HTT2.out]; exact Nest.nil _ _ _ _, HB3.out⟩
  | some s =>
    obtain ⟨f, lo2, hi2, ⟨_, hgs⟩, hl1, hl2, hpt2, hct⟩ := HX.out s hF
    rw [hF] at HUP
    dsimp only at HUP
    have e1 : folPtrT (some s) q = .pointer (some ⟨q, 0, none⟩) := rfl
    have e2 : (some s : Option VT).isSome = true := rfl
    rw [e1, e2]
    have HPA := hideIt (hpt2.below HBA.out (by omega) (by omega))
    have HCT := hideIt (hct.below (fun c hc => HBA.out.block c (by omega)))
    have HGS := hideIt hgs
    clear hF e1 e2 hpt2 hct HX hgs
    obtain ⟨W3, hW3⟩ : ∃ W3, w2.alloc (.cells #[.bool x.named, .string x.key, .int .i64 x.pl] 39) = W3 := ⟨_, rfl⟩
    have s3 : W3.heap.size = w2.heap.size + 1 := by rw [← hW3]; simp
    have v0 : W3.cell? ⟨w2.heap.size, 0, none⟩ = some (.bool x.named) := by rw [← hW3]; simp
    have v1 : W3.cell? ⟨w2.heap.size, 1, none⟩ = some (.string x.key) := by rw [← hW3]; simp
    have v2 : W3.cell? ⟨w2.heap.size, 2, none⟩ = some (.int .i64 x.pl) := by rw [← hW3]; simp
    rw [hW3] at HPA HCT HB3 HBA z3
    cases hst : stepT s x with
    | none =>
      have HTT2 : Hid (takenT vs ps = none) := by rw [Hid, HUP.out]; unfold takeG; rw [hst]
      have HTA := hideIt (take_none B' x W3 HPA.out HGS.out (by omega) (by omega) hfx.2 hst)
      clear hst HUP
      go_wp2_with fail
      refine HTA.out.mono ?_
      rintro e w4 ⟨rfl, hb4⟩
      have HB4 := hideIt (HB3.out.trans (hb4.mono z3))
      have z4 := HB4.out.size
      clear hb4
      go_wp2_with fail
      go_ret2
      exact ⟨.slice none 0 0, w.heap.size, fun _ => undef, fun _ => undef, by rw [HTT2.out]; rfl, Nat.le_refl _, z4, by rw [HTN.out, HTT2.out]; exact Nest.nil _ _ _ _, HB4.out⟩
    | some k =>
      have HTT2 : Hid (takenT vs ps = some (PL (takeKid k s))) := by rw [Hid, HUP.out]; unfold takeG; rw [hst]
      have HTA := hideIt (take_some B' x W3 HPA.out HGS.out (by omega) (by omega) hfx.2 h0x k hst)
      have HOKU : Hid (goodT vs.length (PL (takeKid k s)) ∧ okB (layT vs.length (PL (takeKid k s)) 0) = true) := HTK.out _ HTT2.out
      obtain ⟨U, hU⟩ : ∃ U, PL (takeKid k s) = U := ⟨_, rfl⟩
      have HCU : Hid (∀ w', (∀ c, c < w1.heap.size → (c < lo2 ∨ hi2 ≤ c) → w'.heap[c]? = W3.heap[c]?) → PR w1.heap.size w' f (takeKid k s) (.pointer (some ⟨q, 0, none⟩)) → PR w1.heap.size w' vs.length U (.pointer (some ⟨p, 0, none⟩))) := fun w' h1 h2 => by
        have := HCT.out w' _ w1.heap.size (Nat.le_refl _) h1 h2
        rw [hU] at this
        exact this
      rw [hU] at HTT2 HOKU
      clear hst HUP hU HCT
      go_wp2_with fail
      refine HTA.out.mono ?_
      rintro e w4 ⟨rfl, hpr, hout⟩
      have HPR : Hid (PR w1.heap.size w4 vs.length U (.pointer (some ⟨p, 0, none⟩))) := HCU.out w4 (fun c hc ho => hout.block c (by omega) ho) (hpr.keep (by omega) (fun _ _ => rfl))
      have HB4 : Hid (Below w.heap.size w w4) := ⟨hout.os.trans HB3.out.os, hout.tape.trans HB3.out.tape, hout.output.trans HB3.out.output, Nat.le_trans z3 hout.size, fun c hc => (hout.block c (by omega) (by omega)).trans (HB3.out.block c hc)⟩
      have z4 := HB4.out.size
      have z34 := hout.size
      clear hpr hout HTA HCU
      go_wp2_with fail
      refine (rvalue_any w1.heap.size vs.length U _ w4 HPR.out (by omega)).mono ?_
      rintro e w5 ⟨ty, y, rfl, htk, hb5⟩
      have z5 := hb5.size
      have HT := hideIt (htk.tree (X := w5.heap.size) (by omega) (Nat.le_refl _))
      have HB5 := hideIt (HB4.out.trans (hb5.mono (by omega)))
      clear htk hb5
      go_wp2_with fail
      refine (rightNodes_any vs.length U _ (layT vs.length U 0) _ HT.out rfl (by have := (okB_parts HOKU.out.2).1; omega) (ok_fits HOKU.out.2).2).mono ?_
      rintro e w6 ⟨r, base, KV, IV, rfl, hbs, hbs2, hn6, hb6⟩
      rw [HOKU.out.2]
      have hrn : rightNs (layT vs.length U 0) = layT vs.length U 0 := by unfold rightNs; rw [HOKU.out.2]; rfl
      rw [hrn] at hn6
      have HN6 := hideIt hn6
      obtain ⟨ar, cr, er⟩ := own_slice hn6.row
      obtain ⟨NN, hNN2⟩ : ∃ N, (layT vs.length U 0).length = N := ⟨_, rfl⟩
      rw [hNN2] at er
      subst er
      have HB6 := hideIt (HB5.out.trans (hb6.mono (by omega)))
      have z6 := hb6.size
      clear hn6 hNN2 hb6 hrn
      go_wp2_with fail
      go_ret2
      exact ⟨.slice ar NN cr, base, KV, IV, by rw [HTT2.out]; rfl, by omega, by omega, by rw [HTN.out, HTT2.out]; exact HN6.out, HB6.out⟩
end Go.Proofs.Ytpakfgonemiebaa

/-
  Plain: the root and the parts of the nodes that are laid for a tree.
-/
namespace Go.Proofs.Ytpakfgonemiebaa
open Go.RowKit
set_option linter.unusedSimpArgs false
set_option linter.unusedVariables false

theorem ksT_lenW (f sh : Nat) (kids : List VT) : ∀ k, k ≤ kids.length → (ksT f sh kids k).length = k := by
  intro k
  induction k with
  | zero => intro _; rw [ksT_zero]; rfl
  | succ k ih => intro hk; rw [ksT_succ f sh (by omega), List.length_append, ih (by omega)]; rfl
theorem lay_rootW (f : Nat) (kind n : Int) (s : ByteArray) (keys : List ByteArray) (kids : List VT) : nodeAt (layT (f + 1) (.mk kind n s keys kids) 0) ((layT (f + 1) (.mk kind n s keys kids) 0).length - 1) = { kind := kind, n := n, s := s, keys := keys, kids := ksT f 0 kids kids.length } := by
  rw [layT_eq, List.length_append, List.length_cons, List.length_nil, show (accT f 0 kids kids.length).length + (0 + 1) - 1 = (accT f 0 kids kids.length).length by omega, nodeAt_right (Nat.le_refl _), Nat.sub_self]
  rfl
theorem lay_kidsW (f : Nat) (kind n : Int) (s : ByteArray) (keys : List ByteArray) (kids : List VT) : (rootKids (layT (f + 1) (.mk kind n s keys kids) 0)).length = kids.length := by
  unfold rootKids
  rw [lay_rootW]
  exact ksT_lenW f 0 kids _ (Nat.le_refl _)
theorem lay_PL {f : Nat} {kind n : Int} {s : ByteArray} {keys : List ByteArray} {kids : List VT} (hf : FullT (f + 1) (.mk kind n s keys kids)) (hok : okB (layT (f + 1) (.mk kind n s keys kids) 0) = true) {j : Nat} (hj : j < kids.length) : PL (layT (f + 1) (.mk kind n s keys kids) 0) j = layT f (kidT kids j) 0 := by
  obtain ⟨vs, hvs⟩ : ∃ vs, layT (f + 1) (.mk kind n s keys kids) 0 = vs := ⟨_, rfl⟩
  have hlen := lay_kidsW f kind n s keys kids
  rw [hvs] at hok hlen ⊢
  obtain ⟨p1, _⟩ := okB_parts hok
  have htb := tree_back hf vs 0 (f + vs.length + 1) (by omega) (fun i hi => by rw [Nat.zero_add, hvs])
  rw [hvs, Nat.zero_add] at htb
  rw [treeOf] at htb
  obtain ⟨q, hq, hql⟩ := root_kid hok (k := j) (by rw [hlen]; exact hj)
  have hkid : kidT kids j = treeOf vs (f + vs.length) q := by
    have h1 : kids = (rootKids vs).map fun k => treeOf vs (f + vs.length) k.toNat := by
      have := congrArg kidsT htb
      exact this.symm
    rw [h1, kidT_map (by rw [hlen]; exact hj)]
    rw [hq]
    rfl
  have hp := (lay_part hok (f := f + vs.length) (m := q) (by omega) (by omega)).1
  unfold PL
  rw [hq]
  show partOf vs (q : Int).toNat = _
  rw [Int.toNat_natCast, ← hp, ← hkid]
  exact layT_more (hf j hj) (by omega) 0
end Go.Proofs.Ytpakfgonemiebaa

/-
  An append inside a region that draws its order, of a slice that may be empty.
-/
namespace Go.Proofs.Ytpakfgonemiebaa
open Go.RowKit
set_option linter.unusedSimpArgs false
set_option linter.unusedVariables false

theorem run_append_zero {P : Program} {w : World} (base : Nat) (t ty e : TypeId) (i : TypeInfo) (size c : Nat) (ax : Option Addr) (ht : P.underlying t = some (.slice e)) (hi : P.info? e = some i)
    (v : Value) (n : Nat) (xs : List Value) (hown : w.ownsRow base e size v n xs) :
    (Builtin.append_ #[t, t] ty #[v, .slice ax 0 c]).run P w = .ok v w := by
  rcases hown.2 with ⟨rfl, rfl⟩ | ⟨g, cap, cur, rfl, _, _, hnc, _⟩
  · cases ax <;> simp [Builtin.append_, run_underlying ht, sizeOf, typeInfo, hi, Builtin.lenOf, Builtin.firstCells, loadCells, loadCellsFrom, Result.andThen]
  · cases ax <;> simp [Builtin.append_, run_underlying ht, sizeOf, typeInfo, hi, Builtin.lenOf, Builtin.firstCells, hnc, storeCells, loadCells, loadCellsFrom, Result.andThen]
theorem step_append_src {P : Program} {w : World} {ops : Array Oper} {o : Oper} {a : Act} {K : Act → World → Prop} {Q : Exit → Act → World → Prop} {E : Prop} (hgd : o.guard = none) (s x : Operand) (t : TypeId)
    (ho : o.op = .call { callee := .builtin .append, args := #[s, x], argTypes := #[t, t] })
    (base : Nat) (e : TypeId) (i : TypeInfo) (z : Value) (size bytes : Nat) (ht : P.underlying t = some (.slice e)) (hi : P.info? e = some i) (hz : i.zero = some z)
    (hsize : i.size = size) (hby : i.bytes = bytes) (hzs : z.cells.size = size) (hsz : 0 < size)
    (v : Value) (n : Nat) (xs : List Value) (hs : a.eval s = v) (hown : w.ownsRow base e size v n xs)
    (ax : Option Addr) (m c : Nat) (news : List Value) (hx : a.eval x = .slice ax m c) (hl : news.length = m * size) (hsrc : 0 < m → ∃ ad, ax = some ad ∧ ∀ j u, news[j]? = some u → w.cell? (ad.add j) = some u) (h1 : ∀ u ∈ news, u.oneCell' = true)
    (h63 : n + m ≤ maxLen) (hbytes : (n + m) * bytes ≤ 140737488355328) (hbase : base ≤ w.heap.size)
    (h : ∀ v' w', w'.ownsRow base e size v' (n + m) (xs ++ news) → w.grownBy w' v.ownBlock → (v'.ownBlock = v.ownBlock ∨ v'.ownBlock = some w.heap.size) → K (a.put o.dst v') w') :
    if Region.wanted o (yielded ops a.tmps) = true then Oper.wp P o a w K Q else E := by
  have hw : Region.wanted o (yielded ops a.tmps) = true := by simp [Region.wanted, hgd]
  rw [if_pos hw]
  rcases Nat.eq_zero_or_pos m with e0 | e0
  · subst e0
    obtain rfl : news = [] := List.eq_nil_of_length_eq_zero (by simpa using hl)
    have hrun := run_append_zero (P := P) (w := w) base t o.type e i size c ax ht hi v n xs hown
    unfold Oper.wp
    simp [execOp, ho, resolve, invoke, builtin, hs, hx, hrun, Result.andThen]
    exact h v w (by simpa using hown) ⟨rfl, rfl, rfl, Nat.le_refl _, fun _ _ _ => rfl⟩ (Or.inl rfl)
  · obtain ⟨ad, rfl, hc⟩ := hsrc e0
    exact wp_append_lies w s x t ho base e i z size bytes ht hi hz hsize hby hzs hsz v n xs hs hown ad m c news hx hl hc h1 e0 h63 hbytes hbase w.heap.size rfl (fun g cap w' h2 h3 h4 _ => h _ w' h2 h3 (by
      rcases h4 with h4 | h4
      · exact Or.inl (by rw [h4]; rfl)
      · exact Or.inr (by rw [h4]; rfl)))
theorem step_call4 {P : Program} {w : World} {ops : Array Oper} {o : Oper} {a : Act} {K : Act → World → Prop} {Q : Exit → Act → World → Prop} {E : Prop} (hgd : o.guard = none) (F : FuncId) (x1 x2 x3 x4 : Operand) (T1 T2 T3 T4 : TypeId)
    (ho : o.op = .call { callee := .value (.func F), args := #[x1, x2, x3, x4], argTypes := #[T1, T2, T3, T4] }) (v1 v2 v3 v4 : Value) (h1 : a.eval x1 = v1) (h2 : a.eval x2 = v2) (h3 : a.eval x3 = v3) (h4 : a.eval x4 = v4) (hcf : ∀ w, (callFunc F #[v1, v2, v3, v4]).run P w = .ok (.enter F #[v1, v2, v3, v4]) w) {R : Ending → World → Prop} (hc : Calls P F #[v1, v2, v3, v4] w R)
    (h : ∀ e w', R e w' → ∃ u, e = .returned u ∧ K (a.put o.dst u) w') :
    if Region.wanted o (yielded ops a.tmps) = true then Oper.wp P o a w K Q else E := by
  have hw : Region.wanted o (yielded ops a.tmps) = true := by simp [Region.wanted, hgd]
  rw [if_pos hw]
  unfold Oper.wp execOp
  have e1 : a.eval (.func F) = .func (.func F) #[] #[] := rfl
  simp [ho, resolve, invoke, h1, h2, h3, h4, e1, Deferred.ofValue, hcf, Result.andThen, Oper.upon_enter]
  refine hc.mono fun e w' hr => ?_
  obtain ⟨u, rfl, hk⟩ := h e w' hr
  exact hk
/-- A row's cells ahead of k and from j on, as they are read in whatever world behind. -/
def DelSrc (w0 : World) (xs : List Value) (g n k j : Nat) (A : Addr) : Prop :=
  (xs.take k).length = k * 1 ∧ (∀ W, Below w0.heap.size w0 W → ∀ i u, (xs.take k)[i]? = some u → W.cell? ((⟨g, 0, none⟩ : Addr).add i) = some u) ∧ (∀ u ∈ xs.take k, u.oneCell' = true) ∧
  (xs.drop j).length = (n - j) * 1 ∧ (∀ W, Below w0.heap.size w0 W → 0 < n - j → ∀ i u, (xs.drop j)[i]? = some u → W.cell? (A.add i) = some u) ∧ (∀ u ∈ xs.drop j, u.oneCell' = true)
theorem delSrc_of {w0 : World} {xs : List Value} {g n k j cL : Nat} {A : Addr} (hl : xs.length = n) (hk : k ≤ n) (hj : j ≤ n) (hc : ∀ i, i < n → w0.cell? ⟨g, i, none⟩ = xs[i]?) (hg : g < w0.heap.size) (h1 : ∀ u ∈ xs, u.oneCell' = true) (hcap : n ≤ cL) (hA : (if cL = j then some (⟨g, 0, none⟩ : Addr) else some ⟨g, j, none⟩) = some A) : DelSrc w0 xs g n k j A := by
  refine ⟨by rw [List.length_take]; omega, fun W hb i u hi => ?_, fun u hu => h1 u (List.mem_of_mem_take hu), by rw [List.length_drop]; omega, fun W hb hp i u hi => ?_, fun u hu => h1 u (List.mem_of_mem_drop hu)⟩
  · have hik : i < k := by have := (List.getElem?_eq_some_iff.1 hi).1; rw [List.length_take] at this; omega
    rw [Addr.add_lit, Nat.zero_add, hb.cell (p := ⟨g, i, none⟩) hg, hc i (by omega)]
    rw [List.getElem?_take, if_pos hik] at hi
    exact hi
  · have hij : i < n - j := by have := (List.getElem?_eq_some_iff.1 hi).1; rw [List.length_drop] at this; omega
    rw [if_neg (by omega), Option.some.injEq] at hA
    rw [← hA, Addr.add_lit, hb.cell (p := ⟨g, j + i, none⟩) hg, hc (j + i) (by omega)]
    rw [List.getElem?_drop] at hi
    exact hi
end Go.Proofs.Ytpakfgonemiebaa

/-
  A nest of nodes, from a lower block on.
-/
namespace Go.Proofs.Ytpakfgonemiebaa
open Go.RowKit

theorem Nest.low {base base' : Nat} {w : World} {v : Value} {vs : List VN} {KV IV : Nat → Value} (h : Nest base w v vs KV IV) (hb : base' ≤ base) : Nest base' w v vs KV IV :=
  ⟨own_mono h.row hb, fun i hi => own_mono (h.rk i hi) hb, fun i hi => own_mono (h.ri i hi) hb, h.dkk, h.dii⟩
end Go.Proofs.Ytpakfgonemiebaa
