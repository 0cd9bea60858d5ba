/-
  The program's packReader.readLong: numbers, texts and rows with a length of their own.
-/
import Derived.Test.YtokhindolimchaaPkL
namespace Go.Proofs.Ytokhindolimchaa
open Go.RowKit
set_option linter.unusedSimpArgs false
set_option linter.unusedVariables false

theorem call_pnum (u v : Value) : ∀ w, (callFunc 97 #[u, v]).run Try.prog w = .ok (.enter 97 #[u, v]) w := fun w => by kernel_rfl

set_option maxRecDepth 100000 in
set_option maxHeartbeats 6400000 in
theorem plong_wide {rb p f : Nat} {s : ByteArray} {w : World} (h : BrAt w rb s (p + 1)) (hs : s.size ≤ 4000) (k : Nat) (hk : k < 4) :
    Calls Try.prog 75 #[.pointer (some ⟨rb, 0, none⟩), .int .u8 ((204 + k : Nat) : Int)] w (ReadOr (numV s.data.toList (p + 1) (2 ^ k)) (f + 1) rb s p w) := by
  have HC := hideIt (pnumber_any h hs (2 ^ k) (pow_le3 (by omega)))
  have HV : Hid (∀ n q, numI s.data.toList (p + 1) (2 ^ k) = some (n, q) → numV s.data.toList (p + 1) (2 ^ k) = some (numT n, q) ∧ p < q) := fun n q hh => by
    refine ⟨by unfold numV; rw [hh], ?_⟩
    unfold numI at hh
    split at hh
    · simp only [Option.some.injEq, Prod.mk.injEq] at hh; have := two_pos k; omega
    · cases hh
  have HN : Hid (numI s.data.toList (p + 1) (2 ^ k) = none → numV s.data.toList (p + 1) (2 ^ k) = none) := fun hh => by unfold numV; rw [hh]
  obtain ⟨R, hR⟩ : ∃ R, numV s.data.toList (p + 1) (2 ^ k) = R := ⟨_, rfl⟩
  rw [hR] at HV HN ⊢
  clear h hR
  rcases (show k = 0 ∨ k = 1 ∨ k = 2 ∨ k = 3 by omega) with rfl | rfl | rfl | rfl
  · go_enter Try.func75, Try.ntmps75
    go_wp2_with fail
    refine HC.out.mono ?_
    rintro e w1 ⟨⟨n, q, hr, rfl, hbr, hn⟩ | ⟨hr, rfl⟩, hbt⟩
    · have HE := hideIt (HV.out n q hr)
      have HB := hideIt hbr
      have HT := hideIt hbt
      clear hr hbr hbt
      go_wp2_with fail
      go_ret
      exact .inl ⟨_, q, _, HE.out.1, rfl, (leafP f).2.2.1 n, HB.out, HT.out, HE.out.2⟩
    · have HE := hideIt (HN.out hr)
      have HT := hideIt hbt
      clear hr hbt
      unfold gup
      go_wp2_with fail
      exact ⟨rfl, .inr ⟨HE.out, rfl, HT.out⟩⟩
  · go_enter Try.func75, Try.ntmps75
    go_wp2_with fail
    refine HC.out.mono ?_
    rintro e w1 ⟨⟨n, q, hr, rfl, hbr, hn⟩ | ⟨hr, rfl⟩, hbt⟩
    · have HE := hideIt (HV.out n q hr)
      have HB := hideIt hbr
      have HT := hideIt hbt
      clear hr hbr hbt
      go_wp2_with fail
      go_ret
      exact .inl ⟨_, q, _, HE.out.1, rfl, (leafP f).2.2.1 n, HB.out, HT.out, HE.out.2⟩
    · have HE := hideIt (HN.out hr)
      have HT := hideIt hbt
      clear hr hbt
      unfold gup
      go_wp2_with fail
      exact ⟨rfl, .inr ⟨HE.out, rfl, HT.out⟩⟩
  · go_enter Try.func75, Try.ntmps75
    go_wp2_with fail
    refine HC.out.mono ?_
    rintro e w1 ⟨⟨n, q, hr, rfl, hbr, hn⟩ | ⟨hr, rfl⟩, hbt⟩
    · have HE := hideIt (HV.out n q hr)
      have HB := hideIt hbr
      have HT := hideIt hbt
      clear hr hbr hbt
      go_wp2_with fail
      go_ret
      exact .inl ⟨_, q, _, HE.out.1, rfl, (leafP f).2.2.1 n, HB.out, HT.out, HE.out.2⟩
    · have HE := hideIt (HN.out hr)
      have HT := hideIt hbt
      clear hr hbt
      unfold gup
      go_wp2_with fail
      exact ⟨rfl, .inr ⟨HE.out, rfl, HT.out⟩⟩
  · go_enter Try.func75, Try.ntmps75
    go_wp2_with fail
    refine HC.out.mono ?_
    rintro e w1 ⟨⟨n, q, hr, rfl, hbr, hn⟩ | ⟨hr, rfl⟩, hbt⟩
    · have HE := hideIt (HV.out n q hr)
      have HB := hideIt hbr
      have HT := hideIt hbt
      clear hr hbr hbt
      go_wp2_with fail
      go_ret
      exact .inl ⟨_, q, _, HE.out.1, rfl, (leafP f).2.2.1 n, HB.out, HT.out, HE.out.2⟩
    · have HE := hideIt (HN.out hr)
      have HT := hideIt hbt
      clear hr hbt
      unfold gup
      go_wp2_with fail
      exact ⟨rfl, .inr ⟨HE.out, rfl, HT.out⟩⟩
set_option maxRecDepth 100000 in
set_option maxHeartbeats 6400000 in
theorem plong_sgn {rb p f : Nat} {s : ByteArray} {w : World} (h : BrAt w rb s (p + 1)) (hs : s.size ≤ 4000) (k : Nat) (hk : k < 4) :
    Calls Try.prog 75 #[.pointer (some ⟨rb, 0, none⟩), .int .u8 ((208 + k : Nat) : Int)] w (ReadOr (sgnI s.data.toList (p + 1) (2 ^ k)) (f + 1) rb s p w) := by
  have hlen := len_is s
  have HC := hideIt (psigned_any h hs k hk)
  have HV : Hid (p + 1 + 2 ^ k ≤ s.size → sgnI s.data.toList (p + 1) (2 ^ k) = some (numT (sgnN (2 ^ k) (bigN s.data.toList (p + 1) (2 ^ k))), p + 1 + 2 ^ k)) := fun hh => by unfold sgnI; rw [if_pos (by omega)]
  have HN : Hid (s.size < p + 1 + 2 ^ k → sgnI s.data.toList (p + 1) (2 ^ k) = none) := fun hh => by unfold sgnI; rw [if_neg (by omega)]
  obtain ⟨R, hR⟩ : ∃ R, sgnI s.data.toList (p + 1) (2 ^ k) = R := ⟨_, rfl⟩
  rw [hR] at HV HN ⊢
  unfold SgnOr at HC
  obtain ⟨X, hX⟩ : ∃ X, sgnN (2 ^ k) (bigN s.data.toList (p + 1) (2 ^ k)) = X := ⟨_, rfl⟩
  rw [hX] at HV HC
  clear h hR hX hlen
  rcases (show k = 0 ∨ k = 1 ∨ k = 2 ∨ k = 3 by omega) with rfl | rfl | rfl | rfl
  · go_enter Try.func75, Try.ntmps75
    go_wp2_with fail
    refine HC.out.mono ?_
    rintro e w1 ⟨⟨rfl, hfit, hbr⟩ | ⟨rfl, hno⟩, hbt⟩
    · have HE := hideIt (HV.out hfit)
      have HB := hideIt hbr
      have HT := hideIt hbt
      clear hfit hbr hbt
      go_wp2_with fail
      go_ret
      exact .inl ⟨_, _, _, HE.out, rfl, (leafP f).2.2.1 X, HB.out, HT.out, by omega⟩
    · have HE := hideIt (HN.out hno)
      have HT := hideIt hbt
      clear hno hbt
      unfold gup
      go_wp2_with fail
      exact ⟨rfl, .inr ⟨HE.out, rfl, HT.out⟩⟩
  · go_enter Try.func75, Try.ntmps75
    go_wp2_with fail
    refine HC.out.mono ?_
    rintro e w1 ⟨⟨rfl, hfit, hbr⟩ | ⟨rfl, hno⟩, hbt⟩
    · have HE := hideIt (HV.out hfit)
      have HB := hideIt hbr
      have HT := hideIt hbt
      clear hfit hbr hbt
      go_wp2_with fail
      go_ret
      exact .inl ⟨_, _, _, HE.out, rfl, (leafP f).2.2.1 X, HB.out, HT.out, by omega⟩
    · have HE := hideIt (HN.out hno)
      have HT := hideIt hbt
      clear hno hbt
      unfold gup
      go_wp2_with fail
      exact ⟨rfl, .inr ⟨HE.out, rfl, HT.out⟩⟩
  · go_enter Try.func75, Try.ntmps75
    go_wp2_with fail
    refine HC.out.mono ?_
    rintro e w1 ⟨⟨rfl, hfit, hbr⟩ | ⟨rfl, hno⟩, hbt⟩
    · have HE := hideIt (HV.out hfit)
      have HB := hideIt hbr
      have HT := hideIt hbt
      clear hfit hbr hbt
      go_wp2_with fail
      go_ret
      exact .inl ⟨_, _, _, HE.out, rfl, (leafP f).2.2.1 X, HB.out, HT.out, by omega⟩
    · have HE := hideIt (HN.out hno)
      have HT := hideIt hbt
      clear hno hbt
      unfold gup
      go_wp2_with fail
      exact ⟨rfl, .inr ⟨HE.out, rfl, HT.out⟩⟩
  · go_enter Try.func75, Try.ntmps75
    go_wp2_with fail
    refine HC.out.mono ?_
    rintro e w1 ⟨⟨rfl, hfit, hbr⟩ | ⟨rfl, hno⟩, hbt⟩
    · have HE := hideIt (HV.out hfit)
      have HB := hideIt hbr
      have HT := hideIt hbt
      clear hfit hbr hbt
      go_wp2_with fail
      go_ret
      exact .inl ⟨_, _, _, HE.out, rfl, (leafP f).2.2.1 X, HB.out, HT.out, by omega⟩
    · have HE := hideIt (HN.out hno)
      have HT := hideIt hbt
      clear hno hbt
      unfold gup
      go_wp2_with fail
      exact ⟨rfl, .inr ⟨HE.out, rfl, HT.out⟩⟩
set_option maxRecDepth 100000 in
set_option maxHeartbeats 6400000 in
theorem plong_list {rb p f : Nat} {s : ByteArray} {w : World} (h : BrAt w rb s (p + 1)) (hs : s.size ≤ 4000) (hf : s.size < p + (f + 1)) (IH : GAll 38 s.data.toList (rdP s.data.toList f) f rb s) (k : Nat) (hk : k < 2) :
    Calls Try.prog 75 #[.pointer (some ⟨rb, 0, none⟩), .int .u8 ((220 + k : Nat) : Int)] w (ReadOr (rowV (rdP s.data.toList f) s.data.toList false (p + 1) (2 * 2 ^ k)) (f + 1) rb s p w) := by
  have HC := hideIt (pnumber_any h hs (2 * 2 ^ k) (by rcases (show k = 0 ∨ k = 1 by omega) with rfl | rfl <;> decide))
  have HV : Hid (∀ n q, numI s.data.toList (p + 1) (2 * 2 ^ k) = some (n, q) → rowV (rdP s.data.toList f) s.data.toList false (p + 1) (2 * 2 ^ k) = rowT (rdP s.data.toList f) false n q ∧ p < q) := fun n q hh => by
    refine ⟨by unfold rowV; rw [hh], ?_⟩
    unfold numI at hh
    split at hh
    · simp only [Option.some.injEq, Prod.mk.injEq] at hh; omega
    · cases hh
  have HN : Hid (numI s.data.toList (p + 1) (2 * 2 ^ k) = none → rowV (rdP s.data.toList f) s.data.toList false (p + 1) (2 * 2 ^ k) = none) := fun hh => by unfold rowV; rw [hh]
  have HI := hideIt (fun n q w (hb : BrAt w rb s q) (hq : p < q) (hn : n ≤ 1000000000000000) => readItems_any 38 s.data.toList (rdP s.data.toList f) f rb s IH (call_pread _) n q w hb (by omega) hn hs)
  obtain ⟨R, hR⟩ : ∃ R, rowV (rdP s.data.toList f) s.data.toList false (p + 1) (2 * 2 ^ k) = R := ⟨_, rfl⟩
  rw [hR] at HV HN ⊢
  clear h hR IH
  rcases (show k = 0 ∨ k = 1 by omega) with rfl | rfl
  · go_enter Try.func75, Try.ntmps75
    go_wp2_with fail
    refine HC.out.mono ?_
    rintro e w1 ⟨⟨n, q, hr, rfl, hbr, hn⟩ | ⟨hr, rfl⟩, hbt⟩
    · have HE := hideIt (HV.out n q hr)
      have HT := hideIt hbt
      have HCC := hideIt (HI.out n q w1 hbr HE.out.2 hn)
      clear hr hbr hbt
      go_wp2_with fail
      refine HCC.out.mono ?_
      intro e w3 hro
      have HRO := hideIt (hro.read (p := p) HT.out HE.out.2)
      rcases hro with ⟨t, q', x, _, rfl, _⟩ | ⟨_, rfl, _⟩
      · go_wp2_with fail
        go_ret
        rw [HE.out.1]
        exact HRO.out
      · unfold gup
        go_wp2_with fail
        refine ⟨rfl, ?_⟩
        rw [HE.out.1]
        exact HRO.out
    · have HE := hideIt (HN.out hr)
      have HT := hideIt hbt
      clear hr hbt
      unfold gup
      go_wp2_with fail
      exact ⟨rfl, .inr ⟨HE.out, rfl, HT.out⟩⟩
  · go_enter Try.func75, Try.ntmps75
    go_wp2_with fail
    refine HC.out.mono ?_
    rintro e w1 ⟨⟨n, q, hr, rfl, hbr, hn⟩ | ⟨hr, rfl⟩, hbt⟩
    · have HE := hideIt (HV.out n q hr)
      have HT := hideIt hbt
      have HCC := hideIt (HI.out n q w1 hbr HE.out.2 hn)
      clear hr hbr hbt
      go_wp2_with fail
      refine HCC.out.mono ?_
      intro e w3 hro
      have HRO := hideIt (hro.read (p := p) HT.out HE.out.2)
      rcases hro with ⟨t, q', x, _, rfl, _⟩ | ⟨_, rfl, _⟩
      · go_wp2_with fail
        go_ret
        rw [HE.out.1]
        exact HRO.out
      · unfold gup
        go_wp2_with fail
        refine ⟨rfl, ?_⟩
        rw [HE.out.1]
        exact HRO.out
    · have HE := hideIt (HN.out hr)
      have HT := hideIt hbt
      clear hr hbt
      unfold gup
      go_wp2_with fail
      exact ⟨rfl, .inr ⟨HE.out, rfl, HT.out⟩⟩
set_option maxRecDepth 100000 in
set_option maxHeartbeats 6400000 in
theorem plong_map {rb p f : Nat} {s : ByteArray} {w : World} (h : BrAt w rb s (p + 1)) (hs : s.size ≤ 4000) (hf : s.size < p + (f + 1)) (IH : GAll 38 s.data.toList (rdP s.data.toList f) f rb s) (k : Nat) (hk : k < 2) :
    Calls Try.prog 75 #[.pointer (some ⟨rb, 0, none⟩), .int .u8 ((222 + k : Nat) : Int)] w (ReadOr (rowV (rdP s.data.toList f) s.data.toList true (p + 1) (2 * 2 ^ k)) (f + 1) rb s p w) := by
  have HC := hideIt (pnumber_any h hs (2 * 2 ^ k) (by rcases (show k = 0 ∨ k = 1 by omega) with rfl | rfl <;> decide))
  have HV : Hid (∀ n q, numI s.data.toList (p + 1) (2 * 2 ^ k) = some (n, q) → rowV (rdP s.data.toList f) s.data.toList true (p + 1) (2 * 2 ^ k) = rowT (rdP s.data.toList f) true n q ∧ p < q) := fun n q hh => by
    refine ⟨by unfold rowV; rw [hh], ?_⟩
    unfold numI at hh
    split at hh
    · simp only [Option.some.injEq, Prod.mk.injEq] at hh; omega
    · cases hh
  have HN : Hid (numI s.data.toList (p + 1) (2 * 2 ^ k) = none → rowV (rdP s.data.toList f) s.data.toList true (p + 1) (2 * 2 ^ k) = none) := fun hh => by unfold rowV; rw [hh]
  have HI := hideIt (fun n q w (hb : BrAt w rb s q) (hq : p < q) (hn : n ≤ 1000000000000000) => readPairs_any 38 s.data.toList (rdP s.data.toList f) f rb s IH (rdP_full s.data.toList f) (fun p t q z h hz => by have := rdP_text s.data.toList f p t q z h hz; have := len_is s; omega) (call_pread _) n q w hb (by omega) hn hs)
  obtain ⟨R, hR⟩ : ∃ R, rowV (rdP s.data.toList f) s.data.toList true (p + 1) (2 * 2 ^ k) = R := ⟨_, rfl⟩
  rw [hR] at HV HN ⊢
  clear h hR IH
  rcases (show k = 0 ∨ k = 1 by omega) with rfl | rfl
  · go_enter Try.func75, Try.ntmps75
    go_wp2_with fail
    refine HC.out.mono ?_
    rintro e w1 ⟨⟨n, q, hr, rfl, hbr, hn⟩ | ⟨hr, rfl⟩, hbt⟩
    · have HE := hideIt (HV.out n q hr)
      have HT := hideIt hbt
      have HCC := hideIt (HI.out n q w1 hbr HE.out.2 hn)
      clear hr hbr hbt
      go_wp2_with fail
      refine HCC.out.mono ?_
      intro e w3 hro
      have HRO := hideIt (hro.read (p := p) HT.out HE.out.2)
      rcases hro with ⟨t, q', x, _, rfl, _⟩ | ⟨_, rfl, _⟩
      · go_wp2_with fail
        go_ret
        rw [HE.out.1]
        exact HRO.out
      · unfold gup
        go_wp2_with fail
        refine ⟨rfl, ?_⟩
        rw [HE.out.1]
        exact HRO.out
    · have HE := hideIt (HN.out hr)
      have HT := hideIt hbt
      clear hr hbt
      unfold gup
      go_wp2_with fail
      exact ⟨rfl, .inr ⟨HE.out, rfl, HT.out⟩⟩
  · go_enter Try.func75, Try.ntmps75
    go_wp2_with fail
    refine HC.out.mono ?_
    rintro e w1 ⟨⟨n, q, hr, rfl, hbr, hn⟩ | ⟨hr, rfl⟩, hbt⟩
    · have HE := hideIt (HV.out n q hr)
      have HT := hideIt hbt
      have HCC := hideIt (HI.out n q w1 hbr HE.out.2 hn)
      clear hr hbr hbt
      go_wp2_with fail
      refine HCC.out.mono ?_
      intro e w3 hro
      have HRO := hideIt (hro.read (p := p) HT.out HE.out.2)
      rcases hro with ⟨t, q', x, _, rfl, _⟩ | ⟨_, rfl, _⟩
      · go_wp2_with fail
        go_ret
        rw [HE.out.1]
        exact HRO.out
      · unfold gup
        go_wp2_with fail
        refine ⟨rfl, ?_⟩
        rw [HE.out.1]
        exact HRO.out
    · have HE := hideIt (HN.out hr)
      have HT := hideIt hbt
      clear hr hbt
      unfold gup
      go_wp2_with fail
      exact ⟨rfl, .inr ⟨HE.out, rfl, HT.out⟩⟩
end Go.Proofs.Ytokhindolimchaa

/-
  The program's packReader.readLong: texts with a length of their own.
-/
namespace Go.Proofs.Ytokhindolimchaa
open Go.RowKit
set_option linter.unusedSimpArgs false
set_option linter.unusedVariables false

set_option maxRecDepth 100000 in
set_option maxHeartbeats 6400000 in
theorem plong_text {rb p f : Nat} {s : ByteArray} {w : World} (h : BrAt w rb s (p + 1)) (hs : s.size ≤ 4000) (k : Nat) (hk : k < 3) :
    Calls Try.prog 75 #[.pointer (some ⟨rb, 0, none⟩), .int .u8 ((217 + k : Nat) : Int)] w (ReadOr (longV s.data.toList (p + 1) (2 ^ k)) (f + 1) rb s p w) := by
  have HC := hideIt (fun w' (hb : Below w.heap.size w w') => pnumber_any (h.below hb) hs (2 ^ k) (pow_le3 (by omega)))
  have HV : Hid (∀ n q, numI s.data.toList (p + 1) (2 ^ k) = some (n, q) → longV s.data.toList (p + 1) (2 ^ k) = wordI s.data.toList n q ∧ p < q) := fun n q hh => by
    refine ⟨by unfold longV; rw [hh], ?_⟩
    unfold numI at hh
    split at hh
    · simp only [Option.some.injEq, Prod.mk.injEq] at hh; have := two_pos k; omega
    · cases hh
  have HN : Hid (numI s.data.toList (p + 1) (2 ^ k) = none → longV s.data.toList (p + 1) (2 ^ k) = none) := fun hh => by unfold longV; rw [hh]
  obtain ⟨R, hR⟩ : ∃ R, longV s.data.toList (p + 1) (2 ^ k) = R := ⟨_, rfl⟩
  rw [hR] at HV HN ⊢
  have HLN := hideIt (len_is s)
  have HD : Hid (Below w.heap.size w w.drew) := (Below.refl _ w).drew
  clear h hR
  rcases (show k = 0 ∨ k = 1 ∨ k = 2 by omega) with rfl | rfl | rfl
  · go_enter Try.func75, Try.ntmps75
    go_wp2_with fail
    rename_i K1 hK1 K2 hK2
    refine wp_region_any (by kernel_rfl) ?_
    change wpAny _ _ _ _ _ _ _ (World.drew _)
    refine wpAny_take (i := 0) (v := .pointer (some ⟨rb, 0, none⟩)) rfl (by kernel_rfl) (by kernel_rfl) (by kernel_rfl) (fun _ _ _ h => h) (Or.inl ⟨by kernel_rfl, fun w => ?_⟩) ?_
    · go_simp
    refine wpAny_take (i := 1) (v := .pointer (some ⟨rb, 0, none⟩)) rfl (by kernel_rfl) (by kernel_rfl) (by kernel_rfl) (fun _ _ _ h => h) (Or.inl ⟨by kernel_rfl, fun w => ?_⟩) ?_
    · go_simp
    refine wpAny_take (i := 2) (v := .pointer (some ⟨rb, 0, none⟩)) rfl (by kernel_rfl) (by kernel_rfl) (by kernel_rfl) (fun _ _ _ h => h) (Or.inl ⟨by kernel_rfl, fun w => ?_⟩) ?_
    · go_simp
    refine wpAny_take (i := 3) (v := .pointer (some ⟨rb, 0, none⟩)) rfl (by kernel_rfl) (by kernel_rfl) (by kernel_rfl) (fun _ _ _ h => h) (Or.inl ⟨by kernel_rfl, fun w => ?_⟩) ?_
    · go_simp
    refine wpAny_take (i := 4) (v := .int .u8 217) rfl (by kernel_rfl) (by kernel_rfl) (by kernel_rfl) (fun _ _ _ h => h) (Or.inl ⟨by kernel_rfl, fun w => ?_⟩) ?_
    · go_simp
    refine wpAny_take (i := 5) (v := .int .u8 0) rfl (by kernel_rfl) (by kernel_rfl) (by kernel_rfl) (fun _ _ _ h => h) (Or.inl ⟨by kernel_rfl, fun w => ?_⟩) ?_
    · go_simp <;> decide
    refine wpAny_take (i := 6) (v := .int .i64 1) rfl (by kernel_rfl) (by kernel_rfl) (by kernel_rfl) (fun _ _ _ h => h) (Or.inl ⟨by kernel_rfl, fun w => ?_⟩) ?_
    · go_simp <;> decide
    refine wpAny_ready (rs := [7]) (by kernel_rfl) (by simp) ?_
    refine AllReady.cons rfl (fun K hK => ?_) AllReady.nil
    refine step_call2p (by kernel_rfl) 97 (.tmp 56) (.tmp 59) 119 3 (by kernel_rfl) (.pointer (some ⟨rb, 0, none⟩)) (.int .i64 ((2 ^ 0 : Nat) : Int)) (by kernel_rfl) (by kernel_rfl) (call_pnum _ _) (HC.out _ HD.out) ?_
    rintro e w1 ⟨⟨n, q, hr, rfl, hbr, hn⟩ | ⟨hr, rfl⟩, hbt⟩
    rotate_left
    · exact .inr ⟨_, rfl, rfl, .inr ⟨HN.out hr, rfl, (But.of_below HD.out).trans hbt⟩⟩
    have HE := hideIt (HV.out n q hr)
    refine .inl ⟨_, rfl, ?_⟩
    refine hK _ _ ?_
    clear hK K
    refine wpAny_ready (rs := [8]) (by kernel_rfl) (by simp) ?_
    refine AllReady.cons rfl (fun K hK => ?_) AllReady.nil
    by_cases hfit : q + n ≤ s.size
    rotate_left
    · refine step_call2p (by kernel_rfl) 59 (.tmp 55) (.tmp 60) 48 2 (by kernel_rfl) (.pointer (some ⟨rb, 0, none⟩)) (.int .i64 (n : Int)) (by kernel_rfl) (by kernel_rfl) (call_take _ _) (take_no hbr (by omega) (by omega) hn) ?_
      rintro e w2 ⟨rfl, hbt2⟩
      exact .inr ⟨_, rfl, rfl, .inr ⟨by rw [HE.out.1]; unfold wordI; rw [if_neg (by rw [HLN.out]; exact hfit)], rfl, ((But.of_below HD.out).trans hbt).trans hbt2⟩⟩
    refine step_call2p (by kernel_rfl) 59 (.tmp 55) (.tmp 60) 48 2 (by kernel_rfl) (.pointer (some ⟨rb, 0, none⟩)) (.int .i64 (n : Int)) (by kernel_rfl) (by kernel_rfl) (call_take _ _) (take_yes hbr hfit (by omega)) ?_
    rintro e w2 ⟨rfl, hbr2, hbt2⟩
    have HW : Hid (R = some (wordT (cutT s.data.toList q n), q + n)) := by rw [Hid, HE.out.1]; unfold wordI; rw [if_pos (by rw [HLN.out]; exact hfit)]
    have HB2 := hideIt hbr2
    have HT2 := hideIt (((But.of_below (rb := rb) HD.out).trans hbt).trans hbt2)
    refine .inl ⟨_, rfl, ?_⟩
    refine hK _ _ ?_
    clear hK K hbr2 hbt2 hbr hbt hr
    obtain ⟨C, hC⟩ : ∃ C, cutT s.data.toList q n = C := ⟨_, rfl⟩
    rw [hC] at HW ⊢
    clear hC
    refine wpAny_take (i := 9) (v := .agg #[.string C]) rfl (by kernel_rfl) (by kernel_rfl) (by kernel_rfl) (fun _ _ _ h => h) (Or.inl ⟨by kernel_rfl, fun w => ?_⟩) ?_
    · go_simp
    refine wpAny_take (i := 10) (v := .iface 85 (.agg #[.string C])) rfl (by kernel_rfl) (by kernel_rfl) (by kernel_rfl) (fun _ _ _ h => h) (Or.inl ⟨by kernel_rfl, fun w => ?_⟩) ?_
    · go_simp
    refine wpAny_take (i := 11) (v := .iface 85 (.agg #[.string C])) rfl (by kernel_rfl) (by kernel_rfl) (by kernel_rfl) (fun _ _ _ h => h) (Or.inl ⟨by kernel_rfl, fun w => ?_⟩) ?_
    · go_simp
    refine wpAny_done (by kernel_rfl) ?_ _
    change K2 _ _
    refine hK2 _ _ ?_
    refine wp_ret ?_
    change bodyPost _ _ _ .ret _ _
    refine bodyPost_ret (v := .iface 85 (.agg #[.string C])) (by kernel_rfl) (by kernel_rfl) ?_
    exact .inl ⟨_, _, _, HW.out, rfl, (leafP f).2.2.2 C, HB2.out, HT2.out, by have := HE.out.2; omega⟩
  · go_enter Try.func75, Try.ntmps75
    go_wp2_with fail
    rename_i K1 hK1 K2 hK2
    refine wp_region_any (by kernel_rfl) ?_
    change wpAny _ _ _ _ _ _ _ (World.drew _)
    refine wpAny_take (i := 0) (v := .pointer (some ⟨rb, 0, none⟩)) rfl (by kernel_rfl) (by kernel_rfl) (by kernel_rfl) (fun _ _ _ h => h) (Or.inl ⟨by kernel_rfl, fun w => ?_⟩) ?_
    · go_simp
    refine wpAny_take (i := 1) (v := .pointer (some ⟨rb, 0, none⟩)) rfl (by kernel_rfl) (by kernel_rfl) (by kernel_rfl) (fun _ _ _ h => h) (Or.inl ⟨by kernel_rfl, fun w => ?_⟩) ?_
    · go_simp
    refine wpAny_take (i := 2) (v := .pointer (some ⟨rb, 0, none⟩)) rfl (by kernel_rfl) (by kernel_rfl) (by kernel_rfl) (fun _ _ _ h => h) (Or.inl ⟨by kernel_rfl, fun w => ?_⟩) ?_
    · go_simp
    refine wpAny_take (i := 3) (v := .pointer (some ⟨rb, 0, none⟩)) rfl (by kernel_rfl) (by kernel_rfl) (by kernel_rfl) (fun _ _ _ h => h) (Or.inl ⟨by kernel_rfl, fun w => ?_⟩) ?_
    · go_simp
    refine wpAny_take (i := 4) (v := .int .u8 218) rfl (by kernel_rfl) (by kernel_rfl) (by kernel_rfl) (fun _ _ _ h => h) (Or.inl ⟨by kernel_rfl, fun w => ?_⟩) ?_
    · go_simp
    refine wpAny_take (i := 5) (v := .int .u8 1) rfl (by kernel_rfl) (by kernel_rfl) (by kernel_rfl) (fun _ _ _ h => h) (Or.inl ⟨by kernel_rfl, fun w => ?_⟩) ?_
    · go_simp <;> decide
    refine wpAny_take (i := 6) (v := .int .i64 2) rfl (by kernel_rfl) (by kernel_rfl) (by kernel_rfl) (fun _ _ _ h => h) (Or.inl ⟨by kernel_rfl, fun w => ?_⟩) ?_
    · go_simp <;> decide
    refine wpAny_ready (rs := [7]) (by kernel_rfl) (by simp) ?_
    refine AllReady.cons rfl (fun K hK => ?_) AllReady.nil
    refine step_call2p (by kernel_rfl) 97 (.tmp 56) (.tmp 59) 119 3 (by kernel_rfl) (.pointer (some ⟨rb, 0, none⟩)) (.int .i64 ((2 ^ 1 : Nat) : Int)) (by kernel_rfl) (by kernel_rfl) (call_pnum _ _) (HC.out _ HD.out) ?_
    rintro e w1 ⟨⟨n, q, hr, rfl, hbr, hn⟩ | ⟨hr, rfl⟩, hbt⟩
    rotate_left
    · exact .inr ⟨_, rfl, rfl, .inr ⟨HN.out hr, rfl, (But.of_below HD.out).trans hbt⟩⟩
    have HE := hideIt (HV.out n q hr)
    refine .inl ⟨_, rfl, ?_⟩
    refine hK _ _ ?_
    clear hK K
    refine wpAny_ready (rs := [8]) (by kernel_rfl) (by simp) ?_
    refine AllReady.cons rfl (fun K hK => ?_) AllReady.nil
    by_cases hfit : q + n ≤ s.size
    rotate_left
    · refine step_call2p (by kernel_rfl) 59 (.tmp 55) (.tmp 60) 48 2 (by kernel_rfl) (.pointer (some ⟨rb, 0, none⟩)) (.int .i64 (n : Int)) (by kernel_rfl) (by kernel_rfl) (call_take _ _) (take_no hbr (by omega) (by omega) hn) ?_
      rintro e w2 ⟨rfl, hbt2⟩
      exact .inr ⟨_, rfl, rfl, .inr ⟨by rw [HE.out.1]; unfold wordI; rw [if_neg (by rw [HLN.out]; exact hfit)], rfl, ((But.of_below HD.out).trans hbt).trans hbt2⟩⟩
    refine step_call2p (by kernel_rfl) 59 (.tmp 55) (.tmp 60) 48 2 (by kernel_rfl) (.pointer (some ⟨rb, 0, none⟩)) (.int .i64 (n : Int)) (by kernel_rfl) (by kernel_rfl) (call_take _ _) (take_yes hbr hfit (by omega)) ?_
    rintro e w2 ⟨rfl, hbr2, hbt2⟩
    have HW : Hid (R = some (wordT (cutT s.data.toList q n), q + n)) := by rw [Hid, HE.out.1]; unfold wordI; rw [if_pos (by rw [HLN.out]; exact hfit)]
    have HB2 := hideIt hbr2
    have HT2 := hideIt (((But.of_below (rb := rb) HD.out).trans hbt).trans hbt2)
    refine .inl ⟨_, rfl, ?_⟩
    refine hK _ _ ?_
    clear hK K hbr2 hbt2 hbr hbt hr
    obtain ⟨C, hC⟩ : ∃ C, cutT s.data.toList q n = C := ⟨_, rfl⟩
    rw [hC] at HW ⊢
    clear hC
    refine wpAny_take (i := 9) (v := .agg #[.string C]) rfl (by kernel_rfl) (by kernel_rfl) (by kernel_rfl) (fun _ _ _ h => h) (Or.inl ⟨by kernel_rfl, fun w => ?_⟩) ?_
    · go_simp
    refine wpAny_take (i := 10) (v := .iface 85 (.agg #[.string C])) rfl (by kernel_rfl) (by kernel_rfl) (by kernel_rfl) (fun _ _ _ h => h) (Or.inl ⟨by kernel_rfl, fun w => ?_⟩) ?_
    · go_simp
    refine wpAny_take (i := 11) (v := .iface 85 (.agg #[.string C])) rfl (by kernel_rfl) (by kernel_rfl) (by kernel_rfl) (fun _ _ _ h => h) (Or.inl ⟨by kernel_rfl, fun w => ?_⟩) ?_
    · go_simp
    refine wpAny_done (by kernel_rfl) ?_ _
    change K2 _ _
    refine hK2 _ _ ?_
    refine wp_ret ?_
    change bodyPost _ _ _ .ret _ _
    refine bodyPost_ret (v := .iface 85 (.agg #[.string C])) (by kernel_rfl) (by kernel_rfl) ?_
    exact .inl ⟨_, _, _, HW.out, rfl, (leafP f).2.2.2 C, HB2.out, HT2.out, by have := HE.out.2; omega⟩
  · go_enter Try.func75, Try.ntmps75
    go_wp2_with fail
    rename_i K1 hK1 K2 hK2
    refine wp_region_any (by kernel_rfl) ?_
    change wpAny _ _ _ _ _ _ _ (World.drew _)
    refine wpAny_take (i := 0) (v := .pointer (some ⟨rb, 0, none⟩)) rfl (by kernel_rfl) (by kernel_rfl) (by kernel_rfl) (fun _ _ _ h => h) (Or.inl ⟨by kernel_rfl, fun w => ?_⟩) ?_
    · go_simp
    refine wpAny_take (i := 1) (v := .pointer (some ⟨rb, 0, none⟩)) rfl (by kernel_rfl) (by kernel_rfl) (by kernel_rfl) (fun _ _ _ h => h) (Or.inl ⟨by kernel_rfl, fun w => ?_⟩) ?_
    · go_simp
    refine wpAny_take (i := 2) (v := .pointer (some ⟨rb, 0, none⟩)) rfl (by kernel_rfl) (by kernel_rfl) (by kernel_rfl) (fun _ _ _ h => h) (Or.inl ⟨by kernel_rfl, fun w => ?_⟩) ?_
    · go_simp
    refine wpAny_take (i := 3) (v := .pointer (some ⟨rb, 0, none⟩)) rfl (by kernel_rfl) (by kernel_rfl) (by kernel_rfl) (fun _ _ _ h => h) (Or.inl ⟨by kernel_rfl, fun w => ?_⟩) ?_
    · go_simp
    refine wpAny_take (i := 4) (v := .int .u8 219) rfl (by kernel_rfl) (by kernel_rfl) (by kernel_rfl) (fun _ _ _ h => h) (Or.inl ⟨by kernel_rfl, fun w => ?_⟩) ?_
    · go_simp
    refine wpAny_take (i := 5) (v := .int .u8 2) rfl (by kernel_rfl) (by kernel_rfl) (by kernel_rfl) (fun _ _ _ h => h) (Or.inl ⟨by kernel_rfl, fun w => ?_⟩) ?_
    · go_simp <;> decide
    refine wpAny_take (i := 6) (v := .int .i64 4) rfl (by kernel_rfl) (by kernel_rfl) (by kernel_rfl) (fun _ _ _ h => h) (Or.inl ⟨by kernel_rfl, fun w => ?_⟩) ?_
    · go_simp <;> decide
    refine wpAny_ready (rs := [7]) (by kernel_rfl) (by simp) ?_
    refine AllReady.cons rfl (fun K hK => ?_) AllReady.nil
    refine step_call2p (by kernel_rfl) 97 (.tmp 56) (.tmp 59) 119 3 (by kernel_rfl) (.pointer (some ⟨rb, 0, none⟩)) (.int .i64 ((2 ^ 2 : Nat) : Int)) (by kernel_rfl) (by kernel_rfl) (call_pnum _ _) (HC.out _ HD.out) ?_
    rintro e w1 ⟨⟨n, q, hr, rfl, hbr, hn⟩ | ⟨hr, rfl⟩, hbt⟩
    rotate_left
    · exact .inr ⟨_, rfl, rfl, .inr ⟨HN.out hr, rfl, (But.of_below HD.out).trans hbt⟩⟩
    have HE := hideIt (HV.out n q hr)
    refine .inl ⟨_, rfl, ?_⟩
    refine hK _ _ ?_
    clear hK K
    refine wpAny_ready (rs := [8]) (by kernel_rfl) (by simp) ?_
    refine AllReady.cons rfl (fun K hK => ?_) AllReady.nil
    by_cases hfit : q + n ≤ s.size
    rotate_left
    · refine step_call2p (by kernel_rfl) 59 (.tmp 55) (.tmp 60) 48 2 (by kernel_rfl) (.pointer (some ⟨rb, 0, none⟩)) (.int .i64 (n : Int)) (by kernel_rfl) (by kernel_rfl) (call_take _ _) (take_no hbr (by omega) (by omega) hn) ?_
      rintro e w2 ⟨rfl, hbt2⟩
      exact .inr ⟨_, rfl, rfl, .inr ⟨by rw [HE.out.1]; unfold wordI; rw [if_neg (by rw [HLN.out]; exact hfit)], rfl, ((But.of_below HD.out).trans hbt).trans hbt2⟩⟩
    refine step_call2p (by kernel_rfl) 59 (.tmp 55) (.tmp 60) 48 2 (by kernel_rfl) (.pointer (some ⟨rb, 0, none⟩)) (.int .i64 (n : Int)) (by kernel_rfl) (by kernel_rfl) (call_take _ _) (take_yes hbr hfit (by omega)) ?_
    rintro e w2 ⟨rfl, hbr2, hbt2⟩
    have HW : Hid (R = some (wordT (cutT s.data.toList q n), q + n)) := by rw [Hid, HE.out.1]; unfold wordI; rw [if_pos (by rw [HLN.out]; exact hfit)]
    have HB2 := hideIt hbr2
    have HT2 := hideIt (((But.of_below (rb := rb) HD.out).trans hbt).trans hbt2)
    refine .inl ⟨_, rfl, ?_⟩
    refine hK _ _ ?_
    clear hK K hbr2 hbt2 hbr hbt hr
    obtain ⟨C, hC⟩ : ∃ C, cutT s.data.toList q n = C := ⟨_, rfl⟩
    rw [hC] at HW ⊢
    clear hC
    refine wpAny_take (i := 9) (v := .agg #[.string C]) rfl (by kernel_rfl) (by kernel_rfl) (by kernel_rfl) (fun _ _ _ h => h) (Or.inl ⟨by kernel_rfl, fun w => ?_⟩) ?_
    · go_simp
    refine wpAny_take (i := 10) (v := .iface 85 (.agg #[.string C])) rfl (by kernel_rfl) (by kernel_rfl) (by kernel_rfl) (fun _ _ _ h => h) (Or.inl ⟨by kernel_rfl, fun w => ?_⟩) ?_
    · go_simp
    refine wpAny_take (i := 11) (v := .iface 85 (.agg #[.string C])) rfl (by kernel_rfl) (by kernel_rfl) (by kernel_rfl) (fun _ _ _ h => h) (Or.inl ⟨by kernel_rfl, fun w => ?_⟩) ?_
    · go_simp
    refine wpAny_done (by kernel_rfl) ?_ _
    change K2 _ _
    refine hK2 _ _ ?_
    refine wp_ret ?_
    change bodyPost _ _ _ .ret _ _
    refine bodyPost_ret (v := .iface 85 (.agg #[.string C])) (by kernel_rfl) (by kernel_rfl) ?_
    exact .inl ⟨_, _, _, HW.out, rfl, (leafP f).2.2.2 C, HB2.out, HT2.out, by have := HE.out.2; omega⟩
end Go.Proofs.Ytokhindolimchaa
