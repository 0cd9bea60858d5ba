/-
  The program's packReader.readLong: texts with a length of their own.
-/
import Derived.Test.YtokhindolimchaaGreatPkL2
import Derived.Test.YtokhindolimchaaGreatEscP
namespace Go.Proofs.YtokhindolimchaaGreat
open Go.RowKit
set_option linter.unusedSimpArgs false
set_option linter.unusedVariables false

set_option maxRecDepth 100000 in
set_option maxHeartbeats 6400000 in
theorem plong_text {rb p f : Nat} {s : ByteArray} {w : World} (h : BrAt w rb s (p + 1)) (hs : s.size ≤ 4000) (k : Nat) (hk : k < 3) :
    Calls Tryz.prog 82 #[.pointer (some ⟨rb, 0, none⟩), .int .u8 ((217 + k : Nat) : Int)] w (ReadOr (longV s.data.toList (p + 1) (2 ^ k)) (f + 1) rb s p w) := by
  have HC := hideIt (fun w' (hb : Below w.heap.size w w') => pnumber_any (h.below hb) hs (2 ^ k) (pow_le3 (by omega)))
  have HV : Hid (∀ n q, numI s.data.toList (p + 1) (2 ^ k) = some (n, q) → longV s.data.toList (p + 1) (2 ^ k) = wordI s.data.toList n q ∧ p < q) := fun n q hh => by
    refine ⟨by unfold longV; rw [hh], ?_⟩
    unfold numI at hh
    split at hh
    · simp only [Option.some.injEq, Prod.mk.injEq] at hh; have := two_pos k; omega
    · cases hh
  have HN : Hid (numI s.data.toList (p + 1) (2 ^ k) = none → longV s.data.toList (p + 1) (2 ^ k) = none) := fun hh => by unfold longV; rw [hh]
  obtain ⟨R, hR⟩ : ∃ R, longV s.data.toList (p + 1) (2 ^ k) = R := ⟨_, rfl⟩
  rw [hR] at HV HN ⊢
  have HLN := hideIt (len_is s)
  have HD : Hid (Below w.heap.size w w.drew) := (Below.refl _ w).drew
  clear h hR
  rcases (show k = 0 ∨ k = 1 ∨ k = 2 by omega) with rfl | rfl | rfl
  · go_enter Tryz.func82, Tryz.ntmps82
    go_wp2_with fail
    rename_i K1 hK1 K2 hK2
    refine wp_region_any (by kernel_rfl) ?_
    change wpAny _ _ _ _ _ _ _ (World.drew _)
    refine wpAny_take (i := 0) (v := .pointer (some ⟨rb, 0, none⟩)) rfl (by kernel_rfl) (by kernel_rfl) (by kernel_rfl) (fun _ _ _ h => h) (Or.inl ⟨by kernel_rfl, fun w => ?_⟩) ?_
    · go_simp
    refine wpAny_take (i := 1) (v := .pointer (some ⟨rb, 0, none⟩)) rfl (by kernel_rfl) (by kernel_rfl) (by kernel_rfl) (fun _ _ _ h => h) (Or.inl ⟨by kernel_rfl, fun w => ?_⟩) ?_
    · go_simp
    refine wpAny_take (i := 2) (v := .pointer (some ⟨rb, 0, none⟩)) rfl (by kernel_rfl) (by kernel_rfl) (by kernel_rfl) (fun _ _ _ h => h) (Or.inl ⟨by kernel_rfl, fun w => ?_⟩) ?_
    · go_simp
    refine wpAny_take (i := 3) (v := .pointer (some ⟨rb, 0, none⟩)) rfl (by kernel_rfl) (by kernel_rfl) (by kernel_rfl) (fun _ _ _ h => h) (Or.inl ⟨by kernel_rfl, fun w => ?_⟩) ?_
    · go_simp
    refine wpAny_take (i := 4) (v := .int .u8 217) rfl (by kernel_rfl) (by kernel_rfl) (by kernel_rfl) (fun _ _ _ h => h) (Or.inl ⟨by kernel_rfl, fun w => ?_⟩) ?_
    · go_simp
    refine wpAny_take (i := 5) (v := .int .u8 0) rfl (by kernel_rfl) (by kernel_rfl) (by kernel_rfl) (fun _ _ _ h => h) (Or.inl ⟨by kernel_rfl, fun w => ?_⟩) ?_
    · go_simp <;> decide
    refine wpAny_take (i := 6) (v := .int .i64 1) rfl (by kernel_rfl) (by kernel_rfl) (by kernel_rfl) (fun _ _ _ h => h) (Or.inl ⟨by kernel_rfl, fun w => ?_⟩) ?_
    · go_simp <;> decide
    refine wpAny_ready (rs := [7]) (by kernel_rfl) (by simp) ?_
    refine AllReady.cons rfl (fun K hK => ?_) AllReady.nil
    refine step_call2p (by kernel_rfl) 108 (.tmp 56) (.tmp 59) 128 3 (by kernel_rfl) (.pointer (some ⟨rb, 0, none⟩)) (.int .i64 ((2 ^ 0 : Nat) : Int)) (by kernel_rfl) (by kernel_rfl) (call_pnum _ _) (HC.out _ HD.out) ?_
    rintro e w1 ⟨⟨n, q, hr, rfl, hbr, hn⟩ | ⟨hr, rfl⟩, hbt⟩
    rotate_left
    · exact .inr ⟨_, rfl, rfl, .inr ⟨HN.out hr, rfl, (But.of_below HD.out).trans hbt⟩⟩
    have HE := hideIt (HV.out n q hr)
    refine .inl ⟨_, rfl, ?_⟩
    refine hK _ _ ?_
    clear hK K
    refine wpAny_ready (rs := [8]) (by kernel_rfl) (by simp) ?_
    refine AllReady.cons rfl (fun K hK => ?_) AllReady.nil
    by_cases hfit : q + n ≤ s.size
    rotate_left
    · refine step_call2p (by kernel_rfl) 57 (.tmp 55) (.tmp 60) 41 2 (by kernel_rfl) (.pointer (some ⟨rb, 0, none⟩)) (.int .i64 (n : Int)) (by kernel_rfl) (by kernel_rfl) (call_take _ _) (take_no hbr (by omega) (by omega) hn) ?_
      rintro e w2 ⟨rfl, hbt2⟩
      exact .inr ⟨_, rfl, rfl, .inr ⟨by rw [HE.out.1]; unfold wordI; rw [if_neg (by rw [HLN.out]; exact hfit)], rfl, ((But.of_below HD.out).trans hbt).trans hbt2⟩⟩
    refine step_call2p (by kernel_rfl) 57 (.tmp 55) (.tmp 60) 41 2 (by kernel_rfl) (.pointer (some ⟨rb, 0, none⟩)) (.int .i64 (n : Int)) (by kernel_rfl) (by kernel_rfl) (call_take _ _) (take_yes hbr hfit (by omega)) ?_
    rintro e w2 ⟨rfl, hbr2, hbt2⟩
    have HW : Hid (R = some (wordT (cutT s.data.toList q n), q + n)) := by rw [Hid, HE.out.1]; unfold wordI; rw [if_pos (by rw [HLN.out]; exact hfit)]
    have HB2 := hideIt hbr2
    have HT2 := hideIt (((But.of_below (rb := rb) HD.out).trans hbt).trans hbt2)
    refine .inl ⟨_, rfl, ?_⟩
    refine hK _ _ ?_
    clear hK K hbr2 hbt2 hbr hbt hr
    obtain ⟨C, hC⟩ : ∃ C, cutT s.data.toList q n = C := ⟨_, rfl⟩
    rw [hC] at HW ⊢
    clear hC
    refine wpAny_take (i := 9) (v := .agg #[.string C]) rfl (by kernel_rfl) (by kernel_rfl) (by kernel_rfl) (fun _ _ _ h => h) (Or.inl ⟨by kernel_rfl, fun w => ?_⟩) ?_
    · go_simp
    refine wpAny_take (i := 10) (v := .iface 95 (.agg #[.string C])) rfl (by kernel_rfl) (by kernel_rfl) (by kernel_rfl) (fun _ _ _ h => h) (Or.inl ⟨by kernel_rfl, fun w => ?_⟩) ?_
    · go_simp
    refine wpAny_take (i := 11) (v := .iface 95 (.agg #[.string C])) rfl (by kernel_rfl) (by kernel_rfl) (by kernel_rfl) (fun _ _ _ h => h) (Or.inl ⟨by kernel_rfl, fun w => ?_⟩) ?_
    · go_simp
    refine wpAny_done (by kernel_rfl) ?_ _
    change K2 _ _
    refine hK2 _ _ ?_
    refine wp_ret ?_
    change bodyPost _ _ _ .ret _ _
    refine bodyPost_ret (v := .iface 95 (.agg #[.string C])) (by kernel_rfl) (by kernel_rfl) ?_
    exact .inl ⟨_, _, _, HW.out, rfl, (leafP f).2.2.2 C, HB2.out, HT2.out, by have := HE.out.2; omega⟩
  · go_enter Tryz.func82, Tryz.ntmps82
    go_wp2_with fail
    rename_i K1 hK1 K2 hK2
    refine wp_region_any (by kernel_rfl) ?_
    change wpAny _ _ _ _ _ _ _ (World.drew _)
    refine wpAny_take (i := 0) (v := .pointer (some ⟨rb, 0, none⟩)) rfl (by kernel_rfl) (by kernel_rfl) (by kernel_rfl) (fun _ _ _ h => h) (Or.inl ⟨by kernel_rfl, fun w => ?_⟩) ?_
    · go_simp
    refine wpAny_take (i := 1) (v := .pointer (some ⟨rb, 0, none⟩)) rfl (by kernel_rfl) (by kernel_rfl) (by kernel_rfl) (fun _ _ _ h => h) (Or.inl ⟨by kernel_rfl, fun w => ?_⟩) ?_
    · go_simp
    refine wpAny_take (i := 2) (v := .pointer (some ⟨rb, 0, none⟩)) rfl (by kernel_rfl) (by kernel_rfl) (by kernel_rfl) (fun _ _ _ h => h) (Or.inl ⟨by kernel_rfl, fun w => ?_⟩) ?_
    · go_simp
    refine wpAny_take (i := 3) (v := .pointer (some ⟨rb, 0, none⟩)) rfl (by kernel_rfl) (by kernel_rfl) (by kernel_rfl) (fun _ _ _ h => h) (Or.inl ⟨by kernel_rfl, fun w => ?_⟩) ?_
    · go_simp
    refine wpAny_take (i := 4) (v := .int .u8 218) rfl (by kernel_rfl) (by kernel_rfl) (by kernel_rfl) (fun _ _ _ h => h) (Or.inl ⟨by kernel_rfl, fun w => ?_⟩) ?_
    · go_simp
    refine wpAny_take (i := 5) (v := .int .u8 1) rfl (by kernel_rfl) (by kernel_rfl) (by kernel_rfl) (fun _ _ _ h => h) (Or.inl ⟨by kernel_rfl, fun w => ?_⟩) ?_
    · go_simp <;> decide
    refine wpAny_take (i := 6) (v := .int .i64 2) rfl (by kernel_rfl) (by kernel_rfl) (by kernel_rfl) (fun _ _ _ h => h) (Or.inl ⟨by kernel_rfl, fun w => ?_⟩) ?_
    · go_simp <;> decide
    refine wpAny_ready (rs := [7]) (by kernel_rfl) (by simp) ?_
    refine AllReady.cons rfl (fun K hK => ?_) AllReady.nil
    refine step_call2p (by kernel_rfl) 108 (.tmp 56) (.tmp 59) 128 3 (by kernel_rfl) (.pointer (some ⟨rb, 0, none⟩)) (.int .i64 ((2 ^ 1 : Nat) : Int)) (by kernel_rfl) (by kernel_rfl) (call_pnum _ _) (HC.out _ HD.out) ?_
    rintro e w1 ⟨⟨n, q, hr, rfl, hbr, hn⟩ | ⟨hr, rfl⟩, hbt⟩
    rotate_left
    · exact .inr ⟨_, rfl, rfl, .inr ⟨HN.out hr, rfl, (But.of_below HD.out).trans hbt⟩⟩
    have HE := hideIt (HV.out n q hr)
    refine .inl ⟨_, rfl, ?_⟩
    refine hK _ _ ?_
    clear hK K
    refine wpAny_ready (rs := [8]) (by kernel_rfl) (by simp) ?_
    refine AllReady.cons rfl (fun K hK => ?_) AllReady.nil
    by_cases hfit : q + n ≤ s.size
    rotate_left
    · refine step_call2p (by kernel_rfl) 57 (.tmp 55) (.tmp 60) 41 2 (by kernel_rfl) (.pointer (some ⟨rb, 0, none⟩)) (.int .i64 (n : Int)) (by kernel_rfl) (by kernel_rfl) (call_take _ _) (take_no hbr (by omega) (by omega) hn) ?_
      rintro e w2 ⟨rfl, hbt2⟩
      exact .inr ⟨_, rfl, rfl, .inr ⟨by rw [HE.out.1]; unfold wordI; rw [if_neg (by rw [HLN.out]; exact hfit)], rfl, ((But.of_below HD.out).trans hbt).trans hbt2⟩⟩
    refine step_call2p (by kernel_rfl) 57 (.tmp 55) (.tmp 60) 41 2 (by kernel_rfl) (.pointer (some ⟨rb, 0, none⟩)) (.int .i64 (n : Int)) (by kernel_rfl) (by kernel_rfl) (call_take _ _) (take_yes hbr hfit (by omega)) ?_
    rintro e w2 ⟨rfl, hbr2, hbt2⟩
    have HW : Hid (R = some (wordT (cutT s.data.toList q n), q + n)) := by rw [Hid, HE.out.1]; unfold wordI; rw [if_pos (by rw [HLN.out]; exact hfit)]
    have HB2 := hideIt hbr2
    have HT2 := hideIt (((But.of_below (rb := rb) HD.out).trans hbt).trans hbt2)
    refine .inl ⟨_, rfl, ?_⟩
    refine hK _ _ ?_
    clear hK K hbr2 hbt2 hbr hbt hr
    obtain ⟨C, hC⟩ : ∃ C, cutT s.data.toList q n = C := ⟨_, rfl⟩
    rw [hC] at HW ⊢
    clear hC
    refine wpAny_take (i := 9) (v := .agg #[.string C]) rfl (by kernel_rfl) (by kernel_rfl) (by kernel_rfl) (fun _ _ _ h => h) (Or.inl ⟨by kernel_rfl, fun w => ?_⟩) ?_
    · go_simp
    refine wpAny_take (i := 10) (v := .iface 95 (.agg #[.string C])) rfl (by kernel_rfl) (by kernel_rfl) (by kernel_rfl) (fun _ _ _ h => h) (Or.inl ⟨by kernel_rfl, fun w => ?_⟩) ?_
    · go_simp
    refine wpAny_take (i := 11) (v := .iface 95 (.agg #[.string C])) rfl (by kernel_rfl) (by kernel_rfl) (by kernel_rfl) (fun _ _ _ h => h) (Or.inl ⟨by kernel_rfl, fun w => ?_⟩) ?_
    · go_simp
    refine wpAny_done (by kernel_rfl) ?_ _
    change K2 _ _
    refine hK2 _ _ ?_
    refine wp_ret ?_
    change bodyPost _ _ _ .ret _ _
    refine bodyPost_ret (v := .iface 95 (.agg #[.string C])) (by kernel_rfl) (by kernel_rfl) ?_
    exact .inl ⟨_, _, _, HW.out, rfl, (leafP f).2.2.2 C, HB2.out, HT2.out, by have := HE.out.2; omega⟩
  · go_enter Tryz.func82, Tryz.ntmps82
    go_wp2_with fail
    rename_i K1 hK1 K2 hK2
    refine wp_region_any (by kernel_rfl) ?_
    change wpAny _ _ _ _ _ _ _ (World.drew _)
    refine wpAny_take (i := 0) (v := .pointer (some ⟨rb, 0, none⟩)) rfl (by kernel_rfl) (by kernel_rfl) (by kernel_rfl) (fun _ _ _ h => h) (Or.inl ⟨by kernel_rfl, fun w => ?_⟩) ?_
    · go_simp
    refine wpAny_take (i := 1) (v := .pointer (some ⟨rb, 0, none⟩)) rfl (by kernel_rfl) (by kernel_rfl) (by kernel_rfl) (fun _ _ _ h => h) (Or.inl ⟨by kernel_rfl, fun w => ?_⟩) ?_
    · go_simp
    refine wpAny_take (i := 2) (v := .pointer (some ⟨rb, 0, none⟩)) rfl (by kernel_rfl) (by kernel_rfl) (by kernel_rfl) (fun _ _ _ h => h) (Or.inl ⟨by kernel_rfl, fun w => ?_⟩) ?_
    · go_simp
    refine wpAny_take (i := 3) (v := .pointer (some ⟨rb, 0, none⟩)) rfl (by kernel_rfl) (by kernel_rfl) (by kernel_rfl) (fun _ _ _ h => h) (Or.inl ⟨by kernel_rfl, fun w => ?_⟩) ?_
    · go_simp
    refine wpAny_take (i := 4) (v := .int .u8 219) rfl (by kernel_rfl) (by kernel_rfl) (by kernel_rfl) (fun _ _ _ h => h) (Or.inl ⟨by kernel_rfl, fun w => ?_⟩) ?_
    · go_simp
    refine wpAny_take (i := 5) (v := .int .u8 2) rfl (by kernel_rfl) (by kernel_rfl) (by kernel_rfl) (fun _ _ _ h => h) (Or.inl ⟨by kernel_rfl, fun w => ?_⟩) ?_
    · go_simp <;> decide
    refine wpAny_take (i := 6) (v := .int .i64 4) rfl (by kernel_rfl) (by kernel_rfl) (by kernel_rfl) (fun _ _ _ h => h) (Or.inl ⟨by kernel_rfl, fun w => ?_⟩) ?_
    · go_simp <;> decide
    refine wpAny_ready (rs := [7]) (by kernel_rfl) (by simp) ?_
    refine AllReady.cons rfl (fun K hK => ?_) AllReady.nil
    refine step_call2p (by kernel_rfl) 108 (.tmp 56) (.tmp 59) 128 3 (by kernel_rfl) (.pointer (some ⟨rb, 0, none⟩)) (.int .i64 ((2 ^ 2 : Nat) : Int)) (by kernel_rfl) (by kernel_rfl) (call_pnum _ _) (HC.out _ HD.out) ?_
    rintro e w1 ⟨⟨n, q, hr, rfl, hbr, hn⟩ | ⟨hr, rfl⟩, hbt⟩
    rotate_left
    · exact .inr ⟨_, rfl, rfl, .inr ⟨HN.out hr, rfl, (But.of_below HD.out).trans hbt⟩⟩
    have HE := hideIt (HV.out n q hr)
    refine .inl ⟨_, rfl, ?_⟩
    refine hK _ _ ?_
    clear hK K
    refine wpAny_ready (rs := [8]) (by kernel_rfl) (by simp) ?_
    refine AllReady.cons rfl (fun K hK => ?_) AllReady.nil
    by_cases hfit : q + n ≤ s.size
    rotate_left
    · refine step_call2p (by kernel_rfl) 57 (.tmp 55) (.tmp 60) 41 2 (by kernel_rfl) (.pointer (some ⟨rb, 0, none⟩)) (.int .i64 (n : Int)) (by kernel_rfl) (by kernel_rfl) (call_take _ _) (take_no hbr (by omega) (by omega) hn) ?_
      rintro e w2 ⟨rfl, hbt2⟩
      exact .inr ⟨_, rfl, rfl, .inr ⟨by rw [HE.out.1]; unfold wordI; rw [if_neg (by rw [HLN.out]; exact hfit)], rfl, ((But.of_below HD.out).trans hbt).trans hbt2⟩⟩
    refine step_call2p (by kernel_rfl) 57 (.tmp 55) (.tmp 60) 41 2 (by kernel_rfl) (.pointer (some ⟨rb, 0, none⟩)) (.int .i64 (n : Int)) (by kernel_rfl) (by kernel_rfl) (call_take _ _) (take_yes hbr hfit (by omega)) ?_
    rintro e w2 ⟨rfl, hbr2, hbt2⟩
    have HW : Hid (R = some (wordT (cutT s.data.toList q n), q + n)) := by rw [Hid, HE.out.1]; unfold wordI; rw [if_pos (by rw [HLN.out]; exact hfit)]
    have HB2 := hideIt hbr2
    have HT2 := hideIt (((But.of_below (rb := rb) HD.out).trans hbt).trans hbt2)
    refine .inl ⟨_, rfl, ?_⟩
    refine hK _ _ ?_
    clear hK K hbr2 hbt2 hbr hbt hr
    obtain ⟨C, hC⟩ : ∃ C, cutT s.data.toList q n = C := ⟨_, rfl⟩
    rw [hC] at HW ⊢
    clear hC
    refine wpAny_take (i := 9) (v := .agg #[.string C]) rfl (by kernel_rfl) (by kernel_rfl) (by kernel_rfl) (fun _ _ _ h => h) (Or.inl ⟨by kernel_rfl, fun w => ?_⟩) ?_
    · go_simp
    refine wpAny_take (i := 10) (v := .iface 95 (.agg #[.string C])) rfl (by kernel_rfl) (by kernel_rfl) (by kernel_rfl) (fun _ _ _ h => h) (Or.inl ⟨by kernel_rfl, fun w => ?_⟩) ?_
    · go_simp
    refine wpAny_take (i := 11) (v := .iface 95 (.agg #[.string C])) rfl (by kernel_rfl) (by kernel_rfl) (by kernel_rfl) (fun _ _ _ h => h) (Or.inl ⟨by kernel_rfl, fun w => ?_⟩) ?_
    · go_simp
    refine wpAny_done (by kernel_rfl) ?_ _
    change K2 _ _
    refine hK2 _ _ ?_
    refine wp_ret ?_
    change bodyPost _ _ _ .ret _ _
    refine bodyPost_ret (v := .iface 95 (.agg #[.string C])) (by kernel_rfl) (by kernel_rfl) ?_
    exact .inl ⟨_, _, _, HW.out, rfl, (leafP f).2.2.2 C, HB2.out, HT2.out, by have := HE.out.2; omega⟩
end Go.Proofs.YtokhindolimchaaGreat

/-
  The program's packReader.read.
-/
namespace Go.Proofs.YtokhindolimchaaGreat
open Go.RowKit
set_option linter.unusedSimpArgs false
set_option linter.unusedVariables false

/-- What readLong answers at whatever byte. -/
theorem plong_any {rb p f : Nat} {s : ByteArray} {w : World} (h : BrAt w rb s (p + 1)) (hs : s.size ≤ 4000) (hp : p < s.size) (hf : s.size < p + (f + 1)) (IH : GAll 41 s.data.toList (rdP s.data.toList f) f rb s) (h1 : 192 ≤ byAt s.data.toList p) (h2 : byAt s.data.toList p < 224) :
    Calls Tryz.prog 82 #[.pointer (some ⟨rb, 0, none⟩), .int .u8 ((byAt s.data.toList p : Nat) : Int)] w (ReadOr (rdP s.data.toList (f + 1) p) (f + 1) rb s p w) := by
  have hl : p < s.data.toList.length := by rw [len_is]; exact hp
  rcases (show byAt s.data.toList p = 192 ∨ byAt s.data.toList p = 194 ∨ byAt s.data.toList p = 195 ∨ (byAt s.data.toList p = 193 ∨ (196 ≤ byAt s.data.toList p ∧ byAt s.data.toList p < 204)) ∨ (204 ≤ byAt s.data.toList p ∧ byAt s.data.toList p < 208) ∨ (208 ≤ byAt s.data.toList p ∧ byAt s.data.toList p < 212) ∨ (212 ≤ byAt s.data.toList p ∧ byAt s.data.toList p < 217) ∨ (217 ≤ byAt s.data.toList p ∧ byAt s.data.toList p < 220) ∨ (220 ≤ byAt s.data.toList p ∧ byAt s.data.toList p < 222) ∨ (222 ≤ byAt s.data.toList p ∧ byAt s.data.toList p < 224) by omega) with c | c | c | c | c | c | c | c | c | c
  · have := plong_small (f := f) h 192 (by omega) (by omega)
    rw [rdP_null hl c, c]
    exact this
  · have := plong_small (f := f) h 194 (by omega) (by omega)
    rw [rdP_no hl c, c]
    exact this
  · have := plong_small (f := f) h 195 (by omega) (by omega)
    rw [rdP_yes hl c, c]
    exact this
  · have := plong_small (f := f) h (byAt s.data.toList p) (by omega) (by omega)
    rw [if_neg (by omega), if_neg (by omega), if_neg (by omega)] at this
    rw [rdP_bad hl c]
    exact this
  · obtain ⟨k, hk⟩ : ∃ k, byAt s.data.toList p = 204 + k := ⟨byAt s.data.toList p - 204, by omega⟩
    have := plong_wide (f := f) h hs k (by omega)
    rw [rdP_wide hl c, hk, show 204 + k - 204 = k by omega]
    exact this
  · obtain ⟨k, hk⟩ : ∃ k, byAt s.data.toList p = 208 + k := ⟨byAt s.data.toList p - 208, by omega⟩
    have := plong_sgn (f := f) h hs k (by omega)
    rw [rdP_sgn hl c, hk, show 208 + k - 208 = k by omega]
    exact this
  · have := plong_small (f := f) h (byAt s.data.toList p) (by omega) (by omega)
    rw [if_neg (by omega), if_neg (by omega), if_neg (by omega)] at this
    rw [rdP_bad2 hl c]
    exact this
  · obtain ⟨k, hk⟩ : ∃ k, byAt s.data.toList p = 217 + k := ⟨byAt s.data.toList p - 217, by omega⟩
    have := plong_text (f := f) h hs k (by omega)
    rw [rdP_long hl c, hk, show 217 + k - 217 = k by omega]
    exact this
  · obtain ⟨k, hk⟩ : ∃ k, byAt s.data.toList p = 220 + k := ⟨byAt s.data.toList p - 220, by omega⟩
    have := plong_list h hs hf IH k (by omega)
    rw [rdP_list2 hl c, hk, show 220 + k - 220 = k by omega]
    exact this
  · obtain ⟨k, hk⟩ : ∃ k, byAt s.data.toList p = 222 + k := ⟨byAt s.data.toList p - 222, by omega⟩
    have := plong_map h hs hf IH k (by omega)
    rw [rdP_map2 hl c, hk, show 222 + k - 222 = k by omega]
    exact this

set_option maxRecDepth 100000 in
set_option maxHeartbeats 6400000 in
theorem pread_any (rb : Nat) (s : ByteArray) (hs : s.size ≤ 4000) : ∀ f, GAll 41 s.data.toList (rdP s.data.toList f) f rb s := by
  intro f
  induction f with
  | zero => intro p w h hf; have := h.le; omega
  | succ f ih =>
    intro p w h hf
    have H := hideIt h
    have IH := hideIt ih
    have hle := h.le
    have hlen := len_is s
    have HLN := hideIt hlen
    have HCF := hideIt (call_pread (.pointer (some ⟨rb, 0, none⟩)))
    clear ih
    by_cases hend : p = s.size
    · subst hend
      have HN := hideIt (rdP_end (L := s.data.toList) (f := f) (p := s.size) (by omega))
      clear hlen
      go_enter Tryz.func41, Tryz.ntmps41
      go_wp2_with fail
      refine (next_no H.out (by omega)).mono ?_
      rintro e w1 ⟨rfl, _, b1⟩
      unfold gup
      go_wp2_with fail
      exact ⟨rfl, .inr ⟨HN.out, rfl, b1⟩⟩
    have hp : p < s.size := by omega
    have hpl : p < s.data.toList.length := by omega
    have HNX := hideIt (next_yes h hp (by omega))
    have hby := getB hp
    rw [← hby] at HNX
    have hb256 := byAt_lt s.data.toList p
    have HLG := hideIt (fun w (hb : BrAt w rb s (p + 1)) h1 h2 => plong_any hb hs hp hf IH.out h1 h2)
    have C0 := hideIt (rdP_num (L := s.data.toList) (f := f) hpl)
    have C1 := hideIt (rdP_map (L := s.data.toList) (f := f) hpl)
    have C2 := hideIt (rdP_list (L := s.data.toList) (f := f) hpl)
    have C3 := hideIt (rdP_word (L := s.data.toList) (f := f) hpl)
    have C4 := hideIt (rdP_neg (L := s.data.toList) (f := f) hpl)
    obtain ⟨b, hb⟩ : ∃ b, byAt s.data.toList p = b := ⟨_, rfl⟩
    rw [hb] at HNX hb256 HLG C0 C1 C2 C3 C4
    clear hby hb h hlen
    by_cases c0 : b < 128
    · have HE := hideIt (C0.out c0)
      have k0 : (b : Int) < 128 := by omega
      go_enter Tryz.func41, Tryz.ntmps41
      go_wp2_with fail
      refine HNX.out.mono ?_
      rintro e w1 ⟨rfl, h1, k1⟩
      have HH := hideIt h1
      have HK := hideIt k1
      clear h1 k1
      go_wp2_with fail
      go_ret
      exact .inl ⟨_, _, _, HE.out, rfl, (leafP f).2.2.1 b, HH.out, HK.out, by omega⟩
    have j0 : ¬ (b : Int) < 128 := by omega
    by_cases c1 : b < 144
    · have HE := hideIt (C1.out ⟨by omega, c1⟩)
      have k0 : (b : Int) < 144 := by omega
      obtain ⟨n, hn⟩ : ∃ n, b - 128 = n := ⟨_, rfl⟩
      rw [hn] at HE
      have hsub : (b : Int) - 128 = (n : Int) := by omega
      have hnb : n ≤ 16 := by omega
      clear hn
      go_enter Tryz.func41, Tryz.ntmps41
      go_wp2_with fail
      refine HNX.out.mono ?_
      rintro e w1 ⟨rfl, h1, k1⟩
      have HK := hideIt k1
      have HC := hideIt (readPairs_any 41 s.data.toList (rdP s.data.toList f) f rb s IH.out (rdP_full s.data.toList f) (fun p t q z h hz => by have := rdP_text s.data.toList f p t q z h hz; have := HLN.out; omega) HCF.out n (p + 1) w1 h1 (by omega) (by omega) hs)
      clear h1 k1
      go_wp2_with fail
      refine HC.out.mono ?_
      intro e w3 hro
      have HRO := hideIt (hro.read (p := p) HK.out (by omega))
      rcases hro with ⟨t, q', x, _, rfl, _⟩ | ⟨_, rfl, _⟩
      · go_wp2_with fail
        go_ret
        rw [HE.out]
        exact HRO.out
      · unfold gup
        go_wp2_with fail
        refine ⟨rfl, ?_⟩
        rw [HE.out]
        exact HRO.out
    have j1 : ¬ (b : Int) < 144 := by omega
    by_cases c2 : b < 160
    · have HE := hideIt (C2.out ⟨by omega, c2⟩)
      have k0 : (b : Int) < 160 := by omega
      obtain ⟨n, hn⟩ : ∃ n, b - 144 = n := ⟨_, rfl⟩
      rw [hn] at HE
      have hsub : (b : Int) - 144 = (n : Int) := by omega
      have hnb : n ≤ 16 := by omega
      clear hn
      go_enter Tryz.func41, Tryz.ntmps41
      go_wp2_with fail
      refine HNX.out.mono ?_
      rintro e w1 ⟨rfl, h1, k1⟩
      have HK := hideIt k1
      have HC := hideIt (readItems_any 41 s.data.toList (rdP s.data.toList f) f rb s IH.out HCF.out n (p + 1) w1 h1 (by omega) (by omega) hs)
      clear h1 k1
      go_wp2_with fail
      refine HC.out.mono ?_
      intro e w3 hro
      have HRO := hideIt (hro.read (p := p) HK.out (by omega))
      rcases hro with ⟨t, q', x, _, rfl, _⟩ | ⟨_, rfl, _⟩
      · go_wp2_with fail
        go_ret
        rw [HE.out]
        exact HRO.out
      · unfold gup
        go_wp2_with fail
        refine ⟨rfl, ?_⟩
        rw [HE.out]
        exact HRO.out
    have j2 : ¬ (b : Int) < 160 := by omega
    by_cases c3 : b < 192
    · have HE := hideIt (C3.out ⟨by omega, c3⟩)
      have k0 : (b : Int) < 192 := by omega
      obtain ⟨n, hn⟩ : ∃ n, b - 160 = n := ⟨_, rfl⟩
      rw [hn] at HE
      have hsub : (b : Int) - 160 = (n : Int) := by omega
      have hnb : n ≤ 32 := by omega
      clear hn
      go_enter Tryz.func41, Tryz.ntmps41
      go_wp2_with fail
      refine HNX.out.mono ?_
      rintro e w1 ⟨rfl, h1, k1⟩
      have HH := hideIt h1
      have HK := hideIt k1
      clear h1 k1
      by_cases hfit : p + 1 + n ≤ s.size
      · have HW : Hid (rdP s.data.toList (f + 1) p = some (wordT (cutT s.data.toList (p + 1) n), p + 1 + n)) := by rw [Hid, HE.out]; unfold wordI; rw [if_pos (by rw [HLN.out]; exact hfit)]
        go_wp2_with fail
        refine (take_yes HH.out hfit (by omega)).mono ?_
        rintro e w3 ⟨rfl, h3, k3⟩
        have HB3 := hideIt h3
        have HK3 := hideIt (HK.out.trans k3)
        clear h3 k3
        go_wp2_with fail
        go_ret
        exact .inl ⟨_, _, _, HW.out, rfl, (leafP f).2.2.2 _, HB3.out, HK3.out, by omega⟩
      · have HW : Hid (rdP s.data.toList (f + 1) p = none) := by rw [Hid, HE.out]; unfold wordI; rw [if_neg (by rw [HLN.out]; exact hfit)]
        go_wp2_with fail
        refine (take_no HH.out (by omega) (by omega) (by omega)).mono ?_
        rintro e w3 ⟨rfl, k3⟩
        have HK3 := hideIt (HK.out.trans k3)
        clear k3
        unfold gup
        go_wp2_with fail
        exact ⟨rfl, .inr ⟨HW.out, rfl, HK3.out⟩⟩
    have j3 : ¬ (b : Int) < 192 := by omega
    by_cases c4 : 224 ≤ b
    · have HE := hideIt (C4.out c4)
      have k0 : (224 : Int) ≤ (b : Int) := by omega
      have hi8 : IntKind.i8.wrap (b : Int) = (b : Int) - 256 := by
        unfold IntKind.wrap
        simp [IntKind.bits, IntKind.signed]
        omega
      go_enter Tryz.func41, Tryz.ntmps41
      go_wp2_with fail
      refine HNX.out.mono ?_
      rintro e w1 ⟨rfl, h1, k1⟩
      have HH := hideIt h1
      have HK := hideIt k1
      clear h1 k1
      go_wp2_with fail
      go_ret
      exact .inl ⟨_, _, _, HE.out, rfl, (leafP f).2.2.1 _, HH.out, HK.out, by omega⟩
    have j4 : ¬ (224 : Int) ≤ (b : Int) := by omega
    go_enter Tryz.func41, Tryz.ntmps41
    go_wp2_with fail
    refine HNX.out.mono ?_
    rintro e w1 ⟨rfl, h1, k1⟩
    have HK := hideIt k1
    have HC := hideIt (HLG.out w1 h1 (by omega) (by omega))
    clear h1 k1
    go_wp2_with fail
    refine HC.out.mono ?_
    intro e w3 hro
    have HRO := hideIt (hro.lift HK.out)
    rcases hro with ⟨t, q', x, hz, rfl, _⟩ | ⟨hz, rfl, _⟩
    · clear hz
      go_wp2_with fail
      go_ret
      exact HRO.out
    · clear hz
      unfold gup
      go_wp2_with fail
      exact ⟨rfl, HRO.out⟩
end Go.Proofs.YtokhindolimchaaGreat
