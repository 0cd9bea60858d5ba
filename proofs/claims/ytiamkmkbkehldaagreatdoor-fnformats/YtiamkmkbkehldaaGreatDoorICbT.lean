/-
  The program's packWriter.write: the bytes of a value.
-/
import Derived.Test.YtiamkmkbkehldaaGreatDoorIHd
import Derived.Test.YtiamkmkbkehldaaGreatDoorFBld
import Derived.Test.YtiamkmkbkehldaaGreatDoorIJs
import Derived.Test.YtiamkmkbkehldaaGreatDoorStepC
import Derived.Test.YtiamkmkbkehldaaGreatDoorStbE
import Derived.Test.YtiamkmkbkehldaaGreatDoorCbT
namespace Go.Proofs.YtiamkmkbkehldaaGreatDoor
open Go.RowKit
set_option linter.unusedSimpArgs false
set_option linter.unusedVariables false

def PwAll (B b f : Nat) : Prop := ∀ (t : VT) (x : Value) (l : List UInt8) (w : World), FB 97 B b [] l w → TreeAt B w f t x → TFit f t → B ≤ w.heap.size → (l ++ packT f t).length ≤ 100000000 →
  Calls Tryz.prog 62 #[.pointer (some ⟨b, 0, none⟩), x] w fun e w' => e = .returned (.tuple #[]) ∧ FB 97 B b [] (l ++ packT f t) w' ∧ Below B w w' ∧ Beside b w w'
set_option maxRecDepth 100000 in
set_option maxHeartbeats 6400000 in
theorem write_any (B b : Nat) (hT : FT 97 0) : ∀ f, PwAll B b f := by
  intro f
  induction f with
  | zero => intro t x l w _ h; exact h.elim
  | succ f ih =>
    intro t x l w hfb h hft hBw hlen
    obtain ⟨kind, n, s, keys, kids⟩ := t
    have HLF := hideIt (packT_leaf f (kind := kind) (n := n) (s := s) (keys := keys) (kids := kids))
    obtain ⟨g2, g3, g4, g80, g6, gk⟩ := hft
    have HFB := hideIt hfb
    have IH := hideIt ih
    clear hfb ih
    rcases h with ⟨rfl, rfl, rfl, rfl, rfl, rfl⟩ | ⟨rfl, rfl, rfl, rfl, rfl⟩ | ⟨rfl, rfl, rfl, rfl, rfl⟩ | ⟨rfl, rfl, rfl, rfl, rfl⟩ | ⟨rfl, rfl, rfl, rfl, it, rfl, hi⟩ | ⟨rfl, rfl, rfl, ks, it, rfl, hs, hi⟩
    · have HE := hideIt (HLF.out.1 rfl)
      rw [HE.out] at hlen ⊢
      have hl2 : l.length + 1 ≤ 100000000 := by simpa using hlen
      have t1 := tw_null_null
      go_enter Tryz.func62, Tryz.ntmps62
      go_wp2_with (go_at_call 38; refine (fb_byte hT (HFB.out.alloc _) 192 (by omega) (by simp; omega)).mono ?_; rintro e w1 ⟨rfl, f1, b1, k1⟩)
      go_end0
      exact ⟨rfl, f1, ((Below.refl _ _).alloc hBw _).trans b1, (Beside.alloc _ _ _).trans k1⟩
    · have HE := hideIt (HLF.out.2.1 rfl)
      rw [HE.out] at hlen ⊢
      have hl2 : l.length + 1 ≤ 100000000 := by simpa using hlen
      have hn := g2 rfl
      have t1 := tw_bool_null
      have t2 := tw_bool_bool
      have hn01 : n = 0 ∨ n = 1 := by omega
      have hBa : ∀ o, B ≤ (w.alloc o).drew.heap.size := fun o => by simp; omega
      rcases hn01 with rfl | rfl
      · go_enter Tryz.func62, Tryz.ntmps62
        go_wp2_with fail
        go_region_law (refine step_call2 (by rfl) 38 _ _ _ _ (by rfl) (.pointer (some ⟨b, 0, none⟩)) (.int .u8 194) (by rfl) (by rfl) (call_wbyte _ _) (fb_byte hT (HFB.out.alloc _).drew 194 (by omega) (hBa _)) ?_; rintro e w1 ⟨rfl, f1, b1, k1⟩; refine ⟨_, rfl, ?_⟩)
        all_goals (
          go_wp2_with fail
          go_end0
          exact ⟨rfl, f1, (((Below.refl _ _).alloc hBw _).drew).trans b1, (Beside.alloc _ _ _).trans k1⟩)
      · go_enter Tryz.func62, Tryz.ntmps62
        go_wp2_with fail
        go_region_law (refine step_call2 (by rfl) 38 _ _ _ _ (by rfl) (.pointer (some ⟨b, 0, none⟩)) (.int .u8 195) (by rfl) (by rfl) (call_wbyte _ _) (fb_byte hT (HFB.out.alloc _).drew 195 (by omega) (hBa _)) ?_; rintro e w1 ⟨rfl, f1, b1, k1⟩; refine ⟨_, rfl, ?_⟩)
        all_goals (
          go_wp2_with fail
          go_end0
          exact ⟨rfl, f1, (((Below.refl _ _).alloc hBw _).drew).trans b1, (Beside.alloc _ _ _).trans k1⟩)
    · have HE := hideIt (HLF.out.2.2.1 rfl)
      rw [HE.out] at hlen ⊢
      have hl2 : l.length + (packI n).length ≤ 100000000 := by simpa using hlen
      have hn := g3 rfl
      have t1 := tw_int_null
      have t2 := tw_int_bool
      have t3 := tw_int_int
      go_enter Tryz.func62, Tryz.ntmps62
      go_wp2_with (go_at_call 128; refine (writeNumber_any hT (HFB.out.alloc _) n hn.1 hn.2 (by omega) (by simp; omega)).mono ?_; rintro e w1 ⟨rfl, f1, b1, k1⟩)
      go_end0
      exact ⟨rfl, f1, ((Below.refl _ _).alloc hBw _).trans b1, (Beside.alloc _ _ _).trans k1⟩
    · have HE := hideIt (HLF.out.2.2.2.1 rfl)
      rw [HE.out] at hlen ⊢
      have hl2 : l.length + (packW s).length ≤ 100000000 := by simpa using hlen
      have hn := g4 rfl
      have t1 := tw_text_null
      have t2 := tw_text_bool
      have t3 := tw_text_int
      have t4 := tw_text_text
      go_enter Tryz.func62, Tryz.ntmps62
      go_wp2_with (go_at_call 129; refine (writeText_any hT (HFB.out.alloc _) s (by omega) (by omega) (by simp; omega)).mono ?_; rintro e w1 ⟨rfl, f1, b1, k1⟩)
      go_end0
      exact ⟨rfl, f1, ((Below.refl _ _).alloc hBw _).trans b1, (Beside.alloc _ _ _).trans k1⟩
    · have HE := hideIt (HLF.out.2.2.2.2.1 rfl)
      rw [HE.out] at hlen ⊢
      obtain ⟨hm0, ai, ci, rfl, hx⟩ := hi
      have HX := hideIt hx
      obtain ⟨M, hM⟩ : ∃ M, kids.length = M := ⟨_, rfl⟩
      rw [hM] at hlen HX g80 gk ⊢
      have HGK := hideIt gk
      have HMM := hideIt hM
      have HLM : Hid (∀ k, k ≤ M → (l ++ (packC 144 220 M ++ packL (packT f) false [] kids k)).length ≤ 100000000) := fun k hk => by
        have h2 := packL_mono (packT f) false [] kids hk
        simp only [List.length_append] at hlen ⊢
        omega
      have hl2 : l.length ≤ 100000000 := by simp only [List.length_append] at hlen; omega
      have hbl := HFB.out.lt
      clear hx gk hM hlen
      have t1 := tw_list_null
      have t2 := tw_list_bool
      have t3 := tw_list_int
      have t4 := tw_list_text
      have t5 := tw_list_list
      have HBX : Hid (∀ w1, Beside b (w.alloc (.cells #[.slice ai M ci] 174)) w1 → w1.cell? ⟨w.heap.size, 0, none⟩ = some (.slice ai M ci)) := fun w1 k1 => by
        have hh : (w.alloc (.cells #[.slice ai M ci] 174)).heap[w.heap.size]? = some (.cells #[.slice ai M ci] 174 (0, 0)) := heap_alloc_new w _
        have := k1.2 w.heap.size (by simp) (by omega) (fun cs z e => by rw [hh] at e; injection e with e; injection e with _ e2; revert e2; decide)
        exact cellAt (this.trans hh) rfl
      go_enter Tryz.func62, Tryz.ntmps62
      go_wp2_with (go_at_call 130; refine (writeCount_any hT (HFB.out.alloc _) 144 220 M (by decide) (by omega) (by omega) (by simp; omega)).mono ?_; rintro e w1 ⟨rfl, f1, b1, k1⟩; have xb := HBX.out w1 k1; have HF1 := hideIt f1; have HB1 := hideIt (((Below.refl _ _).alloc hBw _).trans b1); have HK1 := hideIt ((Beside.alloc b w _).trans k1); clear f1 b1 k1)
      go_loopw [10, 58] (fun _ i wr => ∃ k : Nat, k ≤ M ∧ i = .int .i64 k ∧ FB 97 B b [] (l ++ (packC 144 220 M ++ packL (packT f) false [] kids k)) wr ∧ Below B w wr ∧ Beside b w wr) (fun _ i _ => M - (intOf i).toNat)
      case atStart => exact ⟨0, Nat.zero_le _, rfl, by rw [packL, List.append_nil]; exact HF1.out, HB1.out, HK1.out⟩
      case round =>
        obtain ⟨k, hk, rfl, hf, hb, hks⟩ := hrel
        have HF := hideIt hf
        have HB := hideIt hb
        have HK := hideIt hks
        have zr := hb.size
        clear hf hb hks
        by_cases hlt : k < M
        · have hlt' : (k : Int) < (M : Int) := by omega
          obtain ⟨bi, rfl, hbi, hc⟩ := HX.out (by omega)
          obtain ⟨tt, xx, hck, htr⟩ := hc k hlt
          have ck := (below_cell HB.out hbi).trans hck
          have HIH := hideIt (IH.out (kidT kids k) (.iface tt xx) _ wr HF.out (TreeAt.keep (fun c hc2 => HB.out.block c hc2) (Nat.le_refl _) htr) (HGK.out k hlt) (by omega) (by have := HLM.out (k + 1) (by omega); rw [packL, if_neg (by decide), List.append_nil, ← List.append_assoc, ← List.append_assoc] at this; rw [← List.append_assoc]; exact this))
          clear hc hck htr
          go_wp2_with fail
          refine HIH.out.mono ?_
          rintro e w2 ⟨rfl, f2, b2, k2⟩
          have HF2 : Hid (FB 97 B b [] (l ++ (packC 144 220 M ++ packL (packT f) false [] kids (k + 1))) w2) := by
            rw [Hid, packL, if_neg (by decide), List.append_nil, ← List.append_assoc (packC 144 220 M), ← List.append_assoc l]; exact f2
          have HB2 := hideIt (HB.out.trans b2)
          have HK2 := hideIt (HK.out.trans k2)
          clear f2 b2 k2
          go_wp2_with fail
          exact ⟨⟨k + 1, by omega, by go_num, HF2.out, HB2.out, HK2.out⟩, by simp [intOf]; omega⟩
        · obtain rfl : k = M := by omega
          go_wp2_with fail
          go_end0
          exact ⟨rfl, HF.out, HB.out, HK.out⟩
    · have HE := hideIt (HLF.out.2.2.2.2.2 rfl)
      rw [HE.out] at hlen ⊢
      obtain ⟨hm0, ai, ci, rfl, hx⟩ := hi
      have HX := hideIt hx
      obtain ⟨_, _, aK, cK, rfl, hkc⟩ := hs
      have HKC := hideIt hkc
      obtain ⟨q1, q2⟩ := g6 rfl
      obtain ⟨M, hM⟩ : ∃ M, kids.length = M := ⟨_, rfl⟩
      rw [hM] at hlen HX g80 gk q1 ⊢
      rw [q1] at HKC q2 ⊢
      have HGK := hideIt gk
      have HMM := hideIt hM
      have HLM : Hid (∀ k, k ≤ M → (l ++ (packC 128 222 M ++ packL (packT f) true keys kids k)).length ≤ 100000000) := fun k hk => by
        have h2 := packL_mono (packT f) true keys kids hk
        simp only [List.length_append] at hlen ⊢
        omega
      have hl2 : l.length ≤ 100000000 := by simp only [List.length_append] at hlen; omega
      have hbl := HFB.out.lt
      clear hx gk hM hlen hkc q1 g6
      have t1 := tw_map_null
      have t2 := tw_map_bool
      have t3 := tw_map_int
      have t4 := tw_map_text
      have t5 := tw_map_list
      have t6 := tw_map_map
      have HBX : Hid (∀ w1, Beside b (w.alloc (.cells #[.slice aK M cK, .slice ai M ci] 119)) w1 → w1.cell? ⟨w.heap.size, 0, none⟩ = some (.slice aK M cK) ∧ w1.cell? ⟨w.heap.size, 1, none⟩ = some (.slice ai M ci)) := fun w1 k1 => by
        have hh : (w.alloc (.cells #[.slice aK M cK, .slice ai M ci] 119)).heap[w.heap.size]? = some (.cells #[.slice aK M cK, .slice ai M ci] 119 (0, 0)) := heap_alloc_new w _
        have := k1.2 w.heap.size (by simp) (by omega) (fun cs z e => by rw [hh] at e; injection e with e; injection e with _ e2; revert e2; decide)
        exact ⟨cellAt (this.trans hh) rfl, cellAt (this.trans hh) rfl⟩
      obtain ⟨W1, hW1⟩ : ∃ W1, w.alloc (.cells #[.slice aK M cK, .slice ai M ci] 119) = W1 := ⟨_, rfl⟩
      have HW1 := hideIt hW1
      have HFW : Hid (FB 97 B b [] l W1) := by rw [Hid, ← hW1]; exact HFB.out.alloc _
      have HBW1 : Hid (Below B w W1) := by rw [Hid, ← hW1]; exact (Below.refl _ _).alloc hBw _
      have HKW1 : Hid (Beside b w W1) := by rw [Hid, ← hW1]; exact Beside.alloc _ _ _
      rw [hW1] at HBX
      clear hW1
      go_enter Tryz.func62, Tryz.ntmps62
      go_wp2_with fail
      rw [HW1.out]
      refine (writeCount_any hT HFW.out 128 222 M (by decide) (by omega) (by omega) (by have := HBW1.out.size; omega)).mono ?_
      rintro e w1 ⟨rfl, f1, b1, k1⟩
      have xb := (HBX.out w1 k1).2
      have HF1 := hideIt f1
      have HB1 := hideIt (HBW1.out.trans b1)
      have HK1 := hideIt k1
      clear f1 b1 k1
      go_wp2_with fail
      go_loopw [12, 13, 77] (fun _ _ i wr => ∃ k : Nat, k ≤ M ∧ i = .int .i64 k ∧ FB 97 B b [] (l ++ (packC 128 222 M ++ packL (packT f) true keys kids k)) wr ∧ Below B w wr ∧ Beside b W1 wr) (fun _ _ i _ => M - (intOf i).toNat)
      case atStart => exact ⟨0, Nat.zero_le _, rfl, by rw [packL, List.append_nil]; exact HF1.out, HB1.out, HK1.out⟩
      case round =>
        obtain ⟨k, hk, rfl, hf, hb, hks⟩ := hrel
        have HF := hideIt hf
        have HB := hideIt hb
        have HK := hideIt hks
        have zr := hb.size
        have y0 := (HBX.out wr hks).1
        clear hf hb hks xb
        by_cases hlt : k < M
        · have hlt' : (k : Int) < (M : Int) := by omega
          obtain ⟨bi, rfl, hbi, hc⟩ := HX.out (by omega)
          obtain ⟨tt, xx, hck, htr⟩ := hc k hlt
          have ck := (below_cell HB.out hbi).trans hck
          obtain ⟨bk, ok, rfl, hbk, hkk⟩ := HKC.out (by omega)
          have kk := (below_cell HB.out hbk).trans (hkk k hlt)
          have HTR := hideIt htr
          have hky := q2 k hlt
          obtain ⟨ky, hk9⟩ : ∃ ky, keyAt keys k = ky := ⟨_, rfl⟩
          have HKY := hideIt hk9
          rw [hk9] at kk hky
          have hlm := HLM.out (k + 1) (by omega)
          have hlm0 := HLM.out k (by omega)
          have HLM1 : Hid ((l ++ (packC 128 222 M ++ packL (packT f) true keys kids k) ++ packW ky ++ packT f (kidT kids k)).length ≤ 100000000) := by
            rw [packL, if_pos rfl, hk9] at hlm
            simp only [Hid, List.length_append] at hlm ⊢
            omega
          clear hc hck htr hkk hk9 hlm
          go_wp2_with (go_at_call 129; refine (writeText_any hT HF.out ky (by omega) hlm0 (by omega)).mono ?_; rintro e w2 ⟨rfl, f2, b2, k2⟩; have HF2 := hideIt f2; have HB2 := hideIt (HB.out.trans b2); have HK2 := hideIt (HK.out.trans k2); have z2 := (HB.out.trans b2).size; clear f2 b2 k2)
          refine (IH.out (kidT kids k) (.iface tt xx) _ w2 HF2.out (TreeAt.keep (fun c hc2 => HB2.out.block c hc2) (Nat.le_refl _) HTR.out) (HGK.out k hlt) (by omega) HLM1.out).mono ?_
          rintro e w3 ⟨rfl, f3, b3, k3⟩
          have HF3 : Hid (FB 97 B b [] (l ++ (packC 128 222 M ++ packL (packT f) true keys kids (k + 1))) w3) := by
            rw [Hid, packL, if_pos rfl, HKY.out, ← List.append_assoc (packC 128 222 M), ← List.append_assoc l, ← List.append_assoc (packC 128 222 M), ← List.append_assoc l]; exact f3
          have HB3 := hideIt (HB2.out.trans b3)
          have HK3 := hideIt (HK2.out.trans k3)
          clear f3 b3 k3
          go_wp2_with fail
          exact ⟨⟨k + 1, by omega, by go_num, HF3.out, HB3.out, HK3.out⟩, by simp [intOf]; omega⟩
        · obtain rfl : k = M := by omega
          go_wp2_with fail
          go_end0
          exact ⟨rfl, HF.out, HB.out, HKW1.out.trans HK.out⟩
end Go.Proofs.YtiamkmkbkehldaaGreatDoor

/-
  The program's cborWriter.write: the bytes of a value.
-/
namespace Go.Proofs.YtiamkmkbkehldaaGreatDoor
open Go.RowKit
set_option linter.unusedSimpArgs false
set_option linter.unusedVariables false

def CwAll (B b f : Nat) : Prop := ∀ (t : VT) (x : Value) (l : List UInt8) (w : World), FB 95 B b [] l w → TreeAt B w f t x → TFit f t → B ≤ w.heap.size → (l ++ cborT f t).length ≤ 100000000 →
  Calls Tryz.prog 61 #[.pointer (some ⟨b, 0, none⟩), x] w fun e w' => e = .returned (.tuple #[]) ∧ FB 95 B b [] (l ++ cborT f t) w' ∧ Below B w w' ∧ Beside b w w'

set_option maxRecDepth 100000 in
set_option maxHeartbeats 6400000 in
theorem cbWrite_any (B b : Nat) (hT : FT 95 0) : ∀ f, CwAll B b f := by
  intro f
  induction f with
  | zero => intro t x l w _ h; exact h.elim
  | succ f ih =>
    intro t x l w hfb h hft hBw hlen
    obtain ⟨kind, n, s, keys, kids⟩ := t
    have HLF := hideIt (cborT_leaf f (kind := kind) (n := n) (s := s) (keys := keys) (kids := kids))
    obtain ⟨g2, g3, g4, g80, g6, gk⟩ := hft
    have HFB := hideIt hfb
    have IH := hideIt ih
    clear hfb ih
    rcases h with ⟨rfl, rfl, rfl, rfl, rfl, rfl⟩ | ⟨rfl, rfl, rfl, rfl, rfl⟩ | ⟨rfl, rfl, rfl, rfl, rfl⟩ | ⟨rfl, rfl, rfl, rfl, rfl⟩ | ⟨rfl, rfl, rfl, rfl, it, rfl, hi⟩ | ⟨rfl, rfl, rfl, ks, it, rfl, hs, hi⟩
    · have HE := hideIt (HLF.out.1 rfl)
      rw [HE.out] at hlen ⊢
      have hl2 : l.length + 1 ≤ 100000000 := by simpa using hlen
      have t1 := tw_null_null
      go_enter Tryz.func61, Tryz.ntmps61
      go_wp2_with (go_at_call 38; refine (fb_byte hT (HFB.out.alloc _) 246 (by omega) (by simp; omega)).mono ?_; rintro e w1 ⟨rfl, f1, b1, k1⟩)
      go_end0
      exact ⟨rfl, f1, ((Below.refl _ _).alloc hBw _).trans b1, (Beside.alloc _ _ _).trans k1⟩
    · have HE := hideIt (HLF.out.2.1 rfl)
      rw [HE.out] at hlen ⊢
      have hl2 : l.length + 1 ≤ 100000000 := by simpa using hlen
      have hn := g2 rfl
      have t1 := tw_bool_null
      have t2 := tw_bool_bool
      have hn01 : n = 0 ∨ n = 1 := by omega
      have hBa : ∀ o, B ≤ (w.alloc o).drew.heap.size := fun o => by simp; omega
      rcases hn01 with rfl | rfl
      · go_enter Tryz.func61, Tryz.ntmps61
        go_wp2_with fail
        go_region_law (refine step_call2 (by rfl) 38 _ _ _ _ (by rfl) (.pointer (some ⟨b, 0, none⟩)) (.int .u8 244) (by rfl) (by rfl) (call_wbyte _ _) (fb_byte hT (HFB.out.alloc _).drew 244 (by omega) (hBa _)) ?_; rintro e w1 ⟨rfl, f1, b1, k1⟩; refine ⟨_, rfl, ?_⟩)
        all_goals (
          go_wp2_with fail
          go_end0
          exact ⟨rfl, f1, (((Below.refl _ _).alloc hBw _).drew).trans b1, (Beside.alloc _ _ _).trans k1⟩)
      · go_enter Tryz.func61, Tryz.ntmps61
        go_wp2_with fail
        go_region_law (refine step_call2 (by rfl) 38 _ _ _ _ (by rfl) (.pointer (some ⟨b, 0, none⟩)) (.int .u8 245) (by rfl) (by rfl) (call_wbyte _ _) (fb_byte hT (HFB.out.alloc _).drew 245 (by omega) (hBa _)) ?_; rintro e w1 ⟨rfl, f1, b1, k1⟩; refine ⟨_, rfl, ?_⟩)
        all_goals (
          go_wp2_with fail
          go_end0
          exact ⟨rfl, f1, (((Below.refl _ _).alloc hBw _).drew).trans b1, (Beside.alloc _ _ _).trans k1⟩)
    · have HE := hideIt (HLF.out.2.2.1 rfl)
      rw [HE.out] at hlen ⊢
      have hl2 : l.length + (cborN n).length ≤ 100000000 := by simpa using hlen
      have hn := g3 rfl
      have t1 := tw_int_null
      have t2 := tw_int_bool
      have t3 := tw_int_int
      go_enter Tryz.func61, Tryz.ntmps61
      go_wp2_with (go_at_call 123; refine (cbNumber_any hT (HFB.out.alloc _) n hn.1 hn.2 (by omega) (by simp; omega)).mono ?_; rintro e w1 ⟨rfl, f1, b1, k1⟩)
      go_end0
      exact ⟨rfl, f1, ((Below.refl _ _).alloc hBw _).trans b1, (Beside.alloc _ _ _).trans k1⟩
    · have HE := hideIt (HLF.out.2.2.2.1 rfl)
      rw [HE.out] at hlen ⊢
      have hl2 : l.length + (cborW s).length ≤ 100000000 := by simpa using hlen
      have hn := g4 rfl
      have t1 := tw_text_null
      have t2 := tw_text_bool
      have t3 := tw_text_int
      have t4 := tw_text_text
      go_enter Tryz.func61, Tryz.ntmps61
      go_wp2_with (go_at_call 124; refine (cbText_any hT (HFB.out.alloc _) s (by omega) (by omega) (by simp; omega)).mono ?_; rintro e w1 ⟨rfl, f1, b1, k1⟩)
      go_end0
      exact ⟨rfl, f1, ((Below.refl _ _).alloc hBw _).trans b1, (Beside.alloc _ _ _).trans k1⟩
    · have HE := hideIt (HLF.out.2.2.2.2.1 rfl)
      rw [HE.out] at hlen ⊢
      obtain ⟨hm0, ai, ci, rfl, hx⟩ := hi
      have HX := hideIt hx
      obtain ⟨M, hM⟩ : ∃ M, kids.length = M := ⟨_, rfl⟩
      rw [hM] at hlen HX g80 gk ⊢
      have HGK := hideIt gk
      have HMM := hideIt hM
      have HLM : Hid (∀ k, k ≤ M → (l ++ (headC 4 M ++ cborL (cborT f) kids k)).length ≤ 100000000) := fun k hk => by
        have h2 := cborL_mono (cborT f) kids hk
        simp only [List.length_append] at hlen ⊢
        omega
      have hl2 : l.length ≤ 100000000 := by simp only [List.length_append] at hlen; omega
      have hbl := HFB.out.lt
      clear hx gk hM hlen
      have t1 := tw_list_null
      have t2 := tw_list_bool
      have t3 := tw_list_int
      have t4 := tw_list_text
      have t5 := tw_list_list
      have HBX : Hid (∀ w1, Beside b (w.alloc (.cells #[.slice ai M ci] 174)) w1 → w1.cell? ⟨w.heap.size, 0, none⟩ = some (.slice ai M ci)) := fun w1 k1 => by
        have hh : (w.alloc (.cells #[.slice ai M ci] 174)).heap[w.heap.size]? = some (.cells #[.slice ai M ci] 174 (0, 0)) := heap_alloc_new w _
        have := k1.2 w.heap.size (by simp) (by omega) (fun cs z e => by rw [hh] at e; injection e with e; injection e with _ e2; revert e2; decide)
        exact cellAt (this.trans hh) rfl
      go_enter Tryz.func61, Tryz.ntmps61
      go_wp2_with (go_at_call 125; refine (writeHead_any hT (HFB.out.alloc _) 4 (M : Int) (by omega) (by omega) (by omega) (by omega) (by simp; omega)).mono ?_; rintro e w1 ⟨rfl, f1, b1, k1⟩; have xb := HBX.out w1 k1; have HF1 := hideIt f1; have HB1 := hideIt (((Below.refl _ _).alloc hBw _).trans b1); have HK1 := hideIt ((Beside.alloc b w _).trans k1); clear f1 b1 k1)
      go_loopw [10, 58] (fun _ i wr => ∃ k : Nat, k ≤ M ∧ i = .int .i64 k ∧ FB 95 B b [] (l ++ (headC 4 M ++ cborL (cborT f) kids k)) wr ∧ Below B w wr ∧ Beside b w wr) (fun _ i _ => M - (intOf i).toNat)
      case atStart => exact ⟨0, Nat.zero_le _, rfl, by rw [cborL, List.append_nil]; exact HF1.out, HB1.out, HK1.out⟩
      case round =>
        obtain ⟨k, hk, rfl, hf, hb, hks⟩ := hrel
        have HF := hideIt hf
        have HB := hideIt hb
        have HK := hideIt hks
        have zr := hb.size
        clear hf hb hks
        by_cases hlt : k < M
        · have hlt' : (k : Int) < (M : Int) := by omega
          obtain ⟨bi, rfl, hbi, hc⟩ := HX.out (by omega)
          obtain ⟨tt, xx, hck, htr⟩ := hc k hlt
          have ck := (below_cell HB.out hbi).trans hck
          have HIH := hideIt (IH.out (kidT kids k) (.iface tt xx) _ wr HF.out (TreeAt.keep (fun c hc2 => HB.out.block c hc2) (Nat.le_refl _) htr) (HGK.out k hlt) (by omega) (by have := HLM.out (k + 1) (by omega); rw [cborL, ← List.append_assoc, ← List.append_assoc] at this; rw [← List.append_assoc]; exact this))
          clear hc hck htr
          go_wp2_with fail
          refine HIH.out.mono ?_
          rintro e w2 ⟨rfl, f2, b2, k2⟩
          have HF2 : Hid (FB 95 B b [] (l ++ (headC 4 M ++ cborL (cborT f) kids (k + 1))) w2) := by
            rw [Hid, cborL, ← List.append_assoc (headC 4 M), ← List.append_assoc l]; exact f2
          have HB2 := hideIt (HB.out.trans b2)
          have HK2 := hideIt (HK.out.trans k2)
          clear f2 b2 k2
          go_wp2_with fail
          exact ⟨⟨k + 1, by omega, by go_num, HF2.out, HB2.out, HK2.out⟩, by simp [intOf]; omega⟩
        · obtain rfl : k = M := by omega
          go_wp2_with fail
          go_end0
          exact ⟨rfl, HF.out, HB.out, HK.out⟩
    · have HE := hideIt (HLF.out.2.2.2.2.2 rfl)
      rw [HE.out] at hlen ⊢
      obtain ⟨hm0, ai, ci, rfl, hx⟩ := hi
      have HX := hideIt hx
      have HSK := hideIt hs
      obtain ⟨_, _, aK, cK, rfl, hkc⟩ := hs
      have HKC := hideIt hkc
      obtain ⟨q1, q2⟩ := g6 rfl
      obtain ⟨M, hM⟩ : ∃ M, kids.length = M := ⟨_, rfl⟩
      have HPL : Hid (∀ f', Blk (RL keys) (fun p => (p : Int)) f' 0 M → ∀ j, j < M → ∃ p : Nat, f' j = p ∧ p < M ∧ (byLen keys M 61)[j]? = some p) := fun f' hf j hj => by
        have := place_at (l := keys) (S := 61) (f := f') (fun p hp => by have := q2 p hp; omega) (by rw [q1, hM]; exact hf) (j := j) (by omega)
        rw [q1, hM] at this
        exact this
      have HLN : Hid ((byLen keys M 61).length = M) := by
        have := (byLen_perm (l := keys) (M := M) (S := 61) (fun p hp => by have := q2 p (by omega); omega)).length_eq
        rw [List.length_range] at this
        exact this
      rw [hM] at hlen HX g80 gk q1 ⊢
      have HSP := hideIt (fun (w : World) (h : StrsAt B w (.slice aK keys.length cK) keys) (hB : B ≤ w.heap.size) => sortedPlacesL_any B (.slice aK keys.length cK) keys w h hB (by omega))
      rw [q1] at HKC q2 HSP HSK ⊢
      have HGK := hideIt gk
      have HMM := hideIt hM
      obtain ⟨PS, hPS⟩ : ∃ PS, byLen keys M 61 = PS := ⟨_, rfl⟩
      rw [hPS] at hlen HPL HLN ⊢
      have HLM : Hid (∀ k, k ≤ M → (l ++ (headC 5 M ++ entC (cborT f) keys kids (PS.take k))).length ≤ 100000000) := fun k hk => by
        have h2 := entC_take (cborT f) keys kids PS k
        simp only [List.length_append] at hlen ⊢
        omega
      have hl2 : l.length ≤ 100000000 := by simp only [List.length_append] at hlen; omega
      have hbl := HFB.out.lt
      clear hx gk hM hlen hkc q1 g6 hPS
      have t1 := tw_map_null
      have t2 := tw_map_bool
      have t3 := tw_map_int
      have t4 := tw_map_text
      have t5 := tw_map_list
      have t6 := tw_map_map
      have HBX : Hid (∀ w1, Beside b (w.alloc (.cells #[.slice aK M cK, .slice ai M ci] 119)) w1 → w1.cell? ⟨w.heap.size, 0, none⟩ = some (.slice aK M cK) ∧ w1.cell? ⟨w.heap.size, 1, none⟩ = some (.slice ai M ci)) := fun w1 k1 => by
        have hh : (w.alloc (.cells #[.slice aK M cK, .slice ai M ci] 119)).heap[w.heap.size]? = some (.cells #[.slice aK M cK, .slice ai M ci] 119 (0, 0)) := heap_alloc_new w _
        have := k1.2 w.heap.size (by simp) (by omega) (fun cs z e => by rw [hh] at e; injection e with e; injection e with _ e2; revert e2; decide)
        exact ⟨cellAt (this.trans hh) rfl, cellAt (this.trans hh) rfl⟩
      obtain ⟨W1, hW1⟩ : ∃ W1, w.alloc (.cells #[.slice aK M cK, .slice ai M ci] 119) = W1 := ⟨_, rfl⟩
      have HW1 := hideIt hW1
      have HFW : Hid (FB 95 B b [] l W1) := by rw [Hid, ← hW1]; exact HFB.out.alloc _
      have HBW1 : Hid (Below B w W1) := by rw [Hid, ← hW1]; exact (Below.refl _ _).alloc hBw _
      have HKW1 : Hid (Beside b w W1) := by rw [Hid, ← hW1]; exact Beside.alloc _ _ _
      rw [hW1] at HBX
      clear hW1
      go_enter Tryz.func61, Tryz.ntmps61
      go_wp2_with fail
      rw [HW1.out]
      refine (writeHead_any hT HFW.out 5 (M : Int) (by omega) (by omega) (by omega) (by omega) (by have := HBW1.out.size; omega)).mono ?_
      rintro e w1 ⟨rfl, f1, b1, k1⟩
      have xb := (HBX.out w1 k1).1
      have HF1 := hideIt f1
      have HB1 := hideIt (HBW1.out.trans b1)
      have HK1 := hideIt k1
      have z1 := (HBW1.out.trans b1).size
      clear f1 b1 k1
      go_wp2_with (go_at_call 126; refine (HSP.out w1 (HSK.out.below HB1.out) (by omega)).mono ?_; rintro e w2 ⟨g, f', rfl, hgg, hrw, hbk, hb2⟩; have HRW := hideIt hrw; have HBK := hideIt hbk; have HB2 := hideIt hb2; have z2 := hb2.size; clear hrw hbk hb2)
      have HBOX : Hid (∀ wr, Beside b w2 wr → wr.cell? ⟨w.heap.size, 0, none⟩ = some (.slice aK M cK) ∧ wr.cell? ⟨w.heap.size, 1, none⟩ = some (.slice ai M ci)) := fun wr h => HBX.out wr ((HK1.out.trans (Beside.below HB2.out)).trans h)
      have HPC : Hid (∀ wr, Beside b w2 wr → ∀ j, j < M → wr.cell? ⟨g, j, none⟩ = some (.int .i64 (f' j))) := fun wr h j hj => by
        obtain ⟨c, hc1, hc2, hc3⟩ := HRW.out
        have := h.2 g (lt_heap hc1) (by omega) (fun cs z e => by rw [hc1] at e; injection e with e; injection e with _ e2; revert e2; decide)
        exact cellAt (this.trans hc1) (hc3 j hj)
      have HF2' := hideIt (HF1.out.keep HB2.out)
      have HBA := hideIt (HB1.out.trans (HB2.out.mono (by omega)))
      clear xb
      go_loopw [13, 78] (fun _ i wr => ∃ k : Nat, k ≤ M ∧ i = .int .i64 k ∧ FB 95 B b [] (l ++ (headC 5 M ++ entC (cborT f) keys kids (PS.take k))) wr ∧ Below B w wr ∧ Beside b w2 wr) (fun _ i _ => M - (intOf i).toNat)
      case atStart => exact ⟨0, Nat.zero_le _, rfl, by rw [List.take_zero, entC, List.flatMap_nil, List.append_nil]; exact HF2'.out, HBA.out, Beside.refl _ _⟩
      case round =>
        obtain ⟨k, hk, rfl, hf, hb, hks⟩ := hrel
        have HF := hideIt hf
        have HB := hideIt hb
        have HK := hideIt hks
        have zr := hb.size
        have y0 := (HBOX.out wr hks).1
        clear hf hb hks
        by_cases hlt : k < M
        · have hlt' : (k : Int) < (M : Int) := by omega
          obtain ⟨p, hp1, hp2, hp3⟩ := HPL.out f' HBK.out k hlt
          have pk := HPC.out wr HK.out k hlt
          rw [hp1] at pk
          have hp2' : (p : Int) < (M : Int) := by omega
          have HTK : Hid (PS.take (k + 1) = PS.take k ++ [p]) := by rw [Hid, List.take_add_one, hp3]; rfl
          clear hp1 hp3
          obtain ⟨bi, rfl, hbi, hc⟩ := HX.out (by omega)
          obtain ⟨tt, xx, hck, htr⟩ := hc p hp2
          have CKP := hideIt hck
          obtain ⟨bk, ok, rfl, hbk, hkk⟩ := HKC.out (by omega)
          have kk := (below_cell HB.out hbk).trans (hkk p hp2)
          have HTR := hideIt htr
          have hky := q2 p hp2
          obtain ⟨ky, hk9⟩ : ∃ ky, keyAt keys p = ky := ⟨_, rfl⟩
          have HKY := hideIt hk9
          rw [hk9] at kk hky
          have hlm := HLM.out (k + 1) (by omega)
          have hlm0 := HLM.out k (by omega)
          have HLM1 : Hid ((l ++ (headC 5 M ++ entC (cborT f) keys kids (PS.take k)) ++ cborW ky ++ cborT f (kidT kids p)).length ≤ 100000000) := by
            rw [HTK.out, entC_app, entC_one, hk9] at hlm
            simp only [Hid, List.length_append] at hlm ⊢
            omega
          clear hc hck htr hkk hk9 hlm
          go_wp2_with (go_at_call 124; refine (cbText_any hT HF.out ky (by omega) hlm0 (by omega)).mono ?_; rintro e w4 ⟨rfl, f2, b2, k2⟩; have HF2 := hideIt f2; have HB4 := hideIt (HB.out.trans b2); have HK2 := hideIt (HK.out.trans k2); have z4 := (HB.out.trans b2).size; have y1 := (HBOX.out w4 (HK.out.trans k2)).2; have ck := (below_cell HB4.out hbi).trans CKP.out; clear f2 b2 k2)
          refine (IH.out (kidT kids p) (.iface tt xx) _ w4 HF2.out (TreeAt.keep (fun c hc2 => HB4.out.block c hc2) (Nat.le_refl _) HTR.out) (HGK.out p hp2) (by omega) HLM1.out).mono ?_
          rintro e w3 ⟨rfl, f3, b3, k3⟩
          have HF3 : Hid (FB 95 B b [] (l ++ (headC 5 M ++ entC (cborT f) keys kids (PS.take (k + 1)))) w3) := by
            rw [Hid, HTK.out, entC_app, entC_one, HKY.out, ← List.append_assoc (headC 5 M), ← List.append_assoc (headC 5 M ++ _), ← List.append_assoc l, ← List.append_assoc l]; exact f3
          have HB3 := hideIt (HB4.out.trans b3)
          have HK3 := hideIt (HK2.out.trans k3)
          clear f3 b3 k3
          go_wp2_with fail
          exact ⟨⟨k + 1, by omega, by go_num, HF3.out, HB3.out, HK3.out⟩, by simp [intOf]; omega⟩
        · obtain rfl : k = M := by omega
          go_wp2_with fail
          go_end0
          refine ⟨rfl, ?_, HB.out, ((HKW1.out.trans HK1.out).trans (Beside.below HB2.out)).trans HK.out⟩
          have := HF.out
          rw [List.take_of_length_le (by rw [HLN.out]; omega)] at this
          exact this
end Go.Proofs.YtiamkmkbkehldaaGreatDoor
