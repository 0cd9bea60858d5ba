/-
  The program's packWriter.write: the bytes of a value.
-/
import Derived.Test.YtnnofahlmlikcaaIPk
import Derived.Test.YtnnofahlmlikcaaPartOk
import Derived.Test.YtnnofahlmlikcaaTw
import Derived.Test.YtnnofahlmlikcaaStepN
namespace Go.Proofs.Ytnnofahlmlikcaa
open Go.RowKit
set_option linter.unusedSimpArgs false
set_option linter.unusedVariables false

/-- Numbers, texts and keys of a tree within their bounds. -/
def TFit : Nat → VT → Prop
  | 0, _ => True
  | f + 1, .mk kind n s keys kids => (kind = 2 → 0 ≤ n ∧ n ≤ 1) ∧ (kind = 3 → -1000000000000000 ≤ n ∧ n ≤ 1000000000000000) ∧ (kind = 4 → s.size ≤ 60) ∧ kids.length ≤ 80 ∧ (kind = 6 → keys.length = kids.length ∧ ∀ j, j < keys.length → (keyAt keys j).size ≤ 60) ∧ ∀ j, j < kids.length → TFit f (kidT kids j)
theorem tfit_of {vs : List VN} (hok : okB vs = true) : ∀ (f i : Nat), i < vs.length → TFit f (treeOf vs f i) := by
  intro f
  induction f with
  | zero => intro i _; trivial
  | succ f ih =>
    intro i hi
    rw [treeOf]
    have hs := node_says hok hi
    have hk := (keys_few hok i hi)
    refine ⟨fun k => ?_, fun k => ?_, fun k => ?_, by rw [List.length_map]; exact hk.2.1, fun k => ?_, fun j hj => ?_⟩
    · rcases hs with h | ⟨h, a, b⟩ | ⟨h, a, b⟩ | ⟨h, a⟩ | h | ⟨h, a, b⟩ <;> first | exact ⟨a, b⟩ | omega
    · rcases hs with h | ⟨h, a, b⟩ | ⟨h, a, b⟩ | ⟨h, a⟩ | h | ⟨h, a, b⟩ <;> first | omega | exact ⟨a, b⟩
    · rcases hs with h | ⟨h, a, b⟩ | ⟨h, a, b⟩ | ⟨h, a⟩ | h | ⟨h, a, b⟩ <;> first | omega | exact a
    · rcases hs with h | ⟨h, a, b⟩ | ⟨h, a, b⟩ | ⟨h, a⟩ | h | ⟨h, a, b⟩ <;> first | omega | exact ⟨by rw [List.length_map]; exact a, b⟩
    · rw [List.length_map] at hj
      rw [kidT_map hj]
      obtain ⟨_, p2, _, _⟩ := okB_parts hok
      have hki := kidsIn_get (p2 i hi).2 hj
      exact ih _ (by omega)

def PwAll (B b f : Nat) : Prop := ∀ (t : VT) (x : Value) (l : List UInt8) (w : World), FB 50 B b [] l w → TreeAt B w f t x → TFit f t → B ≤ w.heap.size → (l ++ packT f t).length ≤ 100000000 →
  Calls Try.prog 21 #[.pointer (some ⟨b, 0, none⟩), x] w fun e w' => e = .returned (.tuple #[]) ∧ FB 50 B b [] (l ++ packT f t) w' ∧ Below B w w' ∧ Beside b w w'
theorem call_wbyte (u v : Value) : ∀ w, (callFunc 32 #[u, v]).run Try.prog w = .ok (.enter 32 #[u, v]) w := fun w => by kernel_rfl
theorem end_tuple (e : Ending) (h : e = .returned (.tuple #[])) : e = .returned (.tuple #[]) := h

set_option maxRecDepth 100000 in
set_option maxHeartbeats 6400000 in
theorem write_any (B b : Nat) (hT : FT 50 0) : ∀ f, PwAll B b f := by
  intro f
  induction f with
  | zero => intro t x l w _ h; exact h.elim
  | succ f ih =>
    intro t x l w hfb h hft hBw hlen
    obtain ⟨kind, n, s, keys, kids⟩ := t
    have HLF := hideIt (packT_leaf f (kind := kind) (n := n) (s := s) (keys := keys) (kids := kids))
    obtain ⟨g2, g3, g4, g80, g6, gk⟩ := hft
    have HFB := hideIt hfb
    have IH := hideIt ih
    clear hfb ih
    rcases h with ⟨rfl, rfl, rfl, rfl, rfl, rfl⟩ | ⟨rfl, rfl, rfl, rfl, rfl⟩ | ⟨rfl, rfl, rfl, rfl, rfl⟩ | ⟨rfl, rfl, rfl, rfl, rfl⟩ | ⟨rfl, rfl, rfl, rfl, it, rfl, hi⟩ | ⟨rfl, rfl, rfl, ks, it, rfl, hs, hi⟩
    · have HE := hideIt (HLF.out.1 rfl)
      rw [HE.out] at hlen ⊢
      have hl2 : l.length + 1 ≤ 100000000 := by simpa using hlen
      have t1 := tw_null_null
      go_enter Try.func21, Try.ntmps21
      go_wp2_with (go_at_call 32; refine (fb_byte hT (HFB.out.alloc _) 192 (by omega) (by simp; omega)).mono ?_; rintro e w1 ⟨rfl, f1, b1, k1⟩)
      go_end0
      exact ⟨rfl, f1, ((Below.refl _ _).alloc hBw _).trans b1, (Beside.alloc _ _ _).trans k1⟩
    · have HE := hideIt (HLF.out.2.1 rfl)
      rw [HE.out] at hlen ⊢
      have hl2 : l.length + 1 ≤ 100000000 := by simpa using hlen
      have hn := g2 rfl
      have t1 := tw_bool_null
      have t2 := tw_bool_bool
      have hn01 : n = 0 ∨ n = 1 := by omega
      have hBa : ∀ o, B ≤ (w.alloc o).drew.heap.size := fun o => by simp; omega
      rcases hn01 with rfl | rfl
      · go_enter Try.func21, Try.ntmps21
        go_wp2_with fail
        go_region_law (refine step_call2 (by rfl) 32 _ _ _ _ (by rfl) (.pointer (some ⟨b, 0, none⟩)) (.int .u8 194) (by rfl) (by rfl) (call_wbyte _ _) (fb_byte hT (HFB.out.alloc _).drew 194 (by omega) (hBa _)) ?_; rintro e w1 ⟨rfl, f1, b1, k1⟩; refine ⟨_, rfl, ?_⟩)
        all_goals (
          go_wp2_with fail
          go_end0
          exact ⟨rfl, f1, (((Below.refl _ _).alloc hBw _).drew).trans b1, (Beside.alloc _ _ _).trans k1⟩)
      · go_enter Try.func21, Try.ntmps21
        go_wp2_with fail
        go_region_law (refine step_call2 (by rfl) 32 _ _ _ _ (by rfl) (.pointer (some ⟨b, 0, none⟩)) (.int .u8 195) (by rfl) (by rfl) (call_wbyte _ _) (fb_byte hT (HFB.out.alloc _).drew 195 (by omega) (hBa _)) ?_; rintro e w1 ⟨rfl, f1, b1, k1⟩; refine ⟨_, rfl, ?_⟩)
        all_goals (
          go_wp2_with fail
          go_end0
          exact ⟨rfl, f1, (((Below.refl _ _).alloc hBw _).drew).trans b1, (Beside.alloc _ _ _).trans k1⟩)
    · have HE := hideIt (HLF.out.2.2.1 rfl)
      rw [HE.out] at hlen ⊢
      have hl2 : l.length + (packI n).length ≤ 100000000 := by simpa using hlen
      have hn := g3 rfl
      have t1 := tw_int_null
      have t2 := tw_int_bool
      have t3 := tw_int_int
      go_enter Try.func21, Try.ntmps21
      go_wp2_with (go_at_call 41; refine (writeNumber_any hT (HFB.out.alloc _) n hn.1 hn.2 (by omega) (by simp; omega)).mono ?_; rintro e w1 ⟨rfl, f1, b1, k1⟩)
      go_end0
      exact ⟨rfl, f1, ((Below.refl _ _).alloc hBw _).trans b1, (Beside.alloc _ _ _).trans k1⟩
    · have HE := hideIt (HLF.out.2.2.2.1 rfl)
      rw [HE.out] at hlen ⊢
      have hl2 : l.length + (packW s).length ≤ 100000000 := by simpa using hlen
      have hn := g4 rfl
      have t1 := tw_text_null
      have t2 := tw_text_bool
      have t3 := tw_text_int
      have t4 := tw_text_text
      go_enter Try.func21, Try.ntmps21
      go_wp2_with (go_at_call 42; refine (writeText_any hT (HFB.out.alloc _) s (by omega) (by omega) (by simp; omega)).mono ?_; rintro e w1 ⟨rfl, f1, b1, k1⟩)
      go_end0
      exact ⟨rfl, f1, ((Below.refl _ _).alloc hBw _).trans b1, (Beside.alloc _ _ _).trans k1⟩
    · have HE := hideIt (HLF.out.2.2.2.2.1 rfl)
      rw [HE.out] at hlen ⊢
      obtain ⟨hm0, ai, ci, rfl, hx⟩ := hi
      have HX := hideIt hx
      obtain ⟨M, hM⟩ : ∃ M, kids.length = M := ⟨_, rfl⟩
      rw [hM] at hlen HX g80 gk ⊢
      have HGK := hideIt gk
      have HMM := hideIt hM
      have HLM : Hid (∀ k, k ≤ M → (l ++ (packC 144 220 M ++ packL (packT f) false [] kids k)).length ≤ 100000000) := fun k hk => by
        have h2 := packL_mono (packT f) false [] kids hk
        simp only [List.length_append] at hlen ⊢
        omega
      have hl2 : l.length ≤ 100000000 := by simp only [List.length_append] at hlen; omega
      have hbl := HFB.out.lt
      clear hx gk hM hlen
      have t1 := tw_list_null
      have t2 := tw_list_bool
      have t3 := tw_list_int
      have t4 := tw_list_text
      have t5 := tw_list_list
      have HBX : Hid (∀ w1, Beside b (w.alloc (.cells #[.slice ai M ci] 76)) w1 → w1.cell? ⟨w.heap.size, 0, none⟩ = some (.slice ai M ci)) := fun w1 k1 => by
        have hh : (w.alloc (.cells #[.slice ai M ci] 76)).heap[w.heap.size]? = some (.cells #[.slice ai M ci] 76 (0, 0)) := heap_alloc_new w _
        have := k1.2 w.heap.size (by simp) (by omega) (fun cs z e => by rw [hh] at e; injection e with e; injection e with _ e2; revert e2; decide)
        exact cellAt (this.trans hh) rfl
      go_enter Try.func21, Try.ntmps21
      go_wp2_with (go_at_call 43; refine (writeCount_any hT (HFB.out.alloc _) 144 220 M (by decide) (by omega) (by omega) (by simp; omega)).mono ?_; rintro e w1 ⟨rfl, f1, b1, k1⟩; have xb := HBX.out w1 k1; have HF1 := hideIt f1; have HB1 := hideIt (((Below.refl _ _).alloc hBw _).trans b1); have HK1 := hideIt ((Beside.alloc b w _).trans k1); clear f1 b1 k1)
      go_loopw [10, 58] (fun _ i wr => ∃ k : Nat, k ≤ M ∧ i = .int .i64 k ∧ FB 50 B b [] (l ++ (packC 144 220 M ++ packL (packT f) false [] kids k)) wr ∧ Below B w wr ∧ Beside b w wr) (fun _ i _ => M - (intOf i).toNat)
      case atStart => exact ⟨0, Nat.zero_le _, rfl, by rw [packL, List.append_nil]; exact HF1.out, HB1.out, HK1.out⟩
      case round =>
        obtain ⟨k, hk, rfl, hf, hb, hks⟩ := hrel
        have HF := hideIt hf
        have HB := hideIt hb
        have HK := hideIt hks
        have zr := hb.size
        clear hf hb hks
        by_cases hlt : k < M
        · have hlt' : (k : Int) < (M : Int) := by omega
          obtain ⟨bi, rfl, hbi, hc⟩ := HX.out (by omega)
          obtain ⟨tt, xx, hck, htr⟩ := hc k hlt
          have ck := (below_cell HB.out hbi).trans hck
          have HIH := hideIt (IH.out (kidT kids k) (.iface tt xx) _ wr HF.out (TreeAt.keep (fun c hc2 => HB.out.block c hc2) (Nat.le_refl _) htr) (HGK.out k hlt) (by omega) (by have := HLM.out (k + 1) (by omega); rw [packL, if_neg (by decide), List.append_nil, ← List.append_assoc, ← List.append_assoc] at this; rw [← List.append_assoc]; exact this))
          clear hc hck htr
          go_wp2_with fail
          refine HIH.out.mono ?_
          rintro e w2 ⟨rfl, f2, b2, k2⟩
          have HF2 : Hid (FB 50 B b [] (l ++ (packC 144 220 M ++ packL (packT f) false [] kids (k + 1))) w2) := by
            rw [Hid, packL, if_neg (by decide), List.append_nil, ← List.append_assoc (packC 144 220 M), ← List.append_assoc l]; exact f2
          have HB2 := hideIt (HB.out.trans b2)
          have HK2 := hideIt (HK.out.trans k2)
          clear f2 b2 k2
          go_wp2_with fail
          exact ⟨⟨k + 1, by omega, by go_num, HF2.out, HB2.out, HK2.out⟩, by simp [intOf]; omega⟩
        · obtain rfl : k = M := by omega
          go_wp2_with fail
          go_end0
          exact ⟨rfl, HF.out, HB.out, HK.out⟩
    · have HE := hideIt (HLF.out.2.2.2.2.2 rfl)
      rw [HE.out] at hlen ⊢
      obtain ⟨hm0, ai, ci, rfl, hx⟩ := hi
      have HX := hideIt hx
      obtain ⟨_, _, aK, cK, rfl, hkc⟩ := hs
      have HKC := hideIt hkc
      obtain ⟨q1, q2⟩ := g6 rfl
      obtain ⟨M, hM⟩ : ∃ M, kids.length = M := ⟨_, rfl⟩
      rw [hM] at hlen HX g80 gk q1 ⊢
      rw [q1] at HKC q2 ⊢
      have HGK := hideIt gk
      have HMM := hideIt hM
      have HLM : Hid (∀ k, k ≤ M → (l ++ (packC 128 222 M ++ packL (packT f) true keys kids k)).length ≤ 100000000) := fun k hk => by
        have h2 := packL_mono (packT f) true keys kids hk
        simp only [List.length_append] at hlen ⊢
        omega
      have hl2 : l.length ≤ 100000000 := by simp only [List.length_append] at hlen; omega
      have hbl := HFB.out.lt
      clear hx gk hM hlen hkc q1 g6
      have t1 := tw_map_null
      have t2 := tw_map_bool
      have t3 := tw_map_int
      have t4 := tw_map_text
      have t5 := tw_map_list
      have t6 := tw_map_map
      have HBX : Hid (∀ w1, Beside b (w.alloc (.cells #[.slice aK M cK, .slice ai M ci] 79)) w1 → w1.cell? ⟨w.heap.size, 0, none⟩ = some (.slice aK M cK) ∧ w1.cell? ⟨w.heap.size, 1, none⟩ = some (.slice ai M ci)) := fun w1 k1 => by
        have hh : (w.alloc (.cells #[.slice aK M cK, .slice ai M ci] 79)).heap[w.heap.size]? = some (.cells #[.slice aK M cK, .slice ai M ci] 79 (0, 0)) := heap_alloc_new w _
        have := k1.2 w.heap.size (by simp) (by omega) (fun cs z e => by rw [hh] at e; injection e with e; injection e with _ e2; revert e2; decide)
        exact ⟨cellAt (this.trans hh) rfl, cellAt (this.trans hh) rfl⟩
      obtain ⟨W1, hW1⟩ : ∃ W1, w.alloc (.cells #[.slice aK M cK, .slice ai M ci] 79) = W1 := ⟨_, rfl⟩
      have HW1 := hideIt hW1
      have HFW : Hid (FB 50 B b [] l W1) := by rw [Hid, ← hW1]; exact HFB.out.alloc _
      have HBW1 : Hid (Below B w W1) := by rw [Hid, ← hW1]; exact (Below.refl _ _).alloc hBw _
      have HKW1 : Hid (Beside b w W1) := by rw [Hid, ← hW1]; exact Beside.alloc _ _ _
      rw [hW1] at HBX
      clear hW1
      go_enter Try.func21, Try.ntmps21
      go_wp2_with fail
      rw [HW1.out]
      refine (writeCount_any hT HFW.out 128 222 M (by decide) (by omega) (by omega) (by have := HBW1.out.size; omega)).mono ?_
      rintro e w1 ⟨rfl, f1, b1, k1⟩
      have xb := (HBX.out w1 k1).2
      have HF1 := hideIt f1
      have HB1 := hideIt (HBW1.out.trans b1)
      have HK1 := hideIt k1
      clear f1 b1 k1
      go_wp2_with fail
      go_loopw [12, 13, 77] (fun _ _ i wr => ∃ k : Nat, k ≤ M ∧ i = .int .i64 k ∧ FB 50 B b [] (l ++ (packC 128 222 M ++ packL (packT f) true keys kids k)) wr ∧ Below B w wr ∧ Beside b W1 wr) (fun _ _ i _ => M - (intOf i).toNat)
      case atStart => exact ⟨0, Nat.zero_le _, rfl, by rw [packL, List.append_nil]; exact HF1.out, HB1.out, HK1.out⟩
      case round =>
        obtain ⟨k, hk, rfl, hf, hb, hks⟩ := hrel
        have HF := hideIt hf
        have HB := hideIt hb
        have HK := hideIt hks
        have zr := hb.size
        have y0 := (HBX.out wr hks).1
        clear hf hb hks xb
        by_cases hlt : k < M
        · have hlt' : (k : Int) < (M : Int) := by omega
          obtain ⟨bi, rfl, hbi, hc⟩ := HX.out (by omega)
          obtain ⟨tt, xx, hck, htr⟩ := hc k hlt
          have ck := (below_cell HB.out hbi).trans hck
          obtain ⟨bk, ok, rfl, hbk, hkk⟩ := HKC.out (by omega)
          have kk := (below_cell HB.out hbk).trans (hkk k hlt)
          have HTR := hideIt htr
          have hky := q2 k hlt
          obtain ⟨ky, hk9⟩ : ∃ ky, keyAt keys k = ky := ⟨_, rfl⟩
          have HKY := hideIt hk9
          rw [hk9] at kk hky
          have hlm := HLM.out (k + 1) (by omega)
          have hlm0 := HLM.out k (by omega)
          have HLM1 : Hid ((l ++ (packC 128 222 M ++ packL (packT f) true keys kids k) ++ packW ky ++ packT f (kidT kids k)).length ≤ 100000000) := by
            rw [packL, if_pos rfl, hk9] at hlm
            simp only [Hid, List.length_append] at hlm ⊢
            omega
          clear hc hck htr hkk hk9 hlm
          go_wp2_with (go_at_call 42; refine (writeText_any hT HF.out ky (by omega) hlm0 (by omega)).mono ?_; rintro e w2 ⟨rfl, f2, b2, k2⟩; have HF2 := hideIt f2; have HB2 := hideIt (HB.out.trans b2); have HK2 := hideIt (HK.out.trans k2); have z2 := (HB.out.trans b2).size; clear f2 b2 k2)
          refine (IH.out (kidT kids k) (.iface tt xx) _ w2 HF2.out (TreeAt.keep (fun c hc2 => HB2.out.block c hc2) (Nat.le_refl _) HTR.out) (HGK.out k hlt) (by omega) HLM1.out).mono ?_
          rintro e w3 ⟨rfl, f3, b3, k3⟩
          have HF3 : Hid (FB 50 B b [] (l ++ (packC 128 222 M ++ packL (packT f) true keys kids (k + 1))) w3) := by
            rw [Hid, packL, if_pos rfl, HKY.out, ← List.append_assoc (packC 128 222 M), ← List.append_assoc l, ← List.append_assoc (packC 128 222 M), ← List.append_assoc l]; exact f3
          have HB3 := hideIt (HB2.out.trans b3)
          have HK3 := hideIt (HK2.out.trans k3)
          clear f3 b3 k3
          go_wp2_with fail
          exact ⟨⟨k + 1, by omega, by go_num, HF3.out, HB3.out, HK3.out⟩, by simp [intOf]; omega⟩
        · obtain rfl : k = M := by omega
          go_wp2_with fail
          go_end0
          exact ⟨rfl, HF.out, HB.out, HKW1.out.trans HK.out⟩
end Go.Proofs.Ytnnofahlmlikcaa
