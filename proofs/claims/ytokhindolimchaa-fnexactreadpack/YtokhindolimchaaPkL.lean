/-
  Plain: what MessagePack's reading gives is bounded by the bytes that it takes; and what the specification reads is small.
-/
import Derived.Test.YtokhindolimchaaRd
import Derived.Test.YtokhindolimchaaSpF
import Derived.Test.YtokhindolimchaaPkN
import Derived.Test.YtokhindolimchaaCbI
import Derived.Test.YtokhindolimchaaPkP
namespace Go.Proofs.Ytokhindolimchaa
open Go.RowKit
set_option linter.unusedSimpArgs false
set_option linter.unusedVariables false

theorem pow2_cases {a : Nat} (h : a ≤ 3) : 2 ^ a = 1 ∨ 2 ^ a = 2 ∨ 2 ^ a = 4 ∨ 2 ^ a = 8 := by
  rcases (show a = 0 ∨ a = 1 ∨ a = 2 ∨ a = 3 by omega) with rfl | rfl | rfl | rfl <;> simp
theorem sgnN_in {w x : Nat} (hw : w = 1 ∨ w = 2 ∨ w = 4 ∨ w = 8) (h : x < 256 ^ w) : -9223372036854775808 ≤ sgnN w x ∧ sgnN w x ≤ 9223372036854775807 := by
  unfold sgnN
  rcases hw with rfl | rfl | rfl | rfl
  · have h' : x < 256 := by simpa using h
    split <;> (simp only [show (256 : Nat) ^ 1 = 256 by decide] at *; omega)
  · have h' : x < 65536 := by simpa using h
    split <;> (simp only [show (256 : Nat) ^ 2 = 65536 by decide] at *; omega)
  · have h' : x < 4294967296 := by simpa using h
    split <;> (simp only [show (256 : Nat) ^ 4 = 4294967296 by decide] at *; omega)
  · have h' : x < 18446744073709551616 := by simpa using h
    split <;> (simp only [show (256 : Nat) ^ 8 = 18446744073709551616 by decide] at *; omega)
theorem rdP_ok (L : List UInt8) (hL : L.length ≤ 4000) : ∀ f, RdOk f L (rdP L f) := by
  intro f
  induction f with
  | zero => intro p t q h; simp [rdP] at h
  | succ f ih =>
    intro p t q h
    have leaf : ∀ {k n : Int} {q' : Nat}, p < q' → q' ≤ L.length → (1 ≤ k ∧ k ≤ 6 ∧ k ≠ 4) → (-9223372036854775808 ≤ n ∧ n ≤ 9223372036854775807) → some ((VT.mk k n ByteArray.empty [] [] : VT), q') = some (t, q) → p < q ∧ q ≤ L.length ∧ (layT (f + 1) t 0).length ≤ q - p ∧ FitT (f + 1) t ∧ ∀ z, textOf t = some z → z.size ≤ L.length := fun {k n q'} h1 h2 hk hn h => by
      simp only [Option.some.injEq, Prod.mk.injEq] at h
      obtain ⟨rfl, rfl⟩ := h
      obtain ⟨l1, l2, l3⟩ := leaf_ok (f := f) hk hn
      exact ⟨h1, h2, by omega, l2, fun z hz => by rw [l3] at hz; cases hz⟩
    have row : ∀ {named : Bool} {n r : Nat}, p < r → r ≤ L.length → rowT (rdP L f) named n r = some (t, q) → p < q ∧ q ≤ L.length ∧ (layT (f + 1) t 0).length ≤ q - p ∧ FitT (f + 1) t ∧ ∀ z, textOf t = some z → z.size ≤ L.length := fun {named n r} h1 h2 h => by
      obtain ⟨c1, c2, c3, c4, c5⟩ := row_ok ih hL h2 h
      exact ⟨by omega, c2, by omega, c4, c5⟩
    have word : ∀ {n r : Nat}, p < r → wordI L n r = some (t, q) → p < q ∧ q ≤ L.length ∧ (layT (f + 1) t 0).length ≤ q - p ∧ FitT (f + 1) t ∧ ∀ z, textOf t = some z → z.size ≤ L.length := fun {n r} h1 h => by
      obtain ⟨c1, c2, c3, c4, c5⟩ := word_ok hL h f
      exact ⟨by omega, c2, by omega, c4, c5⟩
    have hb := byAt_lt L p
    rw [rdP] at h
    by_cases c0 : L.length ≤ p
    · rw [if_pos c0] at h
      cases h
    rw [if_neg c0] at h
    by_cases c1 : byAt L p < 128
    · rw [if_pos c1] at h
      exact leaf (by omega) (by omega) (by decide) (by omega) h
    rw [if_neg c1] at h
    by_cases c2 : byAt L p < 144
    · rw [if_pos c2] at h
      exact row (by omega) (by omega) h
    rw [if_neg c2] at h
    by_cases c3 : byAt L p < 160
    · rw [if_pos c3] at h
      exact row (by omega) (by omega) h
    rw [if_neg c3] at h
    by_cases c4 : byAt L p < 192
    · rw [if_pos c4] at h
      exact word (by omega) h
    rw [if_neg c4] at h
    by_cases c5 : 224 ≤ byAt L p
    · rw [if_pos c5] at h
      exact leaf (by omega) (by omega) (by decide) (by omega) h
    rw [if_neg c5] at h
    by_cases c6 : byAt L p = 192
    · rw [if_pos c6] at h
      exact leaf (by omega) (by omega) (by decide) (by decide) h
    rw [if_neg c6] at h
    by_cases c7 : byAt L p = 194
    · rw [if_pos c7] at h
      exact leaf (by omega) (by omega) (by decide) (by decide) h
    rw [if_neg c7] at h
    by_cases c8 : byAt L p = 195
    · rw [if_pos c8] at h
      exact leaf (by omega) (by omega) (by decide) (by decide) h
    rw [if_neg c8] at h
    by_cases c9 : byAt L p < 204
    · rw [if_pos c9] at h
      cases h
    rw [if_neg c9] at h
    by_cases c10 : byAt L p < 208
    · rw [if_pos c10] at h
      unfold numV at h
      cases e : numI L (p + 1) (2 ^ (byAt L p - 204)) with
      | none => rw [e] at h; cases h
      | some x =>
        obtain ⟨n, r⟩ := x
        rw [e] at h
        obtain ⟨d1, d2, d3⟩ := num_ok e
        unfold maxI at d1
        exact leaf (by rw [d2]; exact Nat.lt_of_lt_of_le (Nat.lt_succ_self p) (Nat.le_add_right _ _)) d3 (by decide) (by omega) h
    rw [if_neg c10] at h
    by_cases c11 : byAt L p < 212
    · rw [if_pos c11] at h
      unfold sgnI at h
      split at h
      · rename_i g
        have h1 := sgnN_in (pow2_cases (show byAt L p - 208 ≤ 3 by omega)) (bigN_lt L (p + 1) (2 ^ (byAt L p - 208)))
        exact leaf (Nat.lt_of_lt_of_le (Nat.lt_succ_self p) (Nat.le_add_right _ _)) g (by decide) h1 h
      · cases h
    rw [if_neg c11] at h
    by_cases c12 : byAt L p < 217
    · rw [if_pos c12] at h
      cases h
    rw [if_neg c12] at h
    by_cases c13 : byAt L p < 220
    · rw [if_pos c13] at h
      unfold longV at h
      cases e : numI L (p + 1) (2 ^ (byAt L p - 217)) with
      | none => rw [e] at h; cases h
      | some x =>
        obtain ⟨n, r⟩ := x
        rw [e] at h
        obtain ⟨d1, d2, d3⟩ := num_ok e
        exact word (by rw [d2]; exact Nat.lt_of_lt_of_le (Nat.lt_succ_self p) (Nat.le_add_right _ _)) h
    rw [if_neg c13] at h
    by_cases c14 : byAt L p < 222
    · rw [if_pos c14] at h
      unfold rowV at h
      split at h
      · cases h
      · rename_i n r e
        obtain ⟨d1, d2, d3⟩ := num_ok e
        exact row (by rw [d2]; exact Nat.lt_of_lt_of_le (Nat.lt_succ_self p) (Nat.le_add_right _ _)) d3 h
    rw [if_neg c14] at h
    unfold rowV at h
    split at h
    · cases h
    · rename_i n r e
      obtain ⟨d1, d2, d3⟩ := num_ok e
      exact row (by rw [d2]; exact Nat.lt_of_lt_of_le (Nat.lt_succ_self p) (Nat.le_add_right _ _)) d3 h
end Go.Proofs.Ytokhindolimchaa

/-
  The program's packReader.readNumber and readSigned.
-/
namespace Go.Proofs.Ytokhindolimchaa
open Go.RowKit
set_option linter.unusedSimpArgs false
set_option linter.unusedVariables false

theorem call_bits (u v : Value) : ∀ w, (callFunc 110 #[u, v]).run Try.prog w = .ok (.enter 110 #[u, v]) w := fun w => by kernel_rfl

set_option maxRecDepth 100000 in
set_option maxHeartbeats 1600000 in
theorem pnumber_any {rb p : Nat} {s : ByteArray} {w : World} (h : BrAt w rb s p) (hs : s.size ≤ 4000) (m : Nat) (hm : m ≤ 8) :
    Calls Try.prog 97 #[.pointer (some ⟨rb, 0, none⟩), .int .i64 m] w (NumOr (numI s.data.toList p m) rb s w) := by
  have HC := hideIt (readBits_any h hs m hm)
  have hlen := len_is s
  have HY : Hid (p + m ≤ s.size → bigN s.data.toList p m ≤ 1000000000000000 → numI s.data.toList p m = some (bigN s.data.toList p m, p + m)) := fun h1 h2 => by unfold numI; rw [if_pos ⟨by omega, by unfold maxI; omega⟩]
  have HN : Hid (¬ (p + m ≤ s.size ∧ bigN s.data.toList p m ≤ 1000000000000000) → numI s.data.toList p m = none) := fun h1 => by unfold numI; rw [if_neg (fun h2 => h1 ⟨by omega, by have := h2.2; unfold maxI at this; omega⟩)]
  obtain ⟨X, hX⟩ : ∃ X, bigN s.data.toList p m = X := ⟨_, rfl⟩
  rw [hX] at HC HY HN
  clear h hlen hX
  go_enter Try.func97, Try.ntmps97
  go_wp2_with fail
  refine HC.out.mono ?_
  rintro e w1 ⟨⟨rfl, hfit, hbr⟩ | ⟨rfl, hno⟩, hbt⟩
  · have HB := hideIt hbr
    have HT := hideIt hbt
    clear hbr hbt
    by_cases hbig : X ≤ 1000000000000000
    · have HE := hideIt (HY.out hfit hbig)
      go_wp2_with fail
      refine (within_yes _ _ hbig).mono ?_
      rintro e w9 ⟨rfl, rfl⟩
      go_wp2_with fail
      go_ret
      rw [HE.out]
      exact ⟨.inl ⟨_, _, rfl, rfl, HB.out, hbig⟩, HT.out⟩
    · have HE := hideIt (HN.out (fun h => hbig h.2))
      go_wp2_with fail
      refine (within_no _ _ (by omega)).mono ?_
      rintro e w9 ⟨rfl, rfl⟩
      unfold gup
      go_wp2_with fail
      rw [HE.out]
      exact ⟨rfl, .inr ⟨rfl, rfl⟩, HT.out⟩
  · have HT := hideIt hbt
    have HE := hideIt (HN.out (fun h => by omega))
    clear hbt
    unfold gup
    go_wp2_with fail
    rw [HE.out]
    exact ⟨rfl, .inr ⟨rfl, rfl⟩, HT.out⟩

theorem sgn_w1 {X : Nat} (h : X < 256) : wrap64 ((X : Int) * 72057594037927936) / 72057594037927936 = sgnN 1 X := by
  unfold sgnN wrap64; simp only [Nat.reducePow]; split <;> omega
theorem sgn_w2 {X : Nat} (h : X < 65536) : wrap64 ((X : Int) * 281474976710656) / 281474976710656 = sgnN 2 X := by
  unfold sgnN wrap64; simp only [Nat.reducePow]; split <;> omega
theorem sgn_w4 {X : Nat} (h : X < 4294967296) : wrap64 ((X : Int) * 4294967296) / 4294967296 = sgnN 4 X := by
  unfold sgnN wrap64; simp only [Nat.reducePow]; split <;> omega
theorem sgn_w8 {X : Nat} (h : X < 18446744073709551616) : wrap64 (X : Int) = sgnN 8 X := by
  unfold sgnN wrap64; simp only [Nat.reducePow]; split <;> omega
/-- What reading a number in two's complement answers. -/
def SgnOr (L : List UInt8) (p m rb : Nat) (s : ByteArray) (w : World) (e : Ending) (w' : World) : Prop :=
  ((e = .returned (.int .i64 (sgnN m (bigN L p m))) ∧ p + m ≤ s.size ∧ BrAt w' rb s (p + m)) ∨ (e = gup ∧ s.size < p + m)) ∧ But rb w w'
set_option maxRecDepth 100000 in
set_option maxHeartbeats 1600000 in
theorem psigned_any {rb p : Nat} {s : ByteArray} {w : World} (h : BrAt w rb s p) (hs : s.size ≤ 4000) (k : Nat) (hk : k < 4) :
    Calls Try.prog 98 #[.pointer (some ⟨rb, 0, none⟩), .int .i64 ((2 ^ k : Nat) : Int)] w (SgnOr s.data.toList p (2 ^ k) rb s w) := by
  have HC := hideIt (readBits_any h hs (2 ^ k) (pow_le3 (by omega)))
  have hlt := bigN_lt s.data.toList p (2 ^ k)
  have HS : Hid (∀ e w', SgnOr s.data.toList p (2 ^ k) rb s w e w' = (((e = .returned (.int .i64 (sgnN (2 ^ k) (bigN s.data.toList p (2 ^ k)))) ∧ p + 2 ^ k ≤ s.size ∧ BrAt w' rb s (p + 2 ^ k)) ∨ (e = gup ∧ s.size < p + 2 ^ k)) ∧ But rb w w')) := fun _ _ => rfl
  obtain ⟨X, hX⟩ : ∃ X, bigN s.data.toList p (2 ^ k) = X := ⟨_, rfl⟩
  rw [hX] at HC hlt HS
  clear h hX
  rcases (show k = 0 ∨ k = 1 ∨ k = 2 ∨ k = 3 by omega) with rfl | rfl | rfl | rfl
  · have hlt' : X < 256 := by simpa using hlt
    clear hlt
    have hE := sgn_w1 (X := X) hlt'
    go_enter Try.func98, Try.ntmps98
    go_wp2_with fail
    refine HC.out.mono ?_
    rintro e w1 ⟨⟨rfl, hfit, hbr⟩ | ⟨rfl, hno⟩, hbt⟩
    · have HB := hideIt hbr
      have HT := hideIt hbt
      clear hbr hbt
      go_wp2_with fail
      go_ret
      rw [HS.out]
      refine ⟨.inl ⟨?_, hfit, HB.out⟩, HT.out⟩
      rfl
    · have HT := hideIt hbt
      clear hbt
      unfold gup
      go_wp2_with fail
      refine ⟨rfl, ?_⟩
      rw [HS.out]
      exact ⟨.inr ⟨rfl, hno⟩, HT.out⟩
  · have hlt' : X < 65536 := by simpa using hlt
    clear hlt
    have hE := sgn_w2 (X := X) hlt'
    go_enter Try.func98, Try.ntmps98
    go_wp2_with fail
    refine HC.out.mono ?_
    rintro e w1 ⟨⟨rfl, hfit, hbr⟩ | ⟨rfl, hno⟩, hbt⟩
    · have HB := hideIt hbr
      have HT := hideIt hbt
      clear hbr hbt
      go_wp2_with fail
      go_ret
      rw [HS.out]
      refine ⟨.inl ⟨?_, hfit, HB.out⟩, HT.out⟩
      rfl
    · have HT := hideIt hbt
      clear hbt
      unfold gup
      go_wp2_with fail
      refine ⟨rfl, ?_⟩
      rw [HS.out]
      exact ⟨.inr ⟨rfl, hno⟩, HT.out⟩
  · have hlt' : X < 4294967296 := by simpa using hlt
    clear hlt
    have hE := sgn_w4 (X := X) hlt'
    go_enter Try.func98, Try.ntmps98
    go_wp2_with fail
    refine HC.out.mono ?_
    rintro e w1 ⟨⟨rfl, hfit, hbr⟩ | ⟨rfl, hno⟩, hbt⟩
    · have HB := hideIt hbr
      have HT := hideIt hbt
      clear hbr hbt
      go_wp2_with fail
      go_ret
      rw [HS.out]
      refine ⟨.inl ⟨?_, hfit, HB.out⟩, HT.out⟩
      rfl
    · have HT := hideIt hbt
      clear hbt
      unfold gup
      go_wp2_with fail
      refine ⟨rfl, ?_⟩
      rw [HS.out]
      exact ⟨.inr ⟨rfl, hno⟩, HT.out⟩
  · have hlt' : X < 18446744073709551616 := by simpa using hlt
    clear hlt
    have hE := sgn_w8 (X := X) hlt'
    go_enter Try.func98, Try.ntmps98
    go_wp2_with fail
    refine HC.out.mono ?_
    rintro e w1 ⟨⟨rfl, hfit, hbr⟩ | ⟨rfl, hno⟩, hbt⟩
    · have HB := hideIt hbr
      have HT := hideIt hbt
      clear hbr hbt
      go_wp2_with fail
      go_ret
      rw [HS.out]
      refine ⟨.inl ⟨?_, hfit, HB.out⟩, HT.out⟩
      rfl
    · have HT := hideIt hbt
      clear hbt
      unfold gup
      go_wp2_with fail
      refine ⟨rfl, ?_⟩
      rw [HS.out]
      exact ⟨.inr ⟨rfl, hno⟩, HT.out⟩
end Go.Proofs.Ytokhindolimchaa

/-
  The program's packReader.readLong: what begins with a byte that says no number by itself.
-/
namespace Go.Proofs.Ytokhindolimchaa
open Go.RowKit
set_option linter.unusedSimpArgs false
set_option linter.unusedVariables false

theorem call_pread (v : Value) : ∀ w, (callFunc 38 #[v]).run Try.prog w = .ok (.enter 38 #[v]) w := fun w => by kernel_rfl
theorem ReadOr.lift {r : Option (VT × Nat)} {f rb p : Nat} {s : ByteArray} {w w1 : World} {e : Ending} {w' : World} (h : ReadOr r f rb s p w1 e w') (hb : But rb w w1) : ReadOr r f rb s p w e w' := by
  rcases h with ⟨t, q, x, h1, h2, h3, h4, h5, h6⟩ | ⟨h1, h2, h3⟩
  · exact .inl ⟨t, q, x, h1, h2, h3.keep (fun b _ => rfl) (fun b hb' => ⟨Nat.le_trans hb.size hb'.1, hb'.2⟩), h4, hb.trans h5, h6⟩
  · exact .inr ⟨h1, h2, hb.trans h3⟩
theorem rdP_text (L : List UInt8) : ∀ f p t q z, rdP L f p = some (t, q) → textOf t = some z → z.size ≤ L.length := by
  intro f p t q z h hz
  have leaf : ∀ {x : VT} {r : Nat}, textOf x = none → some (x, r) = some (t, q) → z.size ≤ L.length := fun {x r} hx h => by
    simp only [Option.some.injEq, Prod.mk.injEq] at h
    rw [← h.1, hx] at hz
    cases hz
  have row : ∀ {R : Nat → Option (VT × Nat)} {named : Bool} {many r : Nat}, rowT R named many r = some (t, q) → z.size ≤ L.length := fun {R named many r} h => by
    rw [textOf_row h] at hz
    cases hz
  have rowv : ∀ {R : Nat → Option (VT × Nat)} {named : Bool} {r w : Nat}, rowV R L named r w = some (t, q) → z.size ≤ L.length := fun {R named r w} h => by
    unfold rowV at h
    split at h
    · cases h
    · exact row h
  cases f with
  | zero => simp [rdP] at h
  | succ f =>
    by_cases hp : L.length ≤ p
    · rw [rdP_end hp] at h; cases h
    have hp' : p < L.length := by omega
    have hb := byAt_lt L p
    rcases (show byAt L p < 128 ∨ (128 ≤ byAt L p ∧ byAt L p < 144) ∨ (144 ≤ byAt L p ∧ byAt L p < 160) ∨ (160 ≤ byAt L p ∧ byAt L p < 192) ∨ 224 ≤ byAt L p ∨ byAt L p = 192 ∨ byAt L p = 194 ∨ byAt L p = 195 ∨ (byAt L p = 193 ∨ (196 ≤ byAt L p ∧ byAt L p < 204)) ∨ (204 ≤ byAt L p ∧ byAt L p < 208) ∨ (208 ≤ byAt L p ∧ byAt L p < 212) ∨ (212 ≤ byAt L p ∧ byAt L p < 217) ∨ (217 ≤ byAt L p ∧ byAt L p < 220) ∨ (220 ≤ byAt L p ∧ byAt L p < 222) ∨ (222 ≤ byAt L p ∧ byAt L p < 224) by omega) with c | c | c | c | c | c | c | c | c | c | c | c | c | c | c
    · rw [rdP_num hp' c] at h; exact leaf rfl h
    · rw [rdP_map hp' c] at h; exact row h
    · rw [rdP_list hp' c] at h; exact row h
    · rw [rdP_word hp' c] at h; exact word_size h hz
    · rw [rdP_neg hp' c] at h; exact leaf rfl h
    · rw [rdP_null hp' c] at h; exact leaf rfl h
    · rw [rdP_no hp' c] at h; exact leaf rfl h
    · rw [rdP_yes hp' c] at h; exact leaf rfl h
    · rw [rdP_bad hp' c] at h; cases h
    · rw [rdP_wide hp' c] at h
      unfold numV at h
      split at h
      · cases h
      · exact leaf rfl h
    · rw [rdP_sgn hp' c] at h
      unfold sgnI at h
      split at h
      · exact leaf rfl h
      · cases h
    · rw [rdP_bad2 hp' c] at h; cases h
    · rw [rdP_long hp' c] at h
      unfold longV at h
      split at h
      · cases h
      · exact word_size h hz
    · rw [rdP_list2 hp' c] at h; exact rowv h
    · rw [rdP_map2 hp' c] at h; exact rowv h

set_option maxRecDepth 100000 in
set_option maxHeartbeats 6400000 in
theorem plong_small {rb p f : Nat} {s : ByteArray} {w : World} (h : BrAt w rb s (p + 1)) (b : Nat) (h1 : 192 ≤ b) (h2 : b < 204 ∨ (212 ≤ b ∧ b < 217)) :
    Calls Try.prog 75 #[.pointer (some ⟨rb, 0, none⟩), .int .u8 b] w (ReadOr (if b = 192 then some (nullT, p + 1) else if b = 194 then some (boolT 0, p + 1) else if b = 195 then some (boolT 1, p + 1) else none) (f + 1) rb s p w) := by
  have H := hideIt h
  clear h
  by_cases c0 : b = 192
  · subst c0
    go_enter Try.func75, Try.ntmps75
    go_wp2_with fail
    go_ret
    exact .inl ⟨_, _, _, rfl, rfl, (leafP f).1, H.out, But.refl _ _, by omega⟩
  by_cases c1 : b = 194
  · subst c1
    go_enter Try.func75, Try.ntmps75
    go_wp2_with fail
    go_ret
    exact .inl ⟨_, _, _, rfl, rfl, (leafP f).2.1 0, H.out, But.refl _ _, by omega⟩
  by_cases c2 : b = 195
  · subst c2
    go_enter Try.func75, Try.ntmps75
    go_wp2_with fail
    go_ret
    exact .inl ⟨_, _, _, rfl, rfl, (leafP f).2.1 1, H.out, But.refl _ _, by omega⟩
  rw [if_neg c0, if_neg c1, if_neg c2]
  have i0 : ((b : Int) == 192) = false := by simp; omega
  have i1 : ((b : Int) == 194) = false := by simp; omega
  have i2 : ((b : Int) == 195) = false := by simp; omega
  have j0 : ¬ (b : Int) = 192 := by omega
  have j1 : ¬ (b : Int) = 194 := by omega
  have j2 : ¬ (b : Int) = 195 := by omega
  rcases h2 with h2 | ⟨h2, h3⟩
  · have k1 : (b : Int) < 204 := by omega
    go_enter Try.func75, Try.ntmps75
    go_wp2_with fail
    exact ⟨rfl, .inr ⟨rfl, rfl, But.refl _ _⟩⟩
  · have k1 : ¬ (b : Int) < 204 := by omega
    have k2 : ¬ (b : Int) < 208 := by omega
    have k3 : ¬ (b : Int) < 212 := by omega
    have k4 : (b : Int) < 217 := by omega
    go_enter Try.func75, Try.ntmps75
    go_wp2_with fail
    exact ⟨rfl, .inr ⟨rfl, rfl, But.refl _ _⟩⟩
end Go.Proofs.Ytokhindolimchaa
