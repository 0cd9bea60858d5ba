/-
  What reading a number, a word, a row answers.
-/
import Derived.Test.YtokhindolimchaaGreatRdJ
import Derived.Test.YtokhindolimchaaGreatScM
import Derived.Test.YtokhindolimchaaGreatStbM
import Derived.Test.YtokhindolimchaaGreatCbG
import Derived.Test.YtokhindolimchaaGreatEscP
namespace Go.Proofs.YtokhindolimchaaGreat
open Go.RowKit
set_option linter.unusedSimpArgs false
set_option linter.unusedVariables false

/-- What reading a head's number answers. -/
def NumOr (r : Option (Nat × Nat)) (rb : Nat) (s : ByteArray) (w : World) (e : Ending) (w' : World) : Prop :=
  ((∃ n q, r = some (n, q) ∧ e = .returned (.int .i64 n) ∧ BrAt w' rb s q ∧ n ≤ 1000000000000000) ∨ (r = none ∧ e = gup)) ∧ But rb w w'
theorem word_size {L : List UInt8} {n p : Nat} {t : VT} {q : Nat} {z : ByteArray} (h : wordI L n p = some (t, q)) (hz : textOf t = some z) : z.size ≤ L.length := by
  unfold wordI at h
  split at h
  · rename_i hn
    simp only [Option.some.injEq, Prod.mk.injEq] at h
    obtain ⟨rfl, _⟩ := h
    simp [textOf, wordT] at hz
    subst hz
    rw [cutT_size hn]; omega
  · cases h
theorem RowOr.read {r : Option (VT × Nat)} {f rb p p' : Nat} {s : ByteArray} {w w1 : World} {e : Ending} {w' : World} (h : RowOr r f rb s p' w1 e w') (hb : But rb w w1) (hp : p < p') : ReadOr r f rb s p w e w' := by
  rcases h with ⟨t, q, x, h1, h2, h3, h4, h5, h6⟩ | ⟨h1, h2, h3⟩
  · exact .inl ⟨t, q, x, h1, h2, h3.keep (fun b _ => rfl) (fun b hb' => ⟨Nat.le_trans hb.size hb'.1, hb'.2⟩), h4, hb.trans h5, by omega⟩
  · exact .inr ⟨h1, h2, hb.trans h3⟩
end Go.Proofs.YtokhindolimchaaGreat

/-
  A call of take.
-/
namespace Go.Proofs.YtokhindolimchaaGreat
open Go.RowKit
set_option linter.unusedSimpArgs false
set_option linter.unusedVariables false

theorem call_take (u v : Value) : ∀ w, (callFunc 57 #[u, v]).run Tryz.prog w = .ok (.enter 57 #[u, v]) w := fun w => by kernel_rfl
end Go.Proofs.YtokhindolimchaaGreat

/-
  The program's packReader.readNumber and readSigned.
-/
namespace Go.Proofs.YtokhindolimchaaGreat
open Go.RowKit
set_option linter.unusedSimpArgs false
set_option linter.unusedVariables false

theorem call_bits (u v : Value) : ∀ w, (callFunc 116 #[u, v]).run Tryz.prog w = .ok (.enter 116 #[u, v]) w := fun w => by kernel_rfl

set_option maxRecDepth 100000 in
set_option maxHeartbeats 1600000 in
theorem pnumber_any {rb p : Nat} {s : ByteArray} {w : World} (h : BrAt w rb s p) (hs : s.size ≤ 4000) (m : Nat) (hm : m ≤ 8) :
    Calls Tryz.prog 108 #[.pointer (some ⟨rb, 0, none⟩), .int .i64 m] w (NumOr (numI s.data.toList p m) rb s w) := by
  have HC := hideIt (readBits_any h hs m hm)
  have hlen := len_is s
  have HY : Hid (p + m ≤ s.size → bigN s.data.toList p m ≤ 1000000000000000 → numI s.data.toList p m = some (bigN s.data.toList p m, p + m)) := fun h1 h2 => by unfold numI; rw [if_pos ⟨by omega, by unfold maxI; omega⟩]
  have HN : Hid (¬ (p + m ≤ s.size ∧ bigN s.data.toList p m ≤ 1000000000000000) → numI s.data.toList p m = none) := fun h1 => by unfold numI; rw [if_neg (fun h2 => h1 ⟨by omega, by have := h2.2; unfold maxI at this; omega⟩)]
  obtain ⟨X, hX⟩ : ∃ X, bigN s.data.toList p m = X := ⟨_, rfl⟩
  rw [hX] at HC HY HN
  clear h hlen hX
  go_enter Tryz.func108, Tryz.ntmps108
  go_wp2_with fail
  refine HC.out.mono ?_
  rintro e w1 ⟨⟨rfl, hfit, hbr⟩ | ⟨rfl, hno⟩, hbt⟩
  · have HB := hideIt hbr
    have HT := hideIt hbt
    clear hbr hbt
    by_cases hbig : X ≤ 1000000000000000
    · have HE := hideIt (HY.out hfit hbig)
      go_wp2_with fail
      refine (within_yes _ _ hbig).mono ?_
      rintro e w9 ⟨rfl, rfl⟩
      go_wp2_with fail
      go_ret
      rw [HE.out]
      exact ⟨.inl ⟨_, _, rfl, rfl, HB.out, hbig⟩, HT.out⟩
    · have HE := hideIt (HN.out (fun h => hbig h.2))
      go_wp2_with fail
      refine (within_no _ _ (by omega)).mono ?_
      rintro e w9 ⟨rfl, rfl⟩
      unfold gup
      go_wp2_with fail
      rw [HE.out]
      exact ⟨rfl, .inr ⟨rfl, rfl⟩, HT.out⟩
  · have HT := hideIt hbt
    have HE := hideIt (HN.out (fun h => by omega))
    clear hbt
    unfold gup
    go_wp2_with fail
    rw [HE.out]
    exact ⟨rfl, .inr ⟨rfl, rfl⟩, HT.out⟩

theorem sgn_w1 {X : Nat} (h : X < 256) : wrap64 ((X : Int) * 72057594037927936) / 72057594037927936 = sgnN 1 X := by
  unfold sgnN wrap64; simp only [Nat.reducePow]; split <;> omega
theorem sgn_w2 {X : Nat} (h : X < 65536) : wrap64 ((X : Int) * 281474976710656) / 281474976710656 = sgnN 2 X := by
  unfold sgnN wrap64; simp only [Nat.reducePow]; split <;> omega
theorem sgn_w4 {X : Nat} (h : X < 4294967296) : wrap64 ((X : Int) * 4294967296) / 4294967296 = sgnN 4 X := by
  unfold sgnN wrap64; simp only [Nat.reducePow]; split <;> omega
theorem sgn_w8 {X : Nat} (h : X < 18446744073709551616) : wrap64 (X : Int) = sgnN 8 X := by
  unfold sgnN wrap64; simp only [Nat.reducePow]; split <;> omega
/-- What reading a number in two's complement answers. -/
def SgnOr (L : List UInt8) (p m rb : Nat) (s : ByteArray) (w : World) (e : Ending) (w' : World) : Prop :=
  ((e = .returned (.int .i64 (sgnN m (bigN L p m))) ∧ p + m ≤ s.size ∧ BrAt w' rb s (p + m)) ∨ (e = gup ∧ s.size < p + m)) ∧ But rb w w'
set_option maxRecDepth 100000 in
set_option maxHeartbeats 1600000 in
theorem psigned_any {rb p : Nat} {s : ByteArray} {w : World} (h : BrAt w rb s p) (hs : s.size ≤ 4000) (k : Nat) (hk : k < 4) :
    Calls Tryz.prog 109 #[.pointer (some ⟨rb, 0, none⟩), .int .i64 ((2 ^ k : Nat) : Int)] w (SgnOr s.data.toList p (2 ^ k) rb s w) := by
  have HC := hideIt (readBits_any h hs (2 ^ k) (pow_le3 (by omega)))
  have hlt := bigN_lt s.data.toList p (2 ^ k)
  have HS : Hid (∀ e w', SgnOr s.data.toList p (2 ^ k) rb s w e w' = (((e = .returned (.int .i64 (sgnN (2 ^ k) (bigN s.data.toList p (2 ^ k)))) ∧ p + 2 ^ k ≤ s.size ∧ BrAt w' rb s (p + 2 ^ k)) ∨ (e = gup ∧ s.size < p + 2 ^ k)) ∧ But rb w w')) := fun _ _ => rfl
  obtain ⟨X, hX⟩ : ∃ X, bigN s.data.toList p (2 ^ k) = X := ⟨_, rfl⟩
  rw [hX] at HC hlt HS
  clear h hX
  rcases (show k = 0 ∨ k = 1 ∨ k = 2 ∨ k = 3 by omega) with rfl | rfl | rfl | rfl
  · have hlt' : X < 256 := by simpa using hlt
    clear hlt
    have hE := sgn_w1 (X := X) hlt'
    go_enter Tryz.func109, Tryz.ntmps109
    go_wp2_with fail
    refine HC.out.mono ?_
    rintro e w1 ⟨⟨rfl, hfit, hbr⟩ | ⟨rfl, hno⟩, hbt⟩
    · have HB := hideIt hbr
      have HT := hideIt hbt
      clear hbr hbt
      go_wp2_with fail
      go_ret
      rw [HS.out]
      refine ⟨.inl ⟨?_, hfit, HB.out⟩, HT.out⟩
      rfl
    · have HT := hideIt hbt
      clear hbt
      unfold gup
      go_wp2_with fail
      refine ⟨rfl, ?_⟩
      rw [HS.out]
      exact ⟨.inr ⟨rfl, hno⟩, HT.out⟩
  · have hlt' : X < 65536 := by simpa using hlt
    clear hlt
    have hE := sgn_w2 (X := X) hlt'
    go_enter Tryz.func109, Tryz.ntmps109
    go_wp2_with fail
    refine HC.out.mono ?_
    rintro e w1 ⟨⟨rfl, hfit, hbr⟩ | ⟨rfl, hno⟩, hbt⟩
    · have HB := hideIt hbr
      have HT := hideIt hbt
      clear hbr hbt
      go_wp2_with fail
      go_ret
      rw [HS.out]
      refine ⟨.inl ⟨?_, hfit, HB.out⟩, HT.out⟩
      rfl
    · have HT := hideIt hbt
      clear hbt
      unfold gup
      go_wp2_with fail
      refine ⟨rfl, ?_⟩
      rw [HS.out]
      exact ⟨.inr ⟨rfl, hno⟩, HT.out⟩
  · have hlt' : X < 4294967296 := by simpa using hlt
    clear hlt
    have hE := sgn_w4 (X := X) hlt'
    go_enter Tryz.func109, Tryz.ntmps109
    go_wp2_with fail
    refine HC.out.mono ?_
    rintro e w1 ⟨⟨rfl, hfit, hbr⟩ | ⟨rfl, hno⟩, hbt⟩
    · have HB := hideIt hbr
      have HT := hideIt hbt
      clear hbr hbt
      go_wp2_with fail
      go_ret
      rw [HS.out]
      refine ⟨.inl ⟨?_, hfit, HB.out⟩, HT.out⟩
      rfl
    · have HT := hideIt hbt
      clear hbt
      unfold gup
      go_wp2_with fail
      refine ⟨rfl, ?_⟩
      rw [HS.out]
      exact ⟨.inr ⟨rfl, hno⟩, HT.out⟩
  · have hlt' : X < 18446744073709551616 := by simpa using hlt
    clear hlt
    have hE := sgn_w8 (X := X) hlt'
    go_enter Tryz.func109, Tryz.ntmps109
    go_wp2_with fail
    refine HC.out.mono ?_
    rintro e w1 ⟨⟨rfl, hfit, hbr⟩ | ⟨rfl, hno⟩, hbt⟩
    · have HB := hideIt hbr
      have HT := hideIt hbt
      clear hbr hbt
      go_wp2_with fail
      go_ret
      rw [HS.out]
      refine ⟨.inl ⟨?_, hfit, HB.out⟩, HT.out⟩
      rfl
    · have HT := hideIt hbt
      clear hbt
      unfold gup
      go_wp2_with fail
      refine ⟨rfl, ?_⟩
      rw [HS.out]
      exact ⟨.inr ⟨rfl, hno⟩, HT.out⟩
end Go.Proofs.YtokhindolimchaaGreat

/-
  The program's packReader.readLong: what begins with a byte that says no number by itself.
-/
namespace Go.Proofs.YtokhindolimchaaGreat
open Go.RowKit
set_option linter.unusedSimpArgs false
set_option linter.unusedVariables false

theorem call_pread (v : Value) : ∀ w, (callFunc 41 #[v]).run Tryz.prog w = .ok (.enter 41 #[v]) w := fun w => by kernel_rfl
theorem ReadOr.lift {r : Option (VT × Nat)} {f rb p : Nat} {s : ByteArray} {w w1 : World} {e : Ending} {w' : World} (h : ReadOr r f rb s p w1 e w') (hb : But rb w w1) : ReadOr r f rb s p w e w' := by
  rcases h with ⟨t, q, x, h1, h2, h3, h4, h5, h6⟩ | ⟨h1, h2, h3⟩
  · exact .inl ⟨t, q, x, h1, h2, h3.keep (fun b _ => rfl) (fun b hb' => ⟨Nat.le_trans hb.size hb'.1, hb'.2⟩), h4, hb.trans h5, h6⟩
  · exact .inr ⟨h1, h2, hb.trans h3⟩
theorem rdP_text (L : List UInt8) : ∀ f p t q z, rdP L f p = some (t, q) → textOf t = some z → z.size ≤ L.length := by
  intro f p t q z h hz
  have leaf : ∀ {x : VT} {r : Nat}, textOf x = none → some (x, r) = some (t, q) → z.size ≤ L.length := fun {x r} hx h => by
    simp only [Option.some.injEq, Prod.mk.injEq] at h
    rw [← h.1, hx] at hz
    cases hz
  have row : ∀ {R : Nat → Option (VT × Nat)} {named : Bool} {many r : Nat}, rowT R named many r = some (t, q) → z.size ≤ L.length := fun {R named many r} h => by
    rw [textOf_row h] at hz
    cases hz
  have rowv : ∀ {R : Nat → Option (VT × Nat)} {named : Bool} {r w : Nat}, rowV R L named r w = some (t, q) → z.size ≤ L.length := fun {R named r w} h => by
    unfold rowV at h
    split at h
    · cases h
    · exact row h
  cases f with
  | zero => simp [rdP] at h
  | succ f =>
    by_cases hp : L.length ≤ p
    · rw [rdP_end hp] at h; cases h
    have hp' : p < L.length := by omega
    have hb := byAt_lt L p
    rcases (show byAt L p < 128 ∨ (128 ≤ byAt L p ∧ byAt L p < 144) ∨ (144 ≤ byAt L p ∧ byAt L p < 160) ∨ (160 ≤ byAt L p ∧ byAt L p < 192) ∨ 224 ≤ byAt L p ∨ byAt L p = 192 ∨ byAt L p = 194 ∨ byAt L p = 195 ∨ (byAt L p = 193 ∨ (196 ≤ byAt L p ∧ byAt L p < 204)) ∨ (204 ≤ byAt L p ∧ byAt L p < 208) ∨ (208 ≤ byAt L p ∧ byAt L p < 212) ∨ (212 ≤ byAt L p ∧ byAt L p < 217) ∨ (217 ≤ byAt L p ∧ byAt L p < 220) ∨ (220 ≤ byAt L p ∧ byAt L p < 222) ∨ (222 ≤ byAt L p ∧ byAt L p < 224) by omega) with c | c | c | c | c | c | c | c | c | c | c | c | c | c | c
    · rw [rdP_num hp' c] at h; exact leaf rfl h
    · rw [rdP_map hp' c] at h; exact row h
    · rw [rdP_list hp' c] at h; exact row h
    · rw [rdP_word hp' c] at h; exact word_size h hz
    · rw [rdP_neg hp' c] at h; exact leaf rfl h
    · rw [rdP_null hp' c] at h; exact leaf rfl h
    · rw [rdP_no hp' c] at h; exact leaf rfl h
    · rw [rdP_yes hp' c] at h; exact leaf rfl h
    · rw [rdP_bad hp' c] at h; cases h
    · rw [rdP_wide hp' c] at h
      unfold numV at h
      split at h
      · cases h
      · exact leaf rfl h
    · rw [rdP_sgn hp' c] at h
      unfold sgnI at h
      split at h
      · exact leaf rfl h
      · cases h
    · rw [rdP_bad2 hp' c] at h; cases h
    · rw [rdP_long hp' c] at h
      unfold longV at h
      split at h
      · cases h
      · exact word_size h hz
    · rw [rdP_list2 hp' c] at h; exact rowv h
    · rw [rdP_map2 hp' c] at h; exact rowv h

set_option maxRecDepth 100000 in
set_option maxHeartbeats 6400000 in
theorem plong_small {rb p f : Nat} {s : ByteArray} {w : World} (h : BrAt w rb s (p + 1)) (b : Nat) (h1 : 192 ≤ b) (h2 : b < 204 ∨ (212 ≤ b ∧ b < 217)) :
    Calls Tryz.prog 82 #[.pointer (some ⟨rb, 0, none⟩), .int .u8 b] w (ReadOr (if b = 192 then some (nullT, p + 1) else if b = 194 then some (boolT 0, p + 1) else if b = 195 then some (boolT 1, p + 1) else none) (f + 1) rb s p w) := by
  have H := hideIt h
  clear h
  by_cases c0 : b = 192
  · subst c0
    go_enter Tryz.func82, Tryz.ntmps82
    go_wp2_with fail
    go_ret
    exact .inl ⟨_, _, _, rfl, rfl, (leafP f).1, H.out, But.refl _ _, by omega⟩
  by_cases c1 : b = 194
  · subst c1
    go_enter Tryz.func82, Tryz.ntmps82
    go_wp2_with fail
    go_ret
    exact .inl ⟨_, _, _, rfl, rfl, (leafP f).2.1 0, H.out, But.refl _ _, by omega⟩
  by_cases c2 : b = 195
  · subst c2
    go_enter Tryz.func82, Tryz.ntmps82
    go_wp2_with fail
    go_ret
    exact .inl ⟨_, _, _, rfl, rfl, (leafP f).2.1 1, H.out, But.refl _ _, by omega⟩
  rw [if_neg c0, if_neg c1, if_neg c2]
  have i0 : ((b : Int) == 192) = false := by simp; omega
  have i1 : ((b : Int) == 194) = false := by simp; omega
  have i2 : ((b : Int) == 195) = false := by simp; omega
  have j0 : ¬ (b : Int) = 192 := by omega
  have j1 : ¬ (b : Int) = 194 := by omega
  have j2 : ¬ (b : Int) = 195 := by omega
  rcases h2 with h2 | ⟨h2, h3⟩
  · have k1 : (b : Int) < 204 := by omega
    go_enter Tryz.func82, Tryz.ntmps82
    go_wp2_with fail
    exact ⟨rfl, .inr ⟨rfl, rfl, But.refl _ _⟩⟩
  · have k1 : ¬ (b : Int) < 204 := by omega
    have k2 : ¬ (b : Int) < 208 := by omega
    have k3 : ¬ (b : Int) < 212 := by omega
    have k4 : (b : Int) < 217 := by omega
    go_enter Tryz.func82, Tryz.ntmps82
    go_wp2_with fail
    exact ⟨rfl, .inr ⟨rfl, rfl, But.refl _ _⟩⟩
end Go.Proofs.YtokhindolimchaaGreat

/-
  The program's packReader.readLong: numbers, texts and rows with a length of their own.
-/
namespace Go.Proofs.YtokhindolimchaaGreat
open Go.RowKit
set_option linter.unusedSimpArgs false
set_option linter.unusedVariables false

theorem call_pnum (u v : Value) : ∀ w, (callFunc 108 #[u, v]).run Tryz.prog w = .ok (.enter 108 #[u, v]) w := fun w => by kernel_rfl

set_option maxRecDepth 100000 in
set_option maxHeartbeats 6400000 in
theorem plong_wide {rb p f : Nat} {s : ByteArray} {w : World} (h : BrAt w rb s (p + 1)) (hs : s.size ≤ 4000) (k : Nat) (hk : k < 4) :
    Calls Tryz.prog 82 #[.pointer (some ⟨rb, 0, none⟩), .int .u8 ((204 + k : Nat) : Int)] w (ReadOr (numV s.data.toList (p + 1) (2 ^ k)) (f + 1) rb s p w) := by
  have HC := hideIt (pnumber_any h hs (2 ^ k) (pow_le3 (by omega)))
  have HV : Hid (∀ n q, numI s.data.toList (p + 1) (2 ^ k) = some (n, q) → numV s.data.toList (p + 1) (2 ^ k) = some (numT n, q) ∧ p < q) := fun n q hh => by
    refine ⟨by unfold numV; rw [hh], ?_⟩
    unfold numI at hh
    split at hh
    · simp only [Option.some.injEq, Prod.mk.injEq] at hh; have := two_pos k; omega
    · cases hh
  have HN : Hid (numI s.data.toList (p + 1) (2 ^ k) = none → numV s.data.toList (p + 1) (2 ^ k) = none) := fun hh => by unfold numV; rw [hh]
  obtain ⟨R, hR⟩ : ∃ R, numV s.data.toList (p + 1) (2 ^ k) = R := ⟨_, rfl⟩
  rw [hR] at HV HN ⊢
  clear h hR
  rcases (show k = 0 ∨ k = 1 ∨ k = 2 ∨ k = 3 by omega) with rfl | rfl | rfl | rfl
  · go_enter Tryz.func82, Tryz.ntmps82
    go_wp2_with fail
    refine HC.out.mono ?_
    rintro e w1 ⟨⟨n, q, hr, rfl, hbr, hn⟩ | ⟨hr, rfl⟩, hbt⟩
    · have HE := hideIt (HV.out n q hr)
      have HB := hideIt hbr
      have HT := hideIt hbt
      clear hr hbr hbt
      go_wp2_with fail
      go_ret
      exact .inl ⟨_, q, _, HE.out.1, rfl, (leafP f).2.2.1 n, HB.out, HT.out, HE.out.2⟩
    · have HE := hideIt (HN.out hr)
      have HT := hideIt hbt
      clear hr hbt
      unfold gup
      go_wp2_with fail
      exact ⟨rfl, .inr ⟨HE.out, rfl, HT.out⟩⟩
  · go_enter Tryz.func82, Tryz.ntmps82
    go_wp2_with fail
    refine HC.out.mono ?_
    rintro e w1 ⟨⟨n, q, hr, rfl, hbr, hn⟩ | ⟨hr, rfl⟩, hbt⟩
    · have HE := hideIt (HV.out n q hr)
      have HB := hideIt hbr
      have HT := hideIt hbt
      clear hr hbr hbt
      go_wp2_with fail
      go_ret
      exact .inl ⟨_, q, _, HE.out.1, rfl, (leafP f).2.2.1 n, HB.out, HT.out, HE.out.2⟩
    · have HE := hideIt (HN.out hr)
      have HT := hideIt hbt
      clear hr hbt
      unfold gup
      go_wp2_with fail
      exact ⟨rfl, .inr ⟨HE.out, rfl, HT.out⟩⟩
  · go_enter Tryz.func82, Tryz.ntmps82
    go_wp2_with fail
    refine HC.out.mono ?_
    rintro e w1 ⟨⟨n, q, hr, rfl, hbr, hn⟩ | ⟨hr, rfl⟩, hbt⟩
    · have HE := hideIt (HV.out n q hr)
      have HB := hideIt hbr
      have HT := hideIt hbt
      clear hr hbr hbt
      go_wp2_with fail
      go_ret
      exact .inl ⟨_, q, _, HE.out.1, rfl, (leafP f).2.2.1 n, HB.out, HT.out, HE.out.2⟩
    · have HE := hideIt (HN.out hr)
      have HT := hideIt hbt
      clear hr hbt
      unfold gup
      go_wp2_with fail
      exact ⟨rfl, .inr ⟨HE.out, rfl, HT.out⟩⟩
  · go_enter Tryz.func82, Tryz.ntmps82
    go_wp2_with fail
    refine HC.out.mono ?_
    rintro e w1 ⟨⟨n, q, hr, rfl, hbr, hn⟩ | ⟨hr, rfl⟩, hbt⟩
    · have HE := hideIt (HV.out n q hr)
      have HB := hideIt hbr
      have HT := hideIt hbt
      clear hr hbr hbt
      go_wp2_with fail
      go_ret
      exact .inl ⟨_, q, _, HE.out.1, rfl, (leafP f).2.2.1 n, HB.out, HT.out, HE.out.2⟩
    · have HE := hideIt (HN.out hr)
      have HT := hideIt hbt
      clear hr hbt
      unfold gup
      go_wp2_with fail
      exact ⟨rfl, .inr ⟨HE.out, rfl, HT.out⟩⟩
set_option maxRecDepth 100000 in
set_option maxHeartbeats 6400000 in
theorem plong_sgn {rb p f : Nat} {s : ByteArray} {w : World} (h : BrAt w rb s (p + 1)) (hs : s.size ≤ 4000) (k : Nat) (hk : k < 4) :
    Calls Tryz.prog 82 #[.pointer (some ⟨rb, 0, none⟩), .int .u8 ((208 + k : Nat) : Int)] w (ReadOr (sgnI s.data.toList (p + 1) (2 ^ k)) (f + 1) rb s p w) := by
  have hlen := len_is s
  have HC := hideIt (psigned_any h hs k hk)
  have HV : Hid (p + 1 + 2 ^ k ≤ s.size → sgnI s.data.toList (p + 1) (2 ^ k) = some (numT (sgnN (2 ^ k) (bigN s.data.toList (p + 1) (2 ^ k))), p + 1 + 2 ^ k)) := fun hh => by unfold sgnI; rw [if_pos (by omega)]
  have HN : Hid (s.size < p + 1 + 2 ^ k → sgnI s.data.toList (p + 1) (2 ^ k) = none) := fun hh => by unfold sgnI; rw [if_neg (by omega)]
  obtain ⟨R, hR⟩ : ∃ R, sgnI s.data.toList (p + 1) (2 ^ k) = R := ⟨_, rfl⟩
  rw [hR] at HV HN ⊢
  unfold SgnOr at HC
  obtain ⟨X, hX⟩ : ∃ X, sgnN (2 ^ k) (bigN s.data.toList (p + 1) (2 ^ k)) = X := ⟨_, rfl⟩
  rw [hX] at HV HC
  clear h hR hX hlen
  rcases (show k = 0 ∨ k = 1 ∨ k = 2 ∨ k = 3 by omega) with rfl | rfl | rfl | rfl
  · go_enter Tryz.func82, Tryz.ntmps82
    go_wp2_with fail
    refine HC.out.mono ?_
    rintro e w1 ⟨⟨rfl, hfit, hbr⟩ | ⟨rfl, hno⟩, hbt⟩
    · have HE := hideIt (HV.out hfit)
      have HB := hideIt hbr
      have HT := hideIt hbt
      clear hfit hbr hbt
      go_wp2_with fail
      go_ret
      exact .inl ⟨_, _, _, HE.out, rfl, (leafP f).2.2.1 X, HB.out, HT.out, by omega⟩
    · have HE := hideIt (HN.out hno)
      have HT := hideIt hbt
      clear hno hbt
      unfold gup
      go_wp2_with fail
      exact ⟨rfl, .inr ⟨HE.out, rfl, HT.out⟩⟩
  · go_enter Tryz.func82, Tryz.ntmps82
    go_wp2_with fail
    refine HC.out.mono ?_
    rintro e w1 ⟨⟨rfl, hfit, hbr⟩ | ⟨rfl, hno⟩, hbt⟩
    · have HE := hideIt (HV.out hfit)
      have HB := hideIt hbr
      have HT := hideIt hbt
      clear hfit hbr hbt
      go_wp2_with fail
      go_ret
      exact .inl ⟨_, _, _, HE.out, rfl, (leafP f).2.2.1 X, HB.out, HT.out, by omega⟩
    · have HE := hideIt (HN.out hno)
      have HT := hideIt hbt
      clear hno hbt
      unfold gup
      go_wp2_with fail
      exact ⟨rfl, .inr ⟨HE.out, rfl, HT.out⟩⟩
  · go_enter Tryz.func82, Tryz.ntmps82
    go_wp2_with fail
    refine HC.out.mono ?_
    rintro e w1 ⟨⟨rfl, hfit, hbr⟩ | ⟨rfl, hno⟩, hbt⟩
    · have HE := hideIt (HV.out hfit)
      have HB := hideIt hbr
      have HT := hideIt hbt
      clear hfit hbr hbt
      go_wp2_with fail
      go_ret
      exact .inl ⟨_, _, _, HE.out, rfl, (leafP f).2.2.1 X, HB.out, HT.out, by omega⟩
    · have HE := hideIt (HN.out hno)
      have HT := hideIt hbt
      clear hno hbt
      unfold gup
      go_wp2_with fail
      exact ⟨rfl, .inr ⟨HE.out, rfl, HT.out⟩⟩
  · go_enter Tryz.func82, Tryz.ntmps82
    go_wp2_with fail
    refine HC.out.mono ?_
    rintro e w1 ⟨⟨rfl, hfit, hbr⟩ | ⟨rfl, hno⟩, hbt⟩
    · have HE := hideIt (HV.out hfit)
      have HB := hideIt hbr
      have HT := hideIt hbt
      clear hfit hbr hbt
      go_wp2_with fail
      go_ret
      exact .inl ⟨_, _, _, HE.out, rfl, (leafP f).2.2.1 X, HB.out, HT.out, by omega⟩
    · have HE := hideIt (HN.out hno)
      have HT := hideIt hbt
      clear hno hbt
      unfold gup
      go_wp2_with fail
      exact ⟨rfl, .inr ⟨HE.out, rfl, HT.out⟩⟩
set_option maxRecDepth 100000 in
set_option maxHeartbeats 6400000 in
theorem plong_list {rb p f : Nat} {s : ByteArray} {w : World} (h : BrAt w rb s (p + 1)) (hs : s.size ≤ 4000) (hf : s.size < p + (f + 1)) (IH : GAll 41 s.data.toList (rdP s.data.toList f) f rb s) (k : Nat) (hk : k < 2) :
    Calls Tryz.prog 82 #[.pointer (some ⟨rb, 0, none⟩), .int .u8 ((220 + k : Nat) : Int)] w (ReadOr (rowV (rdP s.data.toList f) s.data.toList false (p + 1) (2 * 2 ^ k)) (f + 1) rb s p w) := by
  have HC := hideIt (pnumber_any h hs (2 * 2 ^ k) (by rcases (show k = 0 ∨ k = 1 by omega) with rfl | rfl <;> decide))
  have HV : Hid (∀ n q, numI s.data.toList (p + 1) (2 * 2 ^ k) = some (n, q) → rowV (rdP s.data.toList f) s.data.toList false (p + 1) (2 * 2 ^ k) = rowT (rdP s.data.toList f) false n q ∧ p < q) := fun n q hh => by
    refine ⟨by unfold rowV; rw [hh], ?_⟩
    unfold numI at hh
    split at hh
    · simp only [Option.some.injEq, Prod.mk.injEq] at hh; omega
    · cases hh
  have HN : Hid (numI s.data.toList (p + 1) (2 * 2 ^ k) = none → rowV (rdP s.data.toList f) s.data.toList false (p + 1) (2 * 2 ^ k) = none) := fun hh => by unfold rowV; rw [hh]
  have HI := hideIt (fun n q w (hb : BrAt w rb s q) (hq : p < q) (hn : n ≤ 1000000000000000) => readItems_any 41 s.data.toList (rdP s.data.toList f) f rb s IH (call_pread _) n q w hb (by omega) hn hs)
  obtain ⟨R, hR⟩ : ∃ R, rowV (rdP s.data.toList f) s.data.toList false (p + 1) (2 * 2 ^ k) = R := ⟨_, rfl⟩
  rw [hR] at HV HN ⊢
  clear h hR IH
  rcases (show k = 0 ∨ k = 1 by omega) with rfl | rfl
  · go_enter Tryz.func82, Tryz.ntmps82
    go_wp2_with fail
    refine HC.out.mono ?_
    rintro e w1 ⟨⟨n, q, hr, rfl, hbr, hn⟩ | ⟨hr, rfl⟩, hbt⟩
    · have HE := hideIt (HV.out n q hr)
      have HT := hideIt hbt
      have HCC := hideIt (HI.out n q w1 hbr HE.out.2 hn)
      clear hr hbr hbt
      go_wp2_with fail
      refine HCC.out.mono ?_
      intro e w3 hro
      have HRO := hideIt (hro.read (p := p) HT.out HE.out.2)
      rcases hro with ⟨t, q', x, _, rfl, _⟩ | ⟨_, rfl, _⟩
      · go_wp2_with fail
        go_ret
        rw [HE.out.1]
        exact HRO.out
      · unfold gup
        go_wp2_with fail
        refine ⟨rfl, ?_⟩
        rw [HE.out.1]
        exact HRO.out
    · have HE := hideIt (HN.out hr)
      have HT := hideIt hbt
      clear hr hbt
      unfold gup
      go_wp2_with fail
      exact ⟨rfl, .inr ⟨HE.out, rfl, HT.out⟩⟩
  · go_enter Tryz.func82, Tryz.ntmps82
    go_wp2_with fail
    refine HC.out.mono ?_
    rintro e w1 ⟨⟨n, q, hr, rfl, hbr, hn⟩ | ⟨hr, rfl⟩, hbt⟩
    · have HE := hideIt (HV.out n q hr)
      have HT := hideIt hbt
      have HCC := hideIt (HI.out n q w1 hbr HE.out.2 hn)
      clear hr hbr hbt
      go_wp2_with fail
      refine HCC.out.mono ?_
      intro e w3 hro
      have HRO := hideIt (hro.read (p := p) HT.out HE.out.2)
      rcases hro with ⟨t, q', x, _, rfl, _⟩ | ⟨_, rfl, _⟩
      · go_wp2_with fail
        go_ret
        rw [HE.out.1]
        exact HRO.out
      · unfold gup
        go_wp2_with fail
        refine ⟨rfl, ?_⟩
        rw [HE.out.1]
        exact HRO.out
    · have HE := hideIt (HN.out hr)
      have HT := hideIt hbt
      clear hr hbt
      unfold gup
      go_wp2_with fail
      exact ⟨rfl, .inr ⟨HE.out, rfl, HT.out⟩⟩
set_option maxRecDepth 100000 in
set_option maxHeartbeats 6400000 in
theorem plong_map {rb p f : Nat} {s : ByteArray} {w : World} (h : BrAt w rb s (p + 1)) (hs : s.size ≤ 4000) (hf : s.size < p + (f + 1)) (IH : GAll 41 s.data.toList (rdP s.data.toList f) f rb s) (k : Nat) (hk : k < 2) :
    Calls Tryz.prog 82 #[.pointer (some ⟨rb, 0, none⟩), .int .u8 ((222 + k : Nat) : Int)] w (ReadOr (rowV (rdP s.data.toList f) s.data.toList true (p + 1) (2 * 2 ^ k)) (f + 1) rb s p w) := by
  have HC := hideIt (pnumber_any h hs (2 * 2 ^ k) (by rcases (show k = 0 ∨ k = 1 by omega) with rfl | rfl <;> decide))
  have HV : Hid (∀ n q, numI s.data.toList (p + 1) (2 * 2 ^ k) = some (n, q) → rowV (rdP s.data.toList f) s.data.toList true (p + 1) (2 * 2 ^ k) = rowT (rdP s.data.toList f) true n q ∧ p < q) := fun n q hh => by
    refine ⟨by unfold rowV; rw [hh], ?_⟩
    unfold numI at hh
    split at hh
    · simp only [Option.some.injEq, Prod.mk.injEq] at hh; omega
    · cases hh
  have HN : Hid (numI s.data.toList (p + 1) (2 * 2 ^ k) = none → rowV (rdP s.data.toList f) s.data.toList true (p + 1) (2 * 2 ^ k) = none) := fun hh => by unfold rowV; rw [hh]
  have HI := hideIt (fun n q w (hb : BrAt w rb s q) (hq : p < q) (hn : n ≤ 1000000000000000) => readPairs_any 41 s.data.toList (rdP s.data.toList f) f rb s IH (rdP_full s.data.toList f) (fun p t q z h hz => by have := rdP_text s.data.toList f p t q z h hz; have := len_is s; omega) (call_pread _) n q w hb (by omega) hn hs)
  obtain ⟨R, hR⟩ : ∃ R, rowV (rdP s.data.toList f) s.data.toList true (p + 1) (2 * 2 ^ k) = R := ⟨_, rfl⟩
  rw [hR] at HV HN ⊢
  clear h hR IH
  rcases (show k = 0 ∨ k = 1 by omega) with rfl | rfl
  · go_enter Tryz.func82, Tryz.ntmps82
    go_wp2_with fail
    refine HC.out.mono ?_
    rintro e w1 ⟨⟨n, q, hr, rfl, hbr, hn⟩ | ⟨hr, rfl⟩, hbt⟩
    · have HE := hideIt (HV.out n q hr)
      have HT := hideIt hbt
      have HCC := hideIt (HI.out n q w1 hbr HE.out.2 hn)
      clear hr hbr hbt
      go_wp2_with fail
      refine HCC.out.mono ?_
      intro e w3 hro
      have HRO := hideIt (hro.read (p := p) HT.out HE.out.2)
      rcases hro with ⟨t, q', x, _, rfl, _⟩ | ⟨_, rfl, _⟩
      · go_wp2_with fail
        go_ret
        rw [HE.out.1]
        exact HRO.out
      · unfold gup
        go_wp2_with fail
        refine ⟨rfl, ?_⟩
        rw [HE.out.1]
        exact HRO.out
    · have HE := hideIt (HN.out hr)
      have HT := hideIt hbt
      clear hr hbt
      unfold gup
      go_wp2_with fail
      exact ⟨rfl, .inr ⟨HE.out, rfl, HT.out⟩⟩
  · go_enter Tryz.func82, Tryz.ntmps82
    go_wp2_with fail
    refine HC.out.mono ?_
    rintro e w1 ⟨⟨n, q, hr, rfl, hbr, hn⟩ | ⟨hr, rfl⟩, hbt⟩
    · have HE := hideIt (HV.out n q hr)
      have HT := hideIt hbt
      have HCC := hideIt (HI.out n q w1 hbr HE.out.2 hn)
      clear hr hbr hbt
      go_wp2_with fail
      refine HCC.out.mono ?_
      intro e w3 hro
      have HRO := hideIt (hro.read (p := p) HT.out HE.out.2)
      rcases hro with ⟨t, q', x, _, rfl, _⟩ | ⟨_, rfl, _⟩
      · go_wp2_with fail
        go_ret
        rw [HE.out.1]
        exact HRO.out
      · unfold gup
        go_wp2_with fail
        refine ⟨rfl, ?_⟩
        rw [HE.out.1]
        exact HRO.out
    · have HE := hideIt (HN.out hr)
      have HT := hideIt hbt
      clear hr hbt
      unfold gup
      go_wp2_with fail
      exact ⟨rfl, .inr ⟨HE.out, rfl, HT.out⟩⟩
end Go.Proofs.YtokhindolimchaaGreat
