/-
  The program's jsonReader: a value, and the blanks around it.
-/
import Derived.Test.YtagcgnhpdmhegaaJrZ
import Derived.Test.YtagcgnhpdmhegaaBrM
import Derived.Test.YtagcgnhpdmhegaaRd4
import Derived.Test.YtagcgnhpdmhegaaJrF
import Derived.Test.YtagcgnhpdmhegaaSAdd
namespace Go.Proofs.Ytagcgnhpdmhegaa
open Go.RowKit
set_option linter.unusedSimpArgs false
set_option linter.unusedVariables false

theorem noWord {L : List UInt8} {p : Nat} {c : UInt8} {u : List UInt8} (h : byAt L p ≠ c.toNat) : wordAt L p (c :: u) = false := by
  cases e : wordAt L p (c :: u) with
  | false => rfl
  | true => exact absurd (isAt_yes.1 (wordAt_first e)).2 h
theorem noAt {L : List UInt8} {p c : Nat} (h : byAt L p ≠ c) : isAt L p c = false := isAt_no.2 (fun e => h e.2)
theorem atOf {L : List UInt8} {p c : Nat} (h : byAt L p = c) (hc : 0 < c) : isAt L p c = true := isAt_yes.2 ⟨by
  by_cases hp : p < L.length
  · exact hp
  · rw [byAt_past (by omega)] at h; omega, h⟩
theorem numJ_no {L : List UInt8} {p : Nat} (h1 : byAt L p ≠ 45) (h2 : digC (byAt L p) = false) : numJ L p = none := by
  have e : numAt L p = p := by unfold numAt; rw [noAt h1]; simp
  unfold numJ
  rw [e, if_pos (.inl (runJ_no (fun h => by rw [h2] at h; cases h.2)))]
theorem readJ_n {L : List UInt8} {R : Nat → Option (VT × Nat)} {p : Nat} (h : byAt L p = 110) : readJ L R p = if wordAt L p nullW = true then some (nullT, p + 4) else none := by
  unfold readJ
  rw [show wordAt L p trueW = false from noWord (by rw [h]; decide), show wordAt L p falseW = false from noWord (by rw [h]; decide), noAt (c := 34) (by omega), noAt (c := 91) (by omega), noAt (c := 123) (by omega), numJ_no (by omega) (by rw [h]; rfl)]
  rfl
theorem readJ_t {L : List UInt8} {R : Nat → Option (VT × Nat)} {p : Nat} (h : byAt L p = 116) : readJ L R p = if wordAt L p trueW = true then some (boolT 1, p + 4) else none := by
  unfold readJ
  rw [show wordAt L p nullW = false from noWord (by rw [h]; decide), show wordAt L p falseW = false from noWord (by rw [h]; decide), noAt (c := 34) (by omega), noAt (c := 91) (by omega), noAt (c := 123) (by omega), numJ_no (by omega) (by rw [h]; rfl)]
  rfl
theorem readJ_f {L : List UInt8} {R : Nat → Option (VT × Nat)} {p : Nat} (h : byAt L p = 102) : readJ L R p = if wordAt L p falseW = true then some (boolT 0, p + 5) else none := by
  unfold readJ
  rw [show wordAt L p nullW = false from noWord (by rw [h]; decide), show wordAt L p trueW = false from noWord (by rw [h]; decide), noAt (c := 34) (by omega), noAt (c := 91) (by omega), noAt (c := 123) (by omega), numJ_no (by omega) (by rw [h]; rfl)]
  rfl
theorem readJ_q {L : List UInt8} {R : Nat → Option (VT × Nat)} {p : Nat} (h : byAt L p = 34) : readJ L R p = (txJ L (p + 1)).map (fun y => (wordT (txt y.1), y.2)) := by
  unfold readJ
  rw [show wordAt L p nullW = false from noWord (by rw [h]; decide), show wordAt L p trueW = false from noWord (by rw [h]; decide), show wordAt L p falseW = false from noWord (by rw [h]; decide), atOf h (by omega)]
  simp only [Bool.false_eq_true, if_false, if_true]
  cases txJ L (p + 1) <;> rfl
theorem readJ_l {L : List UInt8} {R : Nat → Option (VT × Nat)} {p : Nat} (h : byAt L p = 91) : readJ L R p = listJ L R (p + 1) := by
  unfold readJ
  rw [show wordAt L p nullW = false from noWord (by rw [h]; decide), show wordAt L p trueW = false from noWord (by rw [h]; decide), show wordAt L p falseW = false from noWord (by rw [h]; decide), noAt (c := 34) (by omega), atOf h (by omega)]
  simp only [Bool.false_eq_true, if_false, if_true]
theorem readJ_m {L : List UInt8} {R : Nat → Option (VT × Nat)} {p : Nat} (h : byAt L p = 123) : readJ L R p = mapJ L R (p + 1) := by
  unfold readJ
  rw [show wordAt L p nullW = false from noWord (by rw [h]; decide), show wordAt L p trueW = false from noWord (by rw [h]; decide), show wordAt L p falseW = false from noWord (by rw [h]; decide), noAt (c := 34) (by omega), noAt (c := 91) (by omega), atOf h (by omega)]
  simp only [Bool.false_eq_true, if_false, if_true]
theorem readJ_d {L : List UInt8} {R : Nat → Option (VT × Nat)} {p : Nat} (h1 : byAt L p ≠ 110) (h2 : byAt L p ≠ 116) (h3 : byAt L p ≠ 102) (h4 : byAt L p ≠ 34) (h5 : byAt L p ≠ 91) (h6 : byAt L p ≠ 123) : readJ L R p = (numJ L p).map (fun y => (numT y.1, y.2)) := by
  unfold readJ
  rw [show wordAt L p nullW = false from noWord h1, show wordAt L p trueW = false from noWord h2, show wordAt L p falseW = false from noWord h3, noAt h4, noAt h5, noAt h6]
  simp only [Bool.false_eq_true, if_false, if_true]
  cases numJ L p <;> rfl
theorem JOr.from {r : Option (VT × Nat)} {f rb p : Nat} {s : ByteArray} {w w1 w' : World} {e : Ending} (h : JOr r f rb s p w1 e w') (hb : But rb w w1) : JOr r f rb s p w e w' := by
  obtain ⟨⟨t, q, x, z, h1, h2, h3, h4⟩ | h, h5⟩ := h
  · exact ⟨.inl ⟨t, q, x, z, h1, h2, h3.keep (fun b _ => rfl) (fun b hb' => ⟨Nat.le_trans hb.size hb'.1, hb'.2⟩), h4⟩, hb.trans h5⟩
  · exact ⟨.inr h, hb.trans h5⟩

set_option maxRecDepth 100000 in
set_option maxHeartbeats 6400000 in
theorem read_any {f rb p : Nat} {s : ByteArray} {w : World} (hA : AroundAll f rb s) (h : SrAt w rb s p) (hs : s.size ≤ 4000) (hf : s.size < p + 1 + f) :
    Calls Try.prog 46 #[.pointer (some ⟨rb, 0, none⟩)] w (JOr (readJ s.data.toList (rdJ s.data.toList f) p) (f + 1) rb s p w) := by
  have H := hideB h
  have HA := hideIt hA
  have HP := hideB (peek_any h.br (by omega))
  obtain ⟨b, hb⟩ : ∃ b, byAt s.data.toList p = b := ⟨_, rfl⟩
  have HB := hideB hb
  rw [hb] at HP
  obtain ⟨V, hV⟩ : ∃ V, readJ s.data.toList (rdJ s.data.toList f) p = V := ⟨_, rfl⟩
  rw [hV]
  have HVV := hideB hV
  clear h hA hb hV
  by_cases c1 : b = 110
  · subst c1
    have HV : Hid (V = if wordAt s.data.toList p nullW = true then some (nullT, p + 4) else none) := by rw [Hid, ← HVV.out]; exact readJ_n HB.out
    go_enter Try.func46, Try.ntmps46
    go_wp2_with fail
    refine HP.out.mono ?_
    rintro e w1 ⟨rfl, hb1⟩
    have HB1 := hideB hb1
    have HC := hideB (readWord_any (H.out.below hb1) (by omega) ⟨#[110, 117, 108, 108]⟩ (by decide) (by simp))
    clear hb1
    go_wp2_with fail
    refine HC.out.mono ?_
    rintro e w2 ⟨⟨hw, rfl, hs2⟩ | ⟨hw, rfl⟩, hb2⟩
    · have HW : Hid (wordAt s.data.toList p nullW = true) := hw
      have HS2 := hideB hs2
      have HB2 := hideB ((But.of_below HB1.out).trans hb2)
      clear hw hs2 hb2
      go_wp2_with fail
      go_ret
      rw [HV.out, HW.out]
      exact ⟨.inl ⟨nullT, p + 4, _, p + 4, rfl, rfl, .inl ⟨rfl, rfl, rfl, rfl, rfl, rfl⟩, HS2.out, rfl, by omega⟩, HB2.out⟩
    · have HW : Hid (wordAt s.data.toList p nullW = false) := hw
      have HB2 := hideB ((But.of_below HB1.out).trans hb2)
      clear hw hb2
      unfold gup
      go_wp2_with fail
      rw [HV.out, HW.out]
      exact ⟨rfl, .inr ⟨rfl, rfl⟩, HB2.out⟩
  by_cases c2 : b = 102
  · subst c2
    have HV : Hid (V = if wordAt s.data.toList p falseW = true then some (boolT 0, p + 5) else none) := by rw [Hid, ← HVV.out]; exact readJ_f HB.out
    go_enter Try.func46, Try.ntmps46
    go_wp2_with fail
    refine HP.out.mono ?_
    rintro e w1 ⟨rfl, hb1⟩
    have HB1 := hideB hb1
    have HC := hideB (readWord_any (H.out.below hb1) (by omega) ⟨#[102, 97, 108, 115, 101]⟩ (by decide) (by simp))
    clear hb1
    go_wp2_with fail
    refine HC.out.mono ?_
    rintro e w2 ⟨⟨hw, rfl, hs2⟩ | ⟨hw, rfl⟩, hb2⟩
    · have HW : Hid (wordAt s.data.toList p falseW = true) := hw
      have HS2 := hideB hs2
      have HB2 := hideB ((But.of_below HB1.out).trans hb2)
      clear hw hs2 hb2
      go_wp2_with fail
      go_ret
      rw [HV.out, HW.out]
      exact ⟨.inl ⟨boolT 0, p + 5, _, p + 5, rfl, rfl, .inr (.inl ⟨rfl, rfl, rfl, rfl, rfl⟩), HS2.out, rfl, by omega⟩, HB2.out⟩
    · have HW : Hid (wordAt s.data.toList p falseW = false) := hw
      have HB2 := hideB ((But.of_below HB1.out).trans hb2)
      clear hw hb2
      unfold gup
      go_wp2_with fail
      rw [HV.out, HW.out]
      exact ⟨rfl, .inr ⟨rfl, rfl⟩, HB2.out⟩
  by_cases c3 : b = 116
  · subst c3
    have HV : Hid (V = if wordAt s.data.toList p trueW = true then some (boolT 1, p + 4) else none) := by rw [Hid, ← HVV.out]; exact readJ_t HB.out
    go_enter Try.func46, Try.ntmps46
    go_wp2_with fail
    refine HP.out.mono ?_
    rintro e w1 ⟨rfl, hb1⟩
    have HB1 := hideB hb1
    have HC := hideB (readWord_any (H.out.below hb1) (by omega) ⟨#[116, 114, 117, 101]⟩ (by decide) (by simp))
    clear hb1
    go_wp2_with fail
    refine HC.out.mono ?_
    rintro e w2 ⟨⟨hw, rfl, hs2⟩ | ⟨hw, rfl⟩, hb2⟩
    · have HW : Hid (wordAt s.data.toList p trueW = true) := hw
      have HS2 := hideB hs2
      have HB2 := hideB ((But.of_below HB1.out).trans hb2)
      clear hw hs2 hb2
      go_wp2_with fail
      go_ret
      rw [HV.out, HW.out]
      exact ⟨.inl ⟨boolT 1, p + 4, _, p + 4, rfl, rfl, .inr (.inl ⟨rfl, rfl, rfl, rfl, rfl⟩), HS2.out, rfl, by omega⟩, HB2.out⟩
    · have HW : Hid (wordAt s.data.toList p trueW = false) := hw
      have HB2 := hideB ((But.of_below HB1.out).trans hb2)
      clear hw hb2
      unfold gup
      go_wp2_with fail
      rw [HV.out, HW.out]
      exact ⟨rfl, .inr ⟨rfl, rfl⟩, HB2.out⟩
  by_cases c4 : b = 34
  · subst c4
    have HV : Hid (V = (txJ s.data.toList (p + 1)).map (fun y => (wordT (txt y.1), y.2))) := by rw [Hid, ← HVV.out]; exact readJ_q HB.out
    have HAT := hideB (atOf HB.out (by omega))
    go_enter Try.func46, Try.ntmps46
    go_wp2_with fail
    refine HP.out.mono ?_
    rintro e w1 ⟨rfl, hb1⟩
    have HB1 := hideB hb1
    have HC := hideB (readText_any (H.out.below hb1) hs)
    clear hb1
    go_wp2_with fail
    refine HC.out.mono ?_
    rintro e w2 ⟨⟨l, q, _, htx, rfl, hs2⟩ | ⟨hw, rfl⟩, hb2⟩
    · have HW := hideB htx
      have hpq : p ≤ q := by have := (txJ_says _ _ _ _ (Nat.le_refl _) htx).1; omega
      have HS2 := hideB hs2
      have HB2 := hideB ((But.of_below HB1.out).trans hb2)
      clear htx hs2 hb2
      go_wp2_with fail
      go_ret
      rw [HV.out, HW.out]
      exact ⟨.inl ⟨wordT (txt l), q, _, q, rfl, rfl, .inr (.inr (.inr (.inl ⟨rfl, rfl, rfl, rfl, rfl⟩))), HS2.out, rfl, hpq⟩, HB2.out⟩
    · have HW : Hid (txJ s.data.toList (p + 1) = none) := by
        rcases hw with h | h
        · rw [HAT.out] at h; cases h
        · exact h
      have HB2 := hideB ((But.of_below HB1.out).trans hb2)
      clear hw hb2
      unfold gup
      go_wp2_with fail
      rw [HV.out, HW.out]
      exact ⟨rfl, .inr ⟨rfl, rfl⟩, HB2.out⟩
  by_cases c5 : b = 91
  · subst c5
    have HV : Hid (listJ s.data.toList (rdJ s.data.toList f) (p + 1) = V) := by rw [Hid, ← HVV.out]; exact (readJ_l HB.out).symm
    have HAT := hideB (atOf HB.out (by omega))
    go_enter Try.func46, Try.ntmps46
    go_wp2_with fail
    refine HP.out.mono ?_
    rintro e w1 ⟨rfl, hb1⟩
    have HB1 := hideB hb1
    have HC := hideB (readList_any HA.out (H.out.below hb1) hs hf HAT.out)
    rw [HV.out] at HC
    clear hb1
    go_wp2_with fail
    refine HC.out.mono ?_
    intro e w2 hj
    have HJ := hideB (hj.from (But.of_below HB1.out))
    obtain ⟨⟨t, q, x, z, h1, rfl, h3, h4⟩ | ⟨h1, rfl⟩, h5⟩ := hj
    · obtain ⟨ty, xx, rfl⟩ := h3.iface
      clear h1 h3 h4 h5
      go_wp2_with fail
      go_ret
      exact HJ.out
    · clear h1 h5
      unfold gup at HJ ⊢
      go_wp2_with fail
      exact ⟨rfl, HJ.out⟩
  by_cases c6 : b = 123
  · subst c6
    have HV : Hid (mapJ s.data.toList (rdJ s.data.toList f) (p + 1) = V) := by rw [Hid, ← HVV.out]; exact (readJ_m HB.out).symm
    have HAT := hideB (atOf HB.out (by omega))
    go_enter Try.func46, Try.ntmps46
    go_wp2_with fail
    refine HP.out.mono ?_
    rintro e w1 ⟨rfl, hb1⟩
    have HB1 := hideB hb1
    have HC := hideB (readMap_any HA.out (H.out.below hb1) hs hf HAT.out)
    rw [HV.out] at HC
    clear hb1
    go_wp2_with fail
    refine HC.out.mono ?_
    intro e w2 hj
    have HJ := hideB (hj.from (But.of_below HB1.out))
    obtain ⟨⟨t, q, x, z, h1, rfl, h3, h4⟩ | ⟨h1, rfl⟩, h5⟩ := hj
    · obtain ⟨ty, xx, rfl⟩ := h3.iface
      clear h1 h3 h4 h5
      go_wp2_with fail
      go_ret
      exact HJ.out
    · clear h1 h5
      unfold gup at HJ ⊢
      go_wp2_with fail
      exact ⟨rfl, HJ.out⟩
  · have HV : Hid (V = (numJ s.data.toList p).map (fun y => (numT y.1, y.2))) := by rw [Hid, ← HVV.out]; exact readJ_d (by rw [HB.out]; exact c1) (by rw [HB.out]; exact c3) (by rw [HB.out]; exact c2) (by rw [HB.out]; exact c4) (by rw [HB.out]; exact c5) (by rw [HB.out]; exact c6)
    have d1 : ((b : Int) == 110) = false := by simp; omega
    have d2 : ((b : Int) == 102) = false := by simp; omega
    have d3 : ((b : Int) == 116) = false := by simp; omega
    have d4 : ((b : Int) == 34) = false := by simp; omega
    have d5 : ((b : Int) == 91) = false := by simp; omega
    have d6 : ((b : Int) == 123) = false := by simp; omega
    have e1 : ¬ (b : Int) = 110 := by omega
    have e2 : ¬ (b : Int) = 102 := by omega
    have e3 : ¬ (b : Int) = 116 := by omega
    have e4 : ¬ (b : Int) = 34 := by omega
    have e5 : ¬ (b : Int) = 91 := by omega
    have e6 : ¬ (b : Int) = 123 := by omega
    go_enter Try.func46, Try.ntmps46
    go_wp2_with fail
    refine HP.out.mono ?_
    rintro e w1 ⟨rfl, hb1⟩
    have HB1 := hideB hb1
    have HC := hideB (readNumber_any (H.out.below hb1) hs)
    clear hb1
    go_wp2_with fail
    refine HC.out.mono ?_
    rintro e w2 ⟨⟨v, q, hn, rfl, hs2⟩ | ⟨hn, rfl⟩, hb2⟩
    · have HW := hideB hn
      have hpq : p ≤ q := by have := (numJ_lt hn).1; omega
      have HS2 := hideB hs2
      have HB2 := hideB ((But.of_below HB1.out).trans hb2)
      clear hn hs2 hb2
      go_wp2_with fail
      go_ret
      rw [HV.out, HW.out]
      exact ⟨.inl ⟨numT v, q, _, q, rfl, rfl, .inr (.inr (.inl ⟨rfl, rfl, rfl, rfl, rfl⟩)), HS2.out, rfl, hpq⟩, HB2.out⟩
    · have HW := hideB hn
      have HB2 := hideB ((But.of_below HB1.out).trans hb2)
      clear hn hb2
      unfold gup
      go_wp2_with fail
      rw [HV.out, HW.out]
      exact ⟨rfl, .inr ⟨rfl, rfl⟩, HB2.out⟩
theorem rdJ_yes {L : List UInt8} {f p q : Nat} {t : VT} (h : readJ L (rdJ L f) (skipJ L p) = some (t, q)) : rdJ L (f + 1) p = some (t, skipJ L q) := by rw [rdJ, h]
theorem rdJ_no {L : List UInt8} {f p : Nat} (h : readJ L (rdJ L f) (skipJ L p) = none) : rdJ L (f + 1) p = none := by rw [rdJ, h]

set_option maxRecDepth 100000 in
set_option maxHeartbeats 3200000 in
theorem around_any {rb : Nat} {s : ByteArray} (hs : s.size ≤ 4000) : ∀ f, AroundAll f rb s := by
  intro f
  induction f with
  | zero => intro p w h hf; have := h.br.le; omega
  | succ f ih =>
    intro p w h hf
    have HIH := hideIt ih
    have HSK := hideB (skip_any h (by omega))
    have HK1 := hideB (runJ_ge blankC s.data.toList p)
    have hrb := h.br.lt
    clear h ih
    go_enter Try.func33, Try.ntmps33
    go_wp2_with fail
    refine HSK.out.mono ?_
    rintro e w1 ⟨rfl, hs1, hb1⟩
    have HB1 := hideB hb1
    have HC := hideIt (read_any HIH.out hs1 hs (by have a1 : p ≤ skipJ s.data.toList p := HK1.out; omega))
    clear hs1 hb1
    go_wp2_with fail
    refine HC.out.mono ?_
    intro e w2 hj
    obtain ⟨⟨t, q, x, z, h1, rfl, h3, h4, h5, h6⟩ | ⟨h1, rfl⟩, hb2⟩ := hj.from HB1.out
    · obtain ⟨ty, xx, rfl⟩ := h3.iface
      have HR := hideIt (rdJ_yes h1)
      have HT := hideIt h3
      have HZ := hideIt h5
      have HB2 := hideIt hb2
      have HL : Hid (p ≤ z) := by have a1 : p ≤ skipJ s.data.toList p := HK1.out; exact Nat.le_trans a1 h6
      have HSK2 := hideB (skip_any h4 (by omega))
      have HK2 := hideB (runJ_ge blankC s.data.toList z)
      clear h1 h3 h4 h5 h6 hb2 hj
      go_wp2_with fail
      refine HSK2.out.mono ?_
      rintro e w3 ⟨rfl, hs3, hb3⟩
      have HS3 : Hid (SrAt w3 rb s (skipJ s.data.toList q)) := by rw [Hid, ← HZ.out]; exact hs3
      have HB3 := hideIt (HB2.out.trans hb3)
      have HL2 : Hid (p ≤ skipJ s.data.toList q) := by rw [Hid, ← HZ.out]; exact Nat.le_trans HL.out HK2.out
      have HT3 : Hid (TreeP (NewB w w3) w3 (f + 1) t (.iface ty xx)) := HT.out.keep (fun b hb' => hb3.block b hb'.2 (by have := hb'.1; omega)) (fun b hb' => ⟨hb'.1, Nat.lt_of_lt_of_le hb'.2 hb3.size⟩)
      clear hs3 hb3
      go_wp2_with fail
      go_ret
      exact ⟨.inl ⟨t, _, _, HR.out, rfl, HT3.out, HS3.out, HL2.out⟩, HB3.out⟩
    · have HR := hideIt (rdJ_no h1)
      have HB2 := hideIt hb2
      clear h1 hb2 hj
      unfold gup
      go_wp2_with fail
      exact ⟨rfl, .inr ⟨HR.out, rfl⟩, HB2.out⟩
end Go.Proofs.Ytagcgnhpdmhegaa

/-
  What turns giving up into false: unlessGivenUp at a reading that hands back a value.
-/
namespace Go.Proofs.Ytagcgnhpdmhegaa
open Go.RowKit
set_option linter.unusedSimpArgs false
set_option linter.unusedVariables false

theorem catchV_gave (q : Addr) (x : Bool) (w : World) (hc : w.cell? q = some (.bool x)) (hz : w.frozen? q = false) :
    CallsD Try.prog 44 #[.pointer (some q)] (.panicking [{ v := .iface 65 (.agg #[]), recovered := false }]) w fun e u' w' =>
      e = .returned (.tuple #[]) ∧ u' = .panicking [{ v := .iface 65 (.agg #[]), recovered := true }] ∧ w' = w.setCell q (.bool false) := by
  refine callsD_of_wpS Try.func44 rfl fun c₀ cs hu => ?_
  apply wpS_seq
  apply wpS_region
  simp [wpOpsS, go_sem, recoverD, hu, Try.ntmps44, Exit.thenS]
  refine wpS_cond (t := true) (by simp [Act.eval, Array.replicate]) ?_
  simp only [if_true]
  apply wpS_region
  simp [wpOpsS, go_sem, hc, hz, bodyPostS, results, Try.results44]

theorem catchV_idle (q : Addr) (w : World) :
    CallsD Try.prog 44 #[.pointer (some q)] .returning w fun e u' w' => e = .returned (.tuple #[]) ∧ u' = .returning ∧ w' = w := by
  refine callsD_of_wpS Try.func44 rfl fun c₀ cs hu => ?_
  apply wpS_seq
  apply wpS_region
  simp [wpOpsS, go_sem, recoverD, hu, Try.ntmps44, Exit.thenS]
  refine wpS_cond (t := false) (by simp [Act.eval, Array.replicate]) ?_
  simp only [Bool.false_eq_true, if_false]
  refine wpS_of_wp (wp_skip ?_)
  cases c₀
  simp_all [bodyPostS, results, Try.results44]

set_option maxRecDepth 100000 in
set_option maxHeartbeats 1600000 in
theorem unlessV_yes (G : FuncId) (x : Value) (w : World) (Z : Value → World → Prop) (hcf : ∀ w, (callFunc G #[x]).run Try.prog w = .ok (.enter G #[x]) w)
    (hc : Calls Try.prog G #[x] (w.alloc (.cells #[.bool false] 4)) fun e w' => ∃ v, e = .returned v ∧ Z v w')
    (hZ : ∀ v w', Z v w' → w'.cell? ⟨w.heap.size, 0, none⟩ = some (.bool false) ∧ w'.frozen? ⟨w.heap.size, 0, none⟩ = false) :
    Calls Try.prog 31 #[.func (.func G) #[x] #[]] w fun e w' => ∃ v, e = .returned (.tuple #[v, .bool true]) ∧ ∃ w1, Z v w1 ∧ w' = w1.setCell ⟨w.heap.size, 0, none⟩ (.bool true) := by
  have hmf : ∀ (fn : Fn) (first cap : Array Value) (w : World), (Instr.makeFunc fn first cap).run Try.prog w = .ok (.func fn first cap) w := fun _ _ _ _ => rfl
  go_enter_defers Try.func31, Try.ntmps31
  go_wp2_with fail
  refine hc.mono ?_
  rintro e w1 ⟨v, rfl, hz⟩
  obtain ⟨c1, f1⟩ := hZ v w1 hz
  go_wp2_with fail
  refine leaves_cons (f := 44) (args := #[.pointer (some ⟨w.heap.size, 0, none⟩)]) (by simp) (by simp [go_sem]) ?_
  refine (catchV_idle ⟨w.heap.size, 0, none⟩ _).mono ?_
  rintro e u' w'' ⟨rfl, rfl, rfl⟩
  have c2 : (w1.setCell ⟨w.heap.size, 0, none⟩ (.bool true)).cell? ⟨w.heap.size, 0, none⟩ = some (.bool true) := World.cell?_setCell_same _ _ _ c1
  simp [Leaves, settle, results, Try.results31, go_sem, c2]
  exact ⟨w1, hz, rfl⟩

set_option maxRecDepth 100000 in
set_option maxHeartbeats 1600000 in
theorem unlessV_no (G : FuncId) (x : Value) (w : World) (Z : World → Prop) (hcf : ∀ w, (callFunc G #[x]).run Try.prog w = .ok (.enter G #[x]) w)
    (hc : Calls Try.prog G #[x] (w.alloc (.cells #[.bool false] 4)) fun e w' => e = gup ∧ Z w')
    (hZ : ∀ w', Z w' → w'.cell? ⟨w.heap.size, 0, none⟩ = some (.bool false) ∧ w'.frozen? ⟨w.heap.size, 0, none⟩ = false) :
    Calls Try.prog 31 #[.func (.func G) #[x] #[]] w fun e w' => e = .returned (.tuple #[.nilIface, .bool false]) ∧ ∃ w1, Z w1 ∧ w' = w1.setCell ⟨w.heap.size, 0, none⟩ (.bool false) := by
  have hmf : ∀ (fn : Fn) (first cap : Array Value) (w : World), (Instr.makeFunc fn first cap).run Try.prog w = .ok (.func fn first cap) w := fun _ _ _ _ => rfl
  go_enter_defers Try.func31, Try.ntmps31
  go_wp2_with fail
  refine hc.mono ?_
  rintro e w1 ⟨rfl, hz⟩
  obtain ⟨c1, f1⟩ := hZ w1 hz
  unfold gup
  go_wp2_with fail
  refine leaves_cons (f := 44) (args := #[.pointer (some ⟨w.heap.size, 0, none⟩)]) (by simp) (by simp [go_sem]) ?_
  refine (catchV_gave ⟨w.heap.size, 0, none⟩ false _ c1 f1).mono ?_
  rintro e u' w'' ⟨rfl, rfl, rfl⟩
  have c2 : (w1.setCell ⟨w.heap.size, 0, none⟩ (.bool false)).cell? ⟨w.heap.size, 0, none⟩ = some (.bool false) := World.cell?_setCell_same _ _ _ c1
  simp [Leaves, settle, results, Try.results31, go_sem, c2]
  exact ⟨w1, hz, rfl⟩
end Go.Proofs.Ytagcgnhpdmhegaa

/-
  The program's readFront, over whatever reads a value.
-/
namespace Go.Proofs.Ytagcgnhpdmhegaa
open Go.RowKit
set_option linter.unusedSimpArgs false
set_option linter.unusedVariables false

/-- What is read of a text, and how much of it. -/
def frontV (L : List UInt8) (r : Option (VT × Nat)) : Option (List VN × Nat) := if 4000 < L.length then none else okOf (L.length + 1) r
def nsOf (r : Option (List VN × Nat)) : List VN := match r with
  | none => []
  | some (ns, _) => ns
def usedOf (r : Option (List VN × Nat)) : Nat := match r with
  | none => 0
  | some (_, q) => q

end Go.Proofs.Ytagcgnhpdmhegaa
