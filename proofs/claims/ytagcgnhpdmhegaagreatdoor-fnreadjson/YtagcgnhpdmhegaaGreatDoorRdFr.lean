/-
  The program's jsonReader: a value, and the blanks around it.
-/
import Derived.Test.YtagcgnhpdmhegaaGreatDoorJrZ
import Derived.Test.YtagcgnhpdmhegaaGreatDoorRdN
import Derived.Test.YtagcgnhpdmhegaaGreatDoorCbY
import Derived.Test.YtagcgnhpdmhegaaGreatDoorJrS
import Derived.Test.YtagcgnhpdmhegaaGreatDoorMapP
namespace Go.Proofs.YtagcgnhpdmhegaaGreatDoor
open Go.RowKit
set_option linter.unusedSimpArgs false
set_option linter.unusedVariables false

theorem noWord {L : List UInt8} {p : Nat} {c : UInt8} {u : List UInt8} (h : byAt L p ≠ c.toNat) : wordAt L p (c :: u) = false := by
  cases e : wordAt L p (c :: u) with
  | false => rfl
  | true => exact absurd (isAt_yes.1 (wordAt_first e)).2 h
theorem noAt {L : List UInt8} {p c : Nat} (h : byAt L p ≠ c) : isAt L p c = false := isAt_no.2 (fun e => h e.2)
theorem atOf {L : List UInt8} {p c : Nat} (h : byAt L p = c) (hc : 0 < c) : isAt L p c = true := isAt_yes.2 ⟨by
  by_cases hp : p < L.length
  · exact hp
  · rw [byAt_past (by omega)] at h; omega, h⟩
theorem numJ_no {L : List UInt8} {p : Nat} (h1 : byAt L p ≠ 45) (h2 : digC (byAt L p) = false) : numJ L p = none := by
  have e : numAt L p = p := by unfold numAt; rw [noAt h1]; simp
  unfold numJ
  rw [e, if_pos (.inl (runJ_no (fun h => by rw [h2] at h; cases h.2)))]
theorem readJ_n {L : List UInt8} {R : Nat → Option (VT × Nat)} {p : Nat} (h : byAt L p = 110) : readJ L R p = if wordAt L p nullW = true then some (nullT, p + 4) else none := by
  unfold readJ
  rw [show wordAt L p trueW = false from noWord (by rw [h]; decide), show wordAt L p falseW = false from noWord (by rw [h]; decide), noAt (c := 34) (by omega), noAt (c := 91) (by omega), noAt (c := 123) (by omega), numJ_no (by omega) (by rw [h]; rfl)]
  rfl
theorem readJ_t {L : List UInt8} {R : Nat → Option (VT × Nat)} {p : Nat} (h : byAt L p = 116) : readJ L R p = if wordAt L p trueW = true then some (boolT 1, p + 4) else none := by
  unfold readJ
  rw [show wordAt L p nullW = false from noWord (by rw [h]; decide), show wordAt L p falseW = false from noWord (by rw [h]; decide), noAt (c := 34) (by omega), noAt (c := 91) (by omega), noAt (c := 123) (by omega), numJ_no (by omega) (by rw [h]; rfl)]
  rfl
theorem readJ_f {L : List UInt8} {R : Nat → Option (VT × Nat)} {p : Nat} (h : byAt L p = 102) : readJ L R p = if wordAt L p falseW = true then some (boolT 0, p + 5) else none := by
  unfold readJ
  rw [show wordAt L p nullW = false from noWord (by rw [h]; decide), show wordAt L p trueW = false from noWord (by rw [h]; decide), noAt (c := 34) (by omega), noAt (c := 91) (by omega), noAt (c := 123) (by omega), numJ_no (by omega) (by rw [h]; rfl)]
  rfl
theorem readJ_q {L : List UInt8} {R : Nat → Option (VT × Nat)} {p : Nat} (h : byAt L p = 34) : readJ L R p = (txJ L (p + 1)).map (fun y => (wordT (txt y.1), y.2)) := by
  unfold readJ
  rw [show wordAt L p nullW = false from noWord (by rw [h]; decide), show wordAt L p trueW = false from noWord (by rw [h]; decide), show wordAt L p falseW = false from noWord (by rw [h]; decide), atOf h (by omega)]
  simp only [Bool.false_eq_true, if_false, if_true]
  cases txJ L (p + 1) <;> rfl
theorem readJ_l {L : List UInt8} {R : Nat → Option (VT × Nat)} {p : Nat} (h : byAt L p = 91) : readJ L R p = listJ L R (p + 1) := by
  unfold readJ
  rw [show wordAt L p nullW = false from noWord (by rw [h]; decide), show wordAt L p trueW = false from noWord (by rw [h]; decide), show wordAt L p falseW = false from noWord (by rw [h]; decide), noAt (c := 34) (by omega), atOf h (by omega)]
  simp only [Bool.false_eq_true, if_false, if_true]
theorem readJ_m {L : List UInt8} {R : Nat → Option (VT × Nat)} {p : Nat} (h : byAt L p = 123) : readJ L R p = mapJ L R (p + 1) := by
  unfold readJ
  rw [show wordAt L p nullW = false from noWord (by rw [h]; decide), show wordAt L p trueW = false from noWord (by rw [h]; decide), show wordAt L p falseW = false from noWord (by rw [h]; decide), noAt (c := 34) (by omega), noAt (c := 91) (by omega), atOf h (by omega)]
  simp only [Bool.false_eq_true, if_false, if_true]
theorem readJ_d {L : List UInt8} {R : Nat → Option (VT × Nat)} {p : Nat} (h1 : byAt L p ≠ 110) (h2 : byAt L p ≠ 116) (h3 : byAt L p ≠ 102) (h4 : byAt L p ≠ 34) (h5 : byAt L p ≠ 91) (h6 : byAt L p ≠ 123) : readJ L R p = (numJ L p).map (fun y => (numT y.1, y.2)) := by
  unfold readJ
  rw [show wordAt L p nullW = false from noWord h1, show wordAt L p trueW = false from noWord h2, show wordAt L p falseW = false from noWord h3, noAt h4, noAt h5, noAt h6]
  simp only [Bool.false_eq_true, if_false, if_true]
  cases numJ L p <;> rfl
theorem JOr.from {r : Option (VT × Nat)} {f rb p : Nat} {s : ByteArray} {w w1 w' : World} {e : Ending} (h : JOr r f rb s p w1 e w') (hb : But rb w w1) : JOr r f rb s p w e w' := by
  obtain ⟨⟨t, q, x, z, h1, h2, h3, h4⟩ | h, h5⟩ := h
  · exact ⟨.inl ⟨t, q, x, z, h1, h2, h3.keep (fun b _ => rfl) (fun b hb' => ⟨Nat.le_trans hb.size hb'.1, hb'.2⟩), h4⟩, hb.trans h5⟩
  · exact ⟨.inr h, hb.trans h5⟩

set_option maxRecDepth 100000 in
set_option maxHeartbeats 6400000 in
theorem read_any {f rb p : Nat} {s : ByteArray} {w : World} (hA : AroundAll f rb s) (h : SrAt w rb s p) (hs : s.size ≤ 4000) (hf : s.size < p + 1 + f) :
    Calls Tryz.prog 83 #[.pointer (some ⟨rb, 0, none⟩)] w (JOr (readJ s.data.toList (rdJ s.data.toList f) p) (f + 1) rb s p w) := by
  have H := hideB h
  have HA := hideIt hA
  have HP := hideB (peek_any h.br (by omega))
  obtain ⟨b, hb⟩ : ∃ b, byAt s.data.toList p = b := ⟨_, rfl⟩
  have HB := hideB hb
  rw [hb] at HP
  obtain ⟨V, hV⟩ : ∃ V, readJ s.data.toList (rdJ s.data.toList f) p = V := ⟨_, rfl⟩
  rw [hV]
  have HVV := hideB hV
  clear h hA hb hV
  by_cases c1 : b = 110
  · subst c1
    have HV : Hid (V = if wordAt s.data.toList p nullW = true then some (nullT, p + 4) else none) := by rw [Hid, ← HVV.out]; exact readJ_n HB.out
    go_enter Tryz.func83, Tryz.ntmps83
    go_wp2_with fail
    refine HP.out.mono ?_
    rintro e w1 ⟨rfl, hb1⟩
    have HB1 := hideB hb1
    have HC := hideB (readWord_any (H.out.below hb1) (by omega) ⟨#[110, 117, 108, 108]⟩ (by decide) (by simp))
    clear hb1
    go_wp2_with fail
    refine HC.out.mono ?_
    rintro e w2 ⟨⟨hw, rfl, hs2⟩ | ⟨hw, rfl⟩, hb2⟩
    · have HW : Hid (wordAt s.data.toList p nullW = true) := hw
      have HS2 := hideB hs2
      have HB2 := hideB ((But.of_below HB1.out).trans hb2)
      clear hw hs2 hb2
      go_wp2_with fail
      go_ret
      rw [HV.out, HW.out]
      exact ⟨.inl ⟨nullT, p + 4, _, p + 4, rfl, rfl, .inl ⟨rfl, rfl, rfl, rfl, rfl, rfl⟩, HS2.out, rfl, by omega⟩, HB2.out⟩
    · have HW : Hid (wordAt s.data.toList p nullW = false) := hw
      have HB2 := hideB ((But.of_below HB1.out).trans hb2)
      clear hw hb2
      unfold gup
      go_wp2_with fail
      rw [HV.out, HW.out]
      exact ⟨rfl, .inr ⟨rfl, rfl⟩, HB2.out⟩
  by_cases c2 : b = 102
  · subst c2
    have HV : Hid (V = if wordAt s.data.toList p falseW = true then some (boolT 0, p + 5) else none) := by rw [Hid, ← HVV.out]; exact readJ_f HB.out
    go_enter Tryz.func83, Tryz.ntmps83
    go_wp2_with fail
    refine HP.out.mono ?_
    rintro e w1 ⟨rfl, hb1⟩
    have HB1 := hideB hb1
    have HC := hideB (readWord_any (H.out.below hb1) (by omega) ⟨#[102, 97, 108, 115, 101]⟩ (by decide) (by simp))
    clear hb1
    go_wp2_with fail
    refine HC.out.mono ?_
    rintro e w2 ⟨⟨hw, rfl, hs2⟩ | ⟨hw, rfl⟩, hb2⟩
    · have HW : Hid (wordAt s.data.toList p falseW = true) := hw
      have HS2 := hideB hs2
      have HB2 := hideB ((But.of_below HB1.out).trans hb2)
      clear hw hs2 hb2
      go_wp2_with fail
      go_ret
      rw [HV.out, HW.out]
      exact ⟨.inl ⟨boolT 0, p + 5, _, p + 5, rfl, rfl, .inr (.inl ⟨rfl, rfl, rfl, rfl, rfl⟩), HS2.out, rfl, by omega⟩, HB2.out⟩
    · have HW : Hid (wordAt s.data.toList p falseW = false) := hw
      have HB2 := hideB ((But.of_below HB1.out).trans hb2)
      clear hw hb2
      unfold gup
      go_wp2_with fail
      rw [HV.out, HW.out]
      exact ⟨rfl, .inr ⟨rfl, rfl⟩, HB2.out⟩
  by_cases c3 : b = 116
  · subst c3
    have HV : Hid (V = if wordAt s.data.toList p trueW = true then some (boolT 1, p + 4) else none) := by rw [Hid, ← HVV.out]; exact readJ_t HB.out
    go_enter Tryz.func83, Tryz.ntmps83
    go_wp2_with fail
    refine HP.out.mono ?_
    rintro e w1 ⟨rfl, hb1⟩
    have HB1 := hideB hb1
    have HC := hideB (readWord_any (H.out.below hb1) (by omega) ⟨#[116, 114, 117, 101]⟩ (by decide) (by simp))
    clear hb1
    go_wp2_with fail
    refine HC.out.mono ?_
    rintro e w2 ⟨⟨hw, rfl, hs2⟩ | ⟨hw, rfl⟩, hb2⟩
    · have HW : Hid (wordAt s.data.toList p trueW = true) := hw
      have HS2 := hideB hs2
      have HB2 := hideB ((But.of_below HB1.out).trans hb2)
      clear hw hs2 hb2
      go_wp2_with fail
      go_ret
      rw [HV.out, HW.out]
      exact ⟨.inl ⟨boolT 1, p + 4, _, p + 4, rfl, rfl, .inr (.inl ⟨rfl, rfl, rfl, rfl, rfl⟩), HS2.out, rfl, by omega⟩, HB2.out⟩
    · have HW : Hid (wordAt s.data.toList p trueW = false) := hw
      have HB2 := hideB ((But.of_below HB1.out).trans hb2)
      clear hw hb2
      unfold gup
      go_wp2_with fail
      rw [HV.out, HW.out]
      exact ⟨rfl, .inr ⟨rfl, rfl⟩, HB2.out⟩
  by_cases c4 : b = 34
  · subst c4
    have HV : Hid (V = (txJ s.data.toList (p + 1)).map (fun y => (wordT (txt y.1), y.2))) := by rw [Hid, ← HVV.out]; exact readJ_q HB.out
    have HAT := hideB (atOf HB.out (by omega))
    go_enter Tryz.func83, Tryz.ntmps83
    go_wp2_with fail
    refine HP.out.mono ?_
    rintro e w1 ⟨rfl, hb1⟩
    have HB1 := hideB hb1
    have HC := hideB (readText_any (H.out.below hb1) hs)
    clear hb1
    go_wp2_with fail
    refine HC.out.mono ?_
    rintro e w2 ⟨⟨l, q, _, htx, rfl, hs2⟩ | ⟨hw, rfl⟩, hb2⟩
    · have HW := hideB htx
      have hpq : p ≤ q := by have := (txJ_says _ _ _ _ (Nat.le_refl _) htx).1; omega
      have HS2 := hideB hs2
      have HB2 := hideB ((But.of_below HB1.out).trans hb2)
      clear htx hs2 hb2
      go_wp2_with fail
      go_ret
      rw [HV.out, HW.out]
      exact ⟨.inl ⟨wordT (txt l), q, _, q, rfl, rfl, .inr (.inr (.inr (.inl ⟨rfl, rfl, rfl, rfl, rfl⟩))), HS2.out, rfl, hpq⟩, HB2.out⟩
    · have HW : Hid (txJ s.data.toList (p + 1) = none) := by
        rcases hw with h | h
        · rw [HAT.out] at h; cases h
        · exact h
      have HB2 := hideB ((But.of_below HB1.out).trans hb2)
      clear hw hb2
      unfold gup
      go_wp2_with fail
      rw [HV.out, HW.out]
      exact ⟨rfl, .inr ⟨rfl, rfl⟩, HB2.out⟩
  by_cases c5 : b = 91
  · subst c5
    have HV : Hid (listJ s.data.toList (rdJ s.data.toList f) (p + 1) = V) := by rw [Hid, ← HVV.out]; exact (readJ_l HB.out).symm
    have HAT := hideB (atOf HB.out (by omega))
    go_enter Tryz.func83, Tryz.ntmps83
    go_wp2_with fail
    refine HP.out.mono ?_
    rintro e w1 ⟨rfl, hb1⟩
    have HB1 := hideB hb1
    have HC := hideB (readList_any HA.out (H.out.below hb1) hs hf HAT.out)
    rw [HV.out] at HC
    clear hb1
    go_wp2_with fail
    refine HC.out.mono ?_
    intro e w2 hj
    have HJ := hideB (hj.from (But.of_below HB1.out))
    obtain ⟨⟨t, q, x, z, h1, rfl, h3, h4⟩ | ⟨h1, rfl⟩, h5⟩ := hj
    · obtain ⟨ty, xx, rfl⟩ := h3.iface
      clear h1 h3 h4 h5
      go_wp2_with fail
      go_ret
      exact HJ.out
    · clear h1 h5
      unfold gup at HJ ⊢
      go_wp2_with fail
      exact ⟨rfl, HJ.out⟩
  by_cases c6 : b = 123
  · subst c6
    have HV : Hid (mapJ s.data.toList (rdJ s.data.toList f) (p + 1) = V) := by rw [Hid, ← HVV.out]; exact (readJ_m HB.out).symm
    have HAT := hideB (atOf HB.out (by omega))
    go_enter Tryz.func83, Tryz.ntmps83
    go_wp2_with fail
    refine HP.out.mono ?_
    rintro e w1 ⟨rfl, hb1⟩
    have HB1 := hideB hb1
    have HC := hideB (readMap_any HA.out (H.out.below hb1) hs hf HAT.out)
    rw [HV.out] at HC
    clear hb1
    go_wp2_with fail
    refine HC.out.mono ?_
    intro e w2 hj
    have HJ := hideB (hj.from (But.of_below HB1.out))
    obtain ⟨⟨t, q, x, z, h1, rfl, h3, h4⟩ | ⟨h1, rfl⟩, h5⟩ := hj
    · obtain ⟨ty, xx, rfl⟩ := h3.iface
      clear h1 h3 h4 h5
      go_wp2_with fail
      go_ret
      exact HJ.out
    · clear h1 h5
      unfold gup at HJ ⊢
      go_wp2_with fail
      exact ⟨rfl, HJ.out⟩
  · have HV : Hid (V = (numJ s.data.toList p).map (fun y => (numT y.1, y.2))) := by rw [Hid, ← HVV.out]; exact readJ_d (by rw [HB.out]; exact c1) (by rw [HB.out]; exact c3) (by rw [HB.out]; exact c2) (by rw [HB.out]; exact c4) (by rw [HB.out]; exact c5) (by rw [HB.out]; exact c6)
    have d1 : ((b : Int) == 110) = false := by simp; omega
    have d2 : ((b : Int) == 102) = false := by simp; omega
    have d3 : ((b : Int) == 116) = false := by simp; omega
    have d4 : ((b : Int) == 34) = false := by simp; omega
    have d5 : ((b : Int) == 91) = false := by simp; omega
    have d6 : ((b : Int) == 123) = false := by simp; omega
    have e1 : ¬ (b : Int) = 110 := by omega
    have e2 : ¬ (b : Int) = 102 := by omega
    have e3 : ¬ (b : Int) = 116 := by omega
    have e4 : ¬ (b : Int) = 34 := by omega
    have e5 : ¬ (b : Int) = 91 := by omega
    have e6 : ¬ (b : Int) = 123 := by omega
    go_enter Tryz.func83, Tryz.ntmps83
    go_wp2_with fail
    refine HP.out.mono ?_
    rintro e w1 ⟨rfl, hb1⟩
    have HB1 := hideB hb1
    have HC := hideB (readNumber_any (H.out.below hb1) hs)
    clear hb1
    go_wp2_with fail
    refine HC.out.mono ?_
    rintro e w2 ⟨⟨v, q, hn, rfl, hs2⟩ | ⟨hn, rfl⟩, hb2⟩
    · have HW := hideB hn
      have hpq : p ≤ q := by have := (numJ_lt hn).1; omega
      have HS2 := hideB hs2
      have HB2 := hideB ((But.of_below HB1.out).trans hb2)
      clear hn hs2 hb2
      go_wp2_with fail
      go_ret
      rw [HV.out, HW.out]
      exact ⟨.inl ⟨numT v, q, _, q, rfl, rfl, .inr (.inr (.inl ⟨rfl, rfl, rfl, rfl, rfl⟩)), HS2.out, rfl, hpq⟩, HB2.out⟩
    · have HW := hideB hn
      have HB2 := hideB ((But.of_below HB1.out).trans hb2)
      clear hn hb2
      unfold gup
      go_wp2_with fail
      rw [HV.out, HW.out]
      exact ⟨rfl, .inr ⟨rfl, rfl⟩, HB2.out⟩
theorem rdJ_yes {L : List UInt8} {f p q : Nat} {t : VT} (h : readJ L (rdJ L f) (skipJ L p) = some (t, q)) : rdJ L (f + 1) p = some (t, skipJ L q) := by rw [rdJ, h]
theorem rdJ_no {L : List UInt8} {f p : Nat} (h : readJ L (rdJ L f) (skipJ L p) = none) : rdJ L (f + 1) p = none := by rw [rdJ, h]

set_option maxRecDepth 100000 in
set_option maxHeartbeats 3200000 in
theorem around_any {rb : Nat} {s : ByteArray} (hs : s.size ≤ 4000) : ∀ f, AroundAll f rb s := by
  intro f
  induction f with
  | zero => intro p w h hf; have := h.br.le; omega
  | succ f ih =>
    intro p w h hf
    have HIH := hideIt ih
    have HSK := hideB (skip_any h (by omega))
    have HK1 := hideB (runJ_ge blankC s.data.toList p)
    have hrb := h.br.lt
    clear h ih
    go_enter Tryz.func51, Tryz.ntmps51
    go_wp2_with fail
    refine HSK.out.mono ?_
    rintro e w1 ⟨rfl, hs1, hb1⟩
    have HB1 := hideB hb1
    have HC := hideIt (read_any HIH.out hs1 hs (by have a1 : p ≤ skipJ s.data.toList p := HK1.out; omega))
    clear hs1 hb1
    go_wp2_with fail
    refine HC.out.mono ?_
    intro e w2 hj
    obtain ⟨⟨t, q, x, z, h1, rfl, h3, h4, h5, h6⟩ | ⟨h1, rfl⟩, hb2⟩ := hj.from HB1.out
    · obtain ⟨ty, xx, rfl⟩ := h3.iface
      have HR := hideIt (rdJ_yes h1)
      have HT := hideIt h3
      have HZ := hideIt h5
      have HB2 := hideIt hb2
      have HL : Hid (p ≤ z) := by have a1 : p ≤ skipJ s.data.toList p := HK1.out; exact Nat.le_trans a1 h6
      have HSK2 := hideB (skip_any h4 (by omega))
      have HK2 := hideB (runJ_ge blankC s.data.toList z)
      clear h1 h3 h4 h5 h6 hb2 hj
      go_wp2_with fail
      refine HSK2.out.mono ?_
      rintro e w3 ⟨rfl, hs3, hb3⟩
      have HS3 : Hid (SrAt w3 rb s (skipJ s.data.toList q)) := by rw [Hid, ← HZ.out]; exact hs3
      have HB3 := hideIt (HB2.out.trans hb3)
      have HL2 : Hid (p ≤ skipJ s.data.toList q) := by rw [Hid, ← HZ.out]; exact Nat.le_trans HL.out HK2.out
      have HT3 : Hid (TreeP (NewB w w3) w3 (f + 1) t (.iface ty xx)) := HT.out.keep (fun b hb' => hb3.block b hb'.2 (by have := hb'.1; omega)) (fun b hb' => ⟨hb'.1, Nat.lt_of_lt_of_le hb'.2 hb3.size⟩)
      clear hs3 hb3
      go_wp2_with fail
      go_ret
      exact ⟨.inl ⟨t, _, _, HR.out, rfl, HT3.out, HS3.out, HL2.out⟩, HB3.out⟩
    · have HR := hideIt (rdJ_no h1)
      have HB2 := hideIt hb2
      clear h1 hb2 hj
      unfold gup
      go_wp2_with fail
      exact ⟨rfl, .inr ⟨HR.out, rfl⟩, HB2.out⟩
end Go.Proofs.YtagcgnhpdmhegaaGreatDoor

/-
  Plain: trees whose nodes fit.
-/
namespace Go.Proofs.YtagcgnhpdmhegaaGreatDoor
open Go.RowKit
set_option linter.unusedSimpArgs false
set_option linter.unusedVariables false

def FitT : Nat → VT → Prop
  | 0, _ => False
  | f + 1, .mk kind n s keys kids => (1 ≤ kind ∧ kind ≤ 6) ∧ (-9223372036854775808 ≤ n ∧ n ≤ 9223372036854775807) ∧ s.size ≤ 100000 ∧ keys.length ≤ 100000 ∧ (∀ i, i < keys.length → (keyAt keys i).size ≤ 100000) ∧ kids.length ≤ 100000 ∧ ∀ j, j < kids.length → FitT f (kidT kids j)
theorem FitT.full : ∀ {f : Nat} {t : VT}, FitT f t → FullT f t
  | 0, _, h => h.elim
  | f + 1, .mk _ _ _ _ _, h => fun j hj => (h.2.2.2.2.2.2 j hj).full
theorem ksT_get (f sh : Nat) {l : List VT} : ∀ {m j : Nat}, j < m → m ≤ l.length → intAt (ksT f sh l m) j = ((sh + (accT f sh l (j + 1)).length : Nat) : Int) - 1 := by
  intro m
  induction m with
  | zero => intro j h; omega
  | succ m ih =>
    intro j hj hm
    have hl := ksT_len f sh l (k := m) (by omega)
    rw [ksT_succ f sh (by omega)]
    by_cases e : j < m
    · have := ih e (by omega)
      unfold intAt at this ⊢
      rw [List.getD_eq_getElem?_getD, List.getElem?_append_left (by omega), ← List.getD_eq_getElem?_getD]
      exact this
    · obtain rfl : j = m := by omega
      unfold intAt
      rw [List.getD_eq_getElem?_getD, List.getElem?_append_right (by omega), hl, Nat.sub_self]
      rfl
theorem fits_lay : ∀ {f : Nat} {t : VT}, FitT f t → ∀ sh, sh + (layT f t sh).length ≤ 1000000 → ∀ j, j < (layT f t sh).length → Fits (nodeAt (layT f t sh) j) := by
  intro f
  induction f with
  | zero => intro t h; exact h.elim
  | succ f ih =>
    intro t h sh hn
    obtain ⟨kind, n, s, keys, kids⟩ := t
    obtain ⟨h1, h2, h3, h4, h5, h6, h7⟩ := h
    rw [layT_eq] at hn ⊢
    rw [List.length_append, List.length_cons, List.length_nil] at hn ⊢
    have ha := acc_nodes f sh kids Fits kids.length (Nat.le_refl _)
    have hall : ∀ j, j < (accT f sh kids kids.length).length → Fits (nodeAt (accT f sh kids kids.length) j) := ha.2 (fun i hi => by
      refine ih (h7 i hi) _ ?_
      have hle := accT_le f sh kids (i + 1)
      rw [accT_succ f sh hi, List.length_append] at hle
      omega)
    intro j hj
    by_cases e : j < (accT f sh kids kids.length).length
    · rw [nodeAt_left e]; exact hall j e
    · obtain rfl : j = (accT f sh kids kids.length).length := by omega
      rw [nodeAt_right (Nat.le_refl _), Nat.sub_self]
      have hkl := ksT_len f sh kids (Nat.le_refl _)
      refine ⟨by show keys.length ≤ _; omega, fun i hi => by have := h5 i hi; show (keyAt keys i).size ≤ _; omega, by show (ksT f sh kids kids.length).length ≤ _; omega, fun i hi => ?_, by show s.size ≤ _; omega, by show _ ≤ kind; omega, by show kind ≤ _; omega, by show _ ≤ n; omega, by show n ≤ _; omega⟩
      have hi' : i < kids.length := by have : i < (ksT f sh kids kids.length).length := hi; omega
      have := ksT_get f sh (l := kids) hi' (Nat.le_refl _)
      have hle := accT_le f sh kids (i + 1)
      show -9223372036854775808 ≤ intAt (ksT f sh kids kids.length) i ∧ intAt (ksT f sh kids kids.length) i ≤ 9223372036854775807
      rw [this]
      omega
end Go.Proofs.YtagcgnhpdmhegaaGreatDoor

/-
  Plain: what is read has no more nodes than bytes, and each node fits.
-/
namespace Go.Proofs.YtagcgnhpdmhegaaGreatDoor
open Go.RowKit
set_option linter.unusedSimpArgs false
set_option linter.unusedVariables false

/-- What a reading gives is bounded by the bytes that it takes. -/
def RdOk (f : Nat) (L : List UInt8) (R : Nat → Option (VT × Nat)) : Prop := ∀ p t q, R p = some (t, q) → p < q ∧ q ≤ L.length ∧ (layT f t 0).length ≤ q - p ∧ FitT f t ∧ ∀ z, textOf t = some z → z.size ≤ L.length
theorem leaf_ok {f : Nat} {k n : Int} (hk : 1 ≤ k ∧ k ≤ 6 ∧ k ≠ 4) (hn : -9223372036854775808 ≤ n ∧ n ≤ 9223372036854775807) : (layT (f + 1) (.mk k n ByteArray.empty [] []) 0).length = 1 ∧ FitT (f + 1) (.mk k n ByteArray.empty [] []) ∧ textOf (.mk k n ByteArray.empty [] []) = none :=
  ⟨rfl, ⟨⟨hk.1, hk.2.1⟩, hn, by decide, by simp, fun i hi => absurd hi (by simp), by simp, fun j hj => absurd hj (by simp)⟩, by simp [textOf, hk.2.2]⟩
end Go.Proofs.YtagcgnhpdmhegaaGreatDoor

/-
  Plain: what is read as JSON has no more nodes than bytes, and each node fits.
-/
namespace Go.Proofs.YtagcgnhpdmhegaaGreatDoor
open Go.RowKit
set_option linter.unusedSimpArgs false
set_option linter.unusedVariables false

theorem itemsJ_ok {f : Nat} {L : List UInt8} {R : Nat → Option (VT × Nat)} (H : RdOk f L R) : ∀ {k p : Nat} {l : List VT} {q : Nat}, itemsJ L R k p = some (l, q) → p + l.length < q ∧ q ≤ L.length ∧ sumL (fun i => layT f (kidT l i) 0) l.length < q - p ∧ ∀ i, i < l.length → FitT f (kidT l i) := by
  intro k
  induction k with
  | zero => intro p l q h; cases h
  | succ k ih =>
    intro p l q h
    rw [itemsJ] at h
    cases e : R p with
    | none => simp [e] at h
    | some x =>
      obtain ⟨t, z⟩ := x
      simp only [e] at h
      obtain ⟨a1, a2, a3, a4, _⟩ := H _ _ _ e
      split at h
      · rename_i hend
        have hz := (isAt_yes.1 hend).1
        simp only [Option.some.injEq, Prod.mk.injEq] at h
        obtain ⟨rfl, rfl⟩ := h
        refine ⟨by simp; omega, by omega, ?_, fun i hi => ?_⟩
        · have hs : sumL (fun i => layT f (kidT [t] i) 0) (0 + 1) = (layT f t 0).length + sumL (fun i => layT f (kidT [] i) 0) 0 := sumL_cons _ _
          show sumL (fun i => layT f (kidT [t] i) 0) (0 + 1) < _
          rw [hs]; simp [sumL]; omega
        · obtain rfl : i = 0 := by simpa using hi
          exact a4
      · split at h
        · cases e2 : itemsJ L R k (z + 1) with
          | none => simp [e2] at h
          | some y =>
            obtain ⟨m, z2⟩ := y
            simp only [e2, Option.some.injEq, Prod.mk.injEq] at h
            obtain ⟨rfl, rfl⟩ := h
            obtain ⟨b1, b2, b3, b4⟩ := ih e2
            have hs : sumL (fun i => layT f (kidT (t :: m) i) 0) (m.length + 1) = (layT f t 0).length + sumL (fun i => layT f (kidT m i) 0) m.length := sumL_cons _ _
            refine ⟨by simp; omega, b2, by rw [List.length_cons, hs]; omega, fun i hi => ?_⟩
            cases i with
            | zero => exact a4
            | succ i => exact b4 i (by simpa using hi)
        · cases h
theorem keyR_ok {L : List UInt8} {p q : Nat} {s : ByteArray} (h : keyR L p = some (s, q)) : p < q ∧ q ≤ L.length ∧ s.size ≤ L.length := by
  unfold keyR at h
  split at h
  · cases e : txJ L (skipJ L p + 1) with
    | none => simp [e] at h
    | some x =>
      obtain ⟨l, z⟩ := x
      simp only [e] at h
      split at h
      · rename_i h58
        simp only [Option.some.injEq, Prod.mk.injEq] at h
        obtain ⟨rfl, rfl⟩ := h
        obtain ⟨x1, x2, x3, _⟩ := txJ_says _ _ _ _ (Nat.le_refl _) e
        have y1 := (isAt_yes.1 h58).1
        have y2 : p ≤ skipJ L p := runJ_ge _ _ _
        have y3 : z ≤ skipJ L z := runJ_ge _ _ _
        have hz : (txt l).size = l.length := txt_size l
        exact ⟨by omega, by omega, by omega⟩
      · cases h
  · cases h
theorem pairsJ_ok {f : Nat} {L : List UInt8} {R : Nat → Option (VT × Nat)} (H : RdOk f L R) : ∀ {k p : Nat} {ks : List ByteArray} {l : List VT} {q : Nat}, pairsJ L R k p = some (ks, l, q) → p + l.length < q ∧ q ≤ L.length ∧ sumL (fun i => layT f (kidT l i) 0) l.length < q - p ∧ (∀ i, i < l.length → FitT f (kidT l i)) ∧ ∀ i, i < l.length → (keyAt ks i).size ≤ L.length := by
  intro k
  induction k with
  | zero => intro p ks l q h; cases h
  | succ k ih =>
    intro p ks l q h
    rw [pairsJ] at h
    cases e0 : keyR L p with
    | none => simp [e0] at h
    | some x0 =>
      obtain ⟨s, q0⟩ := x0
      simp only [e0] at h
      obtain ⟨k1, k2, k3⟩ := keyR_ok e0
      cases e : R q0 with
      | none => simp [e] at h
      | some x =>
        obtain ⟨t, z⟩ := x
        simp only [e] at h
        obtain ⟨a1, a2, a3, a4, _⟩ := H _ _ _ e
        split at h
        · rename_i hend
          have hz := (isAt_yes.1 hend).1
          simp only [Option.some.injEq, Prod.mk.injEq] at h
          obtain ⟨rfl, rfl, rfl⟩ := h
          refine ⟨by simp; omega, by omega, ?_, fun i hi => ?_, fun i hi => ?_⟩
          · have hs : sumL (fun i => layT f (kidT [t] i) 0) (0 + 1) = (layT f t 0).length + sumL (fun i => layT f (kidT [] i) 0) 0 := sumL_cons _ _
            show sumL (fun i => layT f (kidT [t] i) 0) (0 + 1) < _
            rw [hs]; simp [sumL]; omega
          · obtain rfl : i = 0 := by simpa using hi
            exact a4
          · obtain rfl : i = 0 := by simpa using hi
            exact k3
        · split at h
          · cases e2 : pairsJ L R k (z + 1) with
            | none => simp [e2] at h
            | some y =>
              obtain ⟨km, m, z2⟩ := y
              simp only [e2, Option.some.injEq, Prod.mk.injEq] at h
              obtain ⟨rfl, rfl, rfl⟩ := h
              obtain ⟨b1, b2, b3, b4, b5⟩ := ih e2
              have hs : sumL (fun i => layT f (kidT (t :: m) i) 0) (m.length + 1) = (layT f t 0).length + sumL (fun i => layT f (kidT m i) 0) m.length := sumL_cons _ _
              refine ⟨by simp; omega, b2, by rw [List.length_cons, hs]; omega, fun i hi => ?_, fun i hi => ?_⟩
              · cases i with
                | zero => exact a4
                | succ i => exact b4 i (by simpa using hi)
              · cases i with
                | zero => exact k3
                | succ i => exact b5 i (by simpa using hi)
          · cases h
/-- What stands behind a sign, and the sign. -/
def OkJ (f : Nat) (L : List UInt8) (p : Nat) (t : VT) (q : Nat) : Prop := p < q ∧ q ≤ L.length ∧ (layT f t 0).length ≤ q - p ∧ FitT f t ∧ ∀ z, textOf t = some z → z.size ≤ L.length
theorem listJ_ok {f : Nat} {L : List UInt8} {R : Nat → Option (VT × Nat)} (H : RdOk f L R) (hL : L.length ≤ 4000) {p : Nat} {t : VT} {q : Nat} (h : listJ L R p = some (t, q)) : OkJ (f + 1) L p t q := by
  unfold listJ at h
  split at h
  · rename_i he
    have h1 := (isAt_yes.1 he).1
    have h2 : p ≤ skipJ L p := runJ_ge _ _ _
    simp only [Option.some.injEq, Prod.mk.injEq] at h
    obtain ⟨rfl, rfl⟩ := h
    refine ⟨by omega, by omega, by rw [listT_size]; simp [sumL]; omega, ⟨by decide, by decide, by decide, by simp, fun i hi => absurd hi (by simp), by simp, fun j hj => absurd hj (by simp)⟩, fun z hz => by simp [textOf, listT] at hz⟩
  · cases e : itemsJ L R (L.length + 1) p with
    | none => simp [e] at h
    | some x =>
      obtain ⟨l, z⟩ := x
      simp only [e, Option.some.injEq, Prod.mk.injEq] at h
      obtain ⟨rfl, rfl⟩ := h
      obtain ⟨b1, b2, b3, b4⟩ := itemsJ_ok H e
      have hl := (itemsJ_full (fun p t q h => (H p t q h).2.2.2.1.full) e).1
      refine ⟨by omega, b2, by rw [listT_size]; omega, ⟨by decide, by decide, by decide, by simp, fun i hi => absurd hi (by simp), by omega, fun j hj => b4 j hj⟩, fun z hz => by simp [textOf, listT] at hz⟩
theorem mapJ_ok {f : Nat} {L : List UInt8} {R : Nat → Option (VT × Nat)} (H : RdOk f L R) (hL : L.length ≤ 4000) {p : Nat} {t : VT} {q : Nat} (h : mapJ L R p = some (t, q)) : OkJ (f + 1) L p t q := by
  unfold mapJ at h
  split at h
  · rename_i he
    have h1 := (isAt_yes.1 he).1
    have h2 : p ≤ skipJ L p := runJ_ge _ _ _
    simp only [Option.some.injEq, Prod.mk.injEq] at h
    obtain ⟨rfl, rfl⟩ := h
    have h0 : mapT [] [] = .mk 6 0 ByteArray.empty [] [] := by
      have h0 : srt [] = [] := List.eq_nil_of_length_eq_zero (srt_len [])
      unfold mapT; rw [h0]; rfl
    rw [h0]
    refine ⟨by omega, by omega, ?_, (leaf_ok (f := f) (k := 6) (n := 0) (by decide) (by decide)).2.1, fun z hz => by simp [textOf] at hz⟩
    rw [(leaf_ok (f := f) (k := 6) (n := 0) (by decide) (by decide)).1]
    omega
  · cases e : pairsJ L R (L.length + 1) p with
    | none => simp [e] at h
    | some x =>
      obtain ⟨ks, l, z⟩ := x
      simp only [e, Option.some.injEq, Prod.mk.injEq] at h
      obtain ⟨rfl, rfl⟩ := h
      obtain ⟨b1, b2, b3, b4, b5⟩ := pairsJ_ok H e
      obtain ⟨hl1, hl2, _⟩ := pairsJ_full (fun p t q h => (H p t q h).2.2.2.1.full) e
      have hsl := srt_len ks
      refine ⟨by omega, b2, by rw [mapT_size, hl1]; omega, ⟨by decide, by decide, by decide, by rw [List.length_map, hsl]; omega, fun i hi => ?_, by rw [List.length_map, hsl]; omega, fun j hj => ?_⟩, fun z hz => by simp [textOf, mapT] at hz⟩
      · rw [List.length_map, hsl] at hi
        have e9 : keyAt ((srt ks).map (keyAt ks)) i = keyAt ks ((srt ks).getD i 0) := by
          conv => lhs; unfold keyAt
          rw [List.getD_eq_getElem?_getD, List.getElem?_map, List.getElem?_eq_getElem (by omega), List.getD_eq_getElem?_getD (l := srt ks), List.getElem?_eq_getElem (show i < (srt ks).length by omega)]
          rfl
        rw [e9]
        have := b5 ((srt ks).getD i 0) (by have := srt_lt hi; omega)
        omega
      · rw [List.length_map, hsl] at hj
        rw [kid_srt hj]
        exact b4 _ (by have := srt_lt hj; omega)
theorem numJ_past {L : List UInt8} {p : Nat} (h : L.length ≤ p) : numJ L p = none := by
  have e : numAt L p = p := by
    unfold numAt
    rw [if_neg (fun e => by have := (isAt_yes.1 e).1; omega)]
  unfold numJ
  rw [e, if_pos (.inl (runJ_past h))]
theorem readJ_ok {f : Nat} {L : List UInt8} {R : Nat → Option (VT × Nat)} (H : RdOk f L R) (hL : L.length ≤ 4000) {p : Nat} {t : VT} {q : Nat} (h : readJ L R p = some (t, q)) : OkJ (f + 1) L p t q := by
  have leaf : ∀ {k n : Int} {q' : Nat}, p < q' → q' ≤ L.length → (1 ≤ k ∧ k ≤ 6 ∧ k ≠ 4) → (-9223372036854775808 ≤ n ∧ n ≤ 9223372036854775807) → some ((VT.mk k n ByteArray.empty [] [] : VT), q') = some (t, q) → OkJ (f + 1) L p t q := fun {k n q'} h1 h2 hk hn h => by
    simp only [Option.some.injEq, Prod.mk.injEq] at h
    obtain ⟨rfl, rfl⟩ := h
    obtain ⟨l1, l2, l3⟩ := leaf_ok (f := f) hk hn
    exact ⟨h1, h2, by omega, l2, fun z hz => by rw [l3] at hz; cases hz⟩
  unfold readJ at h
  split at h
  · rename_i e
    have := wordAt_le e (by decide)
    exact leaf (by omega) (by simpa [nullW] using this) (by decide) (by decide) h
  split at h
  · rename_i e
    have := wordAt_le e (by decide)
    exact leaf (by omega) (by simpa [trueW] using this) (by decide) (by decide) h
  split at h
  · rename_i e
    have := wordAt_le e (by decide)
    exact leaf (by omega) (by simpa [falseW] using this) (by decide) (by decide) h
  split at h
  · cases e : txJ L (p + 1) with
    | none => simp [e] at h
    | some x =>
      obtain ⟨l, z⟩ := x
      simp only [e, Option.some.injEq, Prod.mk.injEq] at h
      obtain ⟨rfl, rfl⟩ := h
      obtain ⟨x1, x2, x3, _⟩ := txJ_says _ _ _ _ (Nat.le_refl _) e
      have hz : (txt l).size = l.length := txt_size l
      refine ⟨by omega, x2, by show 1 ≤ _; omega, ⟨by decide, by decide, by omega, by simp, fun i hi => absurd hi (by simp), by simp, fun j hj => absurd hj (by simp)⟩, fun z e => ?_⟩
      simp [textOf, wordT] at e
      subst e
      omega
  split at h
  · obtain ⟨a1, a2, a3, a4⟩ := listJ_ok H hL h
    exact ⟨by omega, a2, by omega, a4⟩
  split at h
  · obtain ⟨a1, a2, a3, a4⟩ := mapJ_ok H hL h
    exact ⟨by omega, a2, by omega, a4⟩
  · cases e : numJ L p with
    | none => simp [e] at h
    | some x =>
      obtain ⟨v, z⟩ := x
      simp only [e] at h
      obtain ⟨h1, h2, h3, h4⟩ := numJ_lt e
      by_cases hp : p ≤ L.length
      · exact leaf h1 (h2 hp) (by decide) (by omega) h
      · exfalso
        have := numJ_past (L := L) (p := p) (by omega)
        rw [this] at e
        cases e
theorem rdJ_ok (L : List UInt8) (hL : L.length ≤ 4000) : ∀ f, RdOk f L (rdJ L f) := by
  intro f
  induction f with
  | zero => intro p t q h; simp [rdJ] at h
  | succ f ih =>
    intro p t q h
    rw [rdJ] at h
    cases e : readJ L (rdJ L f) (skipJ L p) with
    | none => simp [e] at h
    | some x =>
      obtain ⟨t', z⟩ := x
      simp only [e, Option.some.injEq, Prod.mk.injEq] at h
      obtain ⟨rfl, rfl⟩ := h
      obtain ⟨a1, a2, a3, a4, a5⟩ := readJ_ok ih hL e
      have y1 : p ≤ skipJ L p := runJ_ge _ _ _
      have y2 : z ≤ skipJ L z := runJ_ge _ _ _
      exact ⟨by omega, runJ_le a2, by omega, a4, a5⟩
end Go.Proofs.YtagcgnhpdmhegaaGreatDoor

/-
  What turns giving up into false: unlessGivenUp at a reading that hands back a value.
-/
namespace Go.Proofs.YtagcgnhpdmhegaaGreatDoor
open Go.RowKit
set_option linter.unusedSimpArgs false
set_option linter.unusedVariables false

theorem catchV_gave (q : Addr) (x : Bool) (w : World) (hc : w.cell? q = some (.bool x)) (hz : w.frozen? q = false) :
    CallsD Tryz.prog 81 #[.pointer (some q)] (.panicking [{ v := .iface 102 (.agg #[]), recovered := false }]) w fun e u' w' =>
      e = .returned (.tuple #[]) ∧ u' = .panicking [{ v := .iface 102 (.agg #[]), recovered := true }] ∧ w' = w.setCell q (.bool false) := by
  refine callsD_of_wpS Tryz.func81 rfl fun c₀ cs hu => ?_
  apply wpS_seq
  apply wpS_region
  simp [wpOpsS, go_sem, recoverD, hu, Tryz.ntmps81, Exit.thenS]
  refine wpS_cond (t := true) (by simp [Act.eval, Array.replicate]) ?_
  simp only [if_true]
  apply wpS_region
  simp [wpOpsS, go_sem, hc, hz, bodyPostS, results, Tryz.results81]

theorem catchV_idle (q : Addr) (w : World) :
    CallsD Tryz.prog 81 #[.pointer (some q)] .returning w fun e u' w' => e = .returned (.tuple #[]) ∧ u' = .returning ∧ w' = w := by
  refine callsD_of_wpS Tryz.func81 rfl fun c₀ cs hu => ?_
  apply wpS_seq
  apply wpS_region
  simp [wpOpsS, go_sem, recoverD, hu, Tryz.ntmps81, Exit.thenS]
  refine wpS_cond (t := false) (by simp [Act.eval, Array.replicate]) ?_
  simp only [Bool.false_eq_true, if_false]
  refine wpS_of_wp (wp_skip ?_)
  cases c₀
  simp_all [bodyPostS, results, Tryz.results81]

end Go.Proofs.YtagcgnhpdmhegaaGreatDoor

/-
  The program's readFront, over whatever reads a value.
-/
namespace Go.Proofs.YtagcgnhpdmhegaaGreatDoor
open Go.RowKit
set_option linter.unusedSimpArgs false
set_option linter.unusedVariables false

/-- What is read of a text, and how much of it. -/
def frontV (L : List UInt8) (r : Option (VT × Nat)) : Option (List VN × Nat) := if 4000 < L.length then none else okOf (L.length + 1) r
def nsOf (r : Option (List VN × Nat)) : List VN := match r with
  | none => []
  | some (ns, _) => ns
end Go.Proofs.YtagcgnhpdmhegaaGreatDoor
