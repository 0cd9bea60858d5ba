/-
  The program's jsonReader: a value, and the blanks around it.
-/
import Derived.Test.YtagcgnhpdmhegaaGreatDoorJrZ
import Derived.Test.YtagcgnhpdmhegaaGreatDoorRdT
import Derived.Test.YtagcgnhpdmhegaaGreatDoorCbR
namespace Go.Proofs.YtagcgnhpdmhegaaGreatDoor
open Go.RowKit
set_option linter.unusedSimpArgs false
set_option linter.unusedVariables false

theorem noWord {L : List UInt8} {p : Nat} {c : UInt8} {u : List UInt8} (h : byAt L p ≠ c.toNat) : wordAt L p (c :: u) = false := by
  cases e : wordAt L p (c :: u) with
  | false => rfl
  | true => exact absurd (isAt_yes.1 (wordAt_first e)).2 h
theorem noAt {L : List UInt8} {p c : Nat} (h : byAt L p ≠ c) : isAt L p c = false := isAt_no.2 (fun e => h e.2)
theorem atOf {L : List UInt8} {p c : Nat} (h : byAt L p = c) (hc : 0 < c) : isAt L p c = true := isAt_yes.2 ⟨by
  by_cases hp : p < L.length
  · exact hp
  · rw [byAt_past (by omega)] at h; omega, h⟩
theorem numJ_no {L : List UInt8} {p : Nat} (h1 : byAt L p ≠ 45) (h2 : digC (byAt L p) = false) : numJ L p = none := by
  have e : numAt L p = p := by unfold numAt; rw [noAt h1]; simp
  unfold numJ
  rw [e, if_pos (.inl (runJ_no (fun h => by rw [h2] at h; cases h.2)))]
theorem readJ_n {L : List UInt8} {R : Nat → Option (VT × Nat)} {p : Nat} (h : byAt L p = 110) : readJ L R p = if wordAt L p nullW = true then some (nullT, p + 4) else none := by
  unfold readJ
  rw [show wordAt L p trueW = false from noWord (by rw [h]; decide), show wordAt L p falseW = false from noWord (by rw [h]; decide), noAt (c := 34) (by omega), noAt (c := 91) (by omega), noAt (c := 123) (by omega), numJ_no (by omega) (by rw [h]; rfl)]
  rfl
theorem readJ_t {L : List UInt8} {R : Nat → Option (VT × Nat)} {p : Nat} (h : byAt L p = 116) : readJ L R p = if wordAt L p trueW = true then some (boolT 1, p + 4) else none := by
  unfold readJ
  rw [show wordAt L p nullW = false from noWord (by rw [h]; decide), show wordAt L p falseW = false from noWord (by rw [h]; decide), noAt (c := 34) (by omega), noAt (c := 91) (by omega), noAt (c := 123) (by omega), numJ_no (by omega) (by rw [h]; rfl)]
  rfl
theorem readJ_f {L : List UInt8} {R : Nat → Option (VT × Nat)} {p : Nat} (h : byAt L p = 102) : readJ L R p = if wordAt L p falseW = true then some (boolT 0, p + 5) else none := by
  unfold readJ
  rw [show wordAt L p nullW = false from noWord (by rw [h]; decide), show wordAt L p trueW = false from noWord (by rw [h]; decide), noAt (c := 34) (by omega), noAt (c := 91) (by omega), noAt (c := 123) (by omega), numJ_no (by omega) (by rw [h]; rfl)]
  rfl
theorem readJ_q {L : List UInt8} {R : Nat → Option (VT × Nat)} {p : Nat} (h : byAt L p = 34) : readJ L R p = (txJ L (p + 1)).map (fun y => (wordT (txt y.1), y.2)) := by
  unfold readJ
  rw [show wordAt L p nullW = false from noWord (by rw [h]; decide), show wordAt L p trueW = false from noWord (by rw [h]; decide), show wordAt L p falseW = false from noWord (by rw [h]; decide), atOf h (by omega)]
  simp only [Bool.false_eq_true, if_false, if_true]
  cases txJ L (p + 1) <;> rfl
theorem readJ_l {L : List UInt8} {R : Nat → Option (VT × Nat)} {p : Nat} (h : byAt L p = 91) : readJ L R p = listJ L R (p + 1) := by
  unfold readJ
  rw [show wordAt L p nullW = false from noWord (by rw [h]; decide), show wordAt L p trueW = false from noWord (by rw [h]; decide), show wordAt L p falseW = false from noWord (by rw [h]; decide), noAt (c := 34) (by omega), atOf h (by omega)]
  simp only [Bool.false_eq_true, if_false, if_true]
theorem readJ_m {L : List UInt8} {R : Nat → Option (VT × Nat)} {p : Nat} (h : byAt L p = 123) : readJ L R p = mapJ L R (p + 1) := by
  unfold readJ
  rw [show wordAt L p nullW = false from noWord (by rw [h]; decide), show wordAt L p trueW = false from noWord (by rw [h]; decide), show wordAt L p falseW = false from noWord (by rw [h]; decide), noAt (c := 34) (by omega), noAt (c := 91) (by omega), atOf h (by omega)]
  simp only [Bool.false_eq_true, if_false, if_true]
theorem readJ_d {L : List UInt8} {R : Nat → Option (VT × Nat)} {p : Nat} (h1 : byAt L p ≠ 110) (h2 : byAt L p ≠ 116) (h3 : byAt L p ≠ 102) (h4 : byAt L p ≠ 34) (h5 : byAt L p ≠ 91) (h6 : byAt L p ≠ 123) : readJ L R p = (numJ L p).map (fun y => (numT y.1, y.2)) := by
  unfold readJ
  rw [show wordAt L p nullW = false from noWord h1, show wordAt L p trueW = false from noWord h2, show wordAt L p falseW = false from noWord h3, noAt h4, noAt h5, noAt h6]
  simp only [Bool.false_eq_true, if_false, if_true]
  cases numJ L p <;> rfl
theorem JOr.from {r : Option (VT × Nat)} {f rb p : Nat} {s : ByteArray} {w w1 w' : World} {e : Ending} (h : JOr r f rb s p w1 e w') (hb : But rb w w1) : JOr r f rb s p w e w' := by
  obtain ⟨⟨t, q, x, z, h1, h2, h3, h4⟩ | h, h5⟩ := h
  · exact ⟨.inl ⟨t, q, x, z, h1, h2, h3.keep (fun b _ => rfl) (fun b hb' => ⟨Nat.le_trans hb.size hb'.1, hb'.2⟩), h4⟩, hb.trans h5⟩
  · exact ⟨.inr h, hb.trans h5⟩

set_option maxRecDepth 100000 in
set_option maxHeartbeats 6400000 in
theorem read_any {f rb p : Nat} {s : ByteArray} {w : World} (hA : AroundAll f rb s) (h : SrAt w rb s p) (hs : s.size ≤ 4000) (hf : s.size < p + 1 + f) :
    Calls Tryz.prog 83 #[.pointer (some ⟨rb, 0, none⟩)] w (JOr (readJ s.data.toList (rdJ s.data.toList f) p) (f + 1) rb s p w) := by
  have H := hideB h
  have HA := hideIt hA
  have HP := hideB (peek_any h.br (by omega))
  obtain ⟨b, hb⟩ : ∃ b, byAt s.data.toList p = b := ⟨_, rfl⟩
  have HB := hideB hb
  rw [hb] at HP
  obtain ⟨V, hV⟩ : ∃ V, readJ s.data.toList (rdJ s.data.toList f) p = V := ⟨_, rfl⟩
  rw [hV]
  have HVV := hideB hV
  clear h hA hb hV
  by_cases c1 : b = 110
  · subst c1
    have HV : Hid (V = if wordAt s.data.toList p nullW = true then some (nullT, p + 4) else none) := by rw [Hid, ← HVV.out]; exact readJ_n HB.out
    go_enter Tryz.func83, Tryz.ntmps83
    go_wp2_with fail
    refine HP.out.mono ?_
    rintro e w1 ⟨rfl, hb1⟩
    have HB1 := hideB hb1
    have HC := hideB (readWord_any (H.out.below hb1) (by omega) ⟨#[110, 117, 108, 108]⟩ (by decide) (by simp))
    clear hb1
    go_wp2_with fail
    refine HC.out.mono ?_
    rintro e w2 ⟨⟨hw, rfl, hs2⟩ | ⟨hw, rfl⟩, hb2⟩
    · have HW : Hid (wordAt s.data.toList p nullW = true) := hw
      have HS2 := hideB hs2
      have HB2 := hideB ((But.of_below HB1.out).trans hb2)
      clear hw hs2 hb2
      go_wp2_with fail
      go_ret
      rw [HV.out, HW.out]
      exact ⟨.inl ⟨nullT, p + 4, _, p + 4, rfl, rfl, .inl ⟨rfl, rfl, rfl, rfl, rfl, rfl⟩, HS2.out, rfl, by omega⟩, HB2.out⟩
    · have HW : Hid (wordAt s.data.toList p nullW = false) := hw
      have HB2 := hideB ((But.of_below HB1.out).trans hb2)
      clear hw hb2
      unfold gup
      go_wp2_with fail
      rw [HV.out, HW.out]
      exact ⟨rfl, .inr ⟨rfl, rfl⟩, HB2.out⟩
  by_cases c2 : b = 102
  · subst c2
    have HV : Hid (V = if wordAt s.data.toList p falseW = true then some (boolT 0, p + 5) else none) := by rw [Hid, ← HVV.out]; exact readJ_f HB.out
    go_enter Tryz.func83, Tryz.ntmps83
    go_wp2_with fail
    refine HP.out.mono ?_
    rintro e w1 ⟨rfl, hb1⟩
    have HB1 := hideB hb1
    have HC := hideB (readWord_any (H.out.below hb1) (by omega) ⟨#[102, 97, 108, 115, 101]⟩ (by decide) (by simp))
    clear hb1
    go_wp2_with fail
    refine HC.out.mono ?_
    rintro e w2 ⟨⟨hw, rfl, hs2⟩ | ⟨hw, rfl⟩, hb2⟩
    · have HW : Hid (wordAt s.data.toList p falseW = true) := hw
      have HS2 := hideB hs2
      have HB2 := hideB ((But.of_below HB1.out).trans hb2)
      clear hw hs2 hb2
      go_wp2_with fail
      go_ret
      rw [HV.out, HW.out]
      exact ⟨.inl ⟨boolT 0, p + 5, _, p + 5, rfl, rfl, .inr (.inl ⟨rfl, rfl, rfl, rfl, rfl⟩), HS2.out, rfl, by omega⟩, HB2.out⟩
    · have HW : Hid (wordAt s.data.toList p falseW = false) := hw
      have HB2 := hideB ((But.of_below HB1.out).trans hb2)
      clear hw hb2
      unfold gup
      go_wp2_with fail
      rw [HV.out, HW.out]
      exact ⟨rfl, .inr ⟨rfl, rfl⟩, HB2.out⟩
  by_cases c3 : b = 116
  · subst c3
    have HV : Hid (V = if wordAt s.data.toList p trueW = true then some (boolT 1, p + 4) else none) := by rw [Hid, ← HVV.out]; exact readJ_t HB.out
    go_enter Tryz.func83, Tryz.ntmps83
    go_wp2_with fail
    refine HP.out.mono ?_
    rintro e w1 ⟨rfl, hb1⟩
    have HB1 := hideB hb1
    have HC := hideB (readWord_any (H.out.below hb1) (by omega) ⟨#[116, 114, 117, 101]⟩ (by decide) (by simp))
    clear hb1
    go_wp2_with fail
    refine HC.out.mono ?_
    rintro e w2 ⟨⟨hw, rfl, hs2⟩ | ⟨hw, rfl⟩, hb2⟩
    · have HW : Hid (wordAt s.data.toList p trueW = true) := hw
      have HS2 := hideB hs2
      have HB2 := hideB ((But.of_below HB1.out).trans hb2)
      clear hw hs2 hb2
      go_wp2_with fail
      go_ret
      rw [HV.out, HW.out]
      exact ⟨.inl ⟨boolT 1, p + 4, _, p + 4, rfl, rfl, .inr (.inl ⟨rfl, rfl, rfl, rfl, rfl⟩), HS2.out, rfl, by omega⟩, HB2.out⟩
    · have HW : Hid (wordAt s.data.toList p trueW = false) := hw
      have HB2 := hideB ((But.of_below HB1.out).trans hb2)
      clear hw hb2
      unfold gup
      go_wp2_with fail
      rw [HV.out, HW.out]
      exact ⟨rfl, .inr ⟨rfl, rfl⟩, HB2.out⟩
  by_cases c4 : b = 34
  · subst c4
    have HV : Hid (V = (txJ s.data.toList (p + 1)).map (fun y => (wordT (txt y.1), y.2))) := by rw [Hid, ← HVV.out]; exact readJ_q HB.out
    have HAT := hideB (atOf HB.out (by omega))
    go_enter Tryz.func83, Tryz.ntmps83
    go_wp2_with fail
    refine HP.out.mono ?_
    rintro e w1 ⟨rfl, hb1⟩
    have HB1 := hideB hb1
    have HC := hideB (readText_any (H.out.below hb1) hs)
    clear hb1
    go_wp2_with fail
    refine HC.out.mono ?_
    rintro e w2 ⟨⟨l, q, _, htx, rfl, hs2⟩ | ⟨hw, rfl⟩, hb2⟩
    · have HW := hideB htx
      have hpq : p ≤ q := by have := (txJ_says _ _ _ _ (Nat.le_refl _) htx).1; omega
      have HS2 := hideB hs2
      have HB2 := hideB ((But.of_below HB1.out).trans hb2)
      clear htx hs2 hb2
      go_wp2_with fail
      go_ret
      rw [HV.out, HW.out]
      exact ⟨.inl ⟨wordT (txt l), q, _, q, rfl, rfl, .inr (.inr (.inr (.inl ⟨rfl, rfl, rfl, rfl, rfl⟩))), HS2.out, rfl, hpq⟩, HB2.out⟩
    · have HW : Hid (txJ s.data.toList (p + 1) = none) := by
        rcases hw with h | h
        · rw [HAT.out] at h; cases h
        · exact h
      have HB2 := hideB ((But.of_below HB1.out).trans hb2)
      clear hw hb2
      unfold gup
      go_wp2_with fail
      rw [HV.out, HW.out]
      exact ⟨rfl, .inr ⟨rfl, rfl⟩, HB2.out⟩
  by_cases c5 : b = 91
  · subst c5
    have HV : Hid (listJ s.data.toList (rdJ s.data.toList f) (p + 1) = V) := by rw [Hid, ← HVV.out]; exact (readJ_l HB.out).symm
    have HAT := hideB (atOf HB.out (by omega))
    go_enter Tryz.func83, Tryz.ntmps83
    go_wp2_with fail
    refine HP.out.mono ?_
    rintro e w1 ⟨rfl, hb1⟩
    have HB1 := hideB hb1
    have HC := hideB (readList_any HA.out (H.out.below hb1) hs hf HAT.out)
    rw [HV.out] at HC
    clear hb1
    go_wp2_with fail
    refine HC.out.mono ?_
    intro e w2 hj
    have HJ := hideB (hj.from (But.of_below HB1.out))
    obtain ⟨⟨t, q, x, z, h1, rfl, h3, h4⟩ | ⟨h1, rfl⟩, h5⟩ := hj
    · obtain ⟨ty, xx, rfl⟩ := h3.iface
      clear h1 h3 h4 h5
      go_wp2_with fail
      go_ret
      exact HJ.out
    · clear h1 h5
      unfold gup at HJ ⊢
      go_wp2_with fail
      exact ⟨rfl, HJ.out⟩
  by_cases c6 : b = 123
  · subst c6
    have HV : Hid (mapJ s.data.toList (rdJ s.data.toList f) (p + 1) = V) := by rw [Hid, ← HVV.out]; exact (readJ_m HB.out).symm
    have HAT := hideB (atOf HB.out (by omega))
    go_enter Tryz.func83, Tryz.ntmps83
    go_wp2_with fail
    refine HP.out.mono ?_
    rintro e w1 ⟨rfl, hb1⟩
    have HB1 := hideB hb1
    have HC := hideB (readMap_any HA.out (H.out.below hb1) hs hf HAT.out)
    rw [HV.out] at HC
    clear hb1
    go_wp2_with fail
    refine HC.out.mono ?_
    intro e w2 hj
    have HJ := hideB (hj.from (But.of_below HB1.out))
    obtain ⟨⟨t, q, x, z, h1, rfl, h3, h4⟩ | ⟨h1, rfl⟩, h5⟩ := hj
    · obtain ⟨ty, xx, rfl⟩ := h3.iface
      clear h1 h3 h4 h5
      go_wp2_with fail
      go_ret
      exact HJ.out
    · clear h1 h5
      unfold gup at HJ ⊢
      go_wp2_with fail
      exact ⟨rfl, HJ.out⟩
  · have HV : Hid (V = (numJ s.data.toList p).map (fun y => (numT y.1, y.2))) := by rw [Hid, ← HVV.out]; exact readJ_d (by rw [HB.out]; exact c1) (by rw [HB.out]; exact c3) (by rw [HB.out]; exact c2) (by rw [HB.out]; exact c4) (by rw [HB.out]; exact c5) (by rw [HB.out]; exact c6)
    have d1 : ((b : Int) == 110) = false := by simp; omega
    have d2 : ((b : Int) == 102) = false := by simp; omega
    have d3 : ((b : Int) == 116) = false := by simp; omega
    have d4 : ((b : Int) == 34) = false := by simp; omega
    have d5 : ((b : Int) == 91) = false := by simp; omega
    have d6 : ((b : Int) == 123) = false := by simp; omega
    have e1 : ¬ (b : Int) = 110 := by omega
    have e2 : ¬ (b : Int) = 102 := by omega
    have e3 : ¬ (b : Int) = 116 := by omega
    have e4 : ¬ (b : Int) = 34 := by omega
    have e5 : ¬ (b : Int) = 91 := by omega
    have e6 : ¬ (b : Int) = 123 := by omega
    go_enter Tryz.func83, Tryz.ntmps83
    go_wp2_with fail
    refine HP.out.mono ?_
    rintro e w1 ⟨rfl, hb1⟩
    have HB1 := hideB hb1
    have HC := hideB (readNumber_any (H.out.below hb1) hs)
    clear hb1
    go_wp2_with fail
    refine HC.out.mono ?_
    rintro e w2 ⟨⟨v, q, hn, rfl, hs2⟩ | ⟨hn, rfl⟩, hb2⟩
    · have HW := hideB hn
      have hpq : p ≤ q := by have := (numJ_lt hn).1; omega
      have HS2 := hideB hs2
      have HB2 := hideB ((But.of_below HB1.out).trans hb2)
      clear hn hs2 hb2
      go_wp2_with fail
      go_ret
      rw [HV.out, HW.out]
      exact ⟨.inl ⟨numT v, q, _, q, rfl, rfl, .inr (.inr (.inl ⟨rfl, rfl, rfl, rfl, rfl⟩)), HS2.out, rfl, hpq⟩, HB2.out⟩
    · have HW := hideB hn
      have HB2 := hideB ((But.of_below HB1.out).trans hb2)
      clear hn hb2
      unfold gup
      go_wp2_with fail
      rw [HV.out, HW.out]
      exact ⟨rfl, .inr ⟨rfl, rfl⟩, HB2.out⟩
theorem rdJ_yes {L : List UInt8} {f p q : Nat} {t : VT} (h : readJ L (rdJ L f) (skipJ L p) = some (t, q)) : rdJ L (f + 1) p = some (t, skipJ L q) := by rw [rdJ, h]
theorem rdJ_no {L : List UInt8} {f p : Nat} (h : readJ L (rdJ L f) (skipJ L p) = none) : rdJ L (f + 1) p = none := by rw [rdJ, h]

set_option maxRecDepth 100000 in
set_option maxHeartbeats 3200000 in
theorem around_any {rb : Nat} {s : ByteArray} (hs : s.size ≤ 4000) : ∀ f, AroundAll f rb s := by
  intro f
  induction f with
  | zero => intro p w h hf; have := h.br.le; omega
  | succ f ih =>
    intro p w h hf
    have HIH := hideIt ih
    have HSK := hideB (skip_any h (by omega))
    have HK1 := hideB (runJ_ge blankC s.data.toList p)
    have hrb := h.br.lt
    clear h ih
    go_enter Tryz.func51, Tryz.ntmps51
    go_wp2_with fail
    refine HSK.out.mono ?_
    rintro e w1 ⟨rfl, hs1, hb1⟩
    have HB1 := hideB hb1
    have HC := hideIt (read_any HIH.out hs1 hs (by have a1 : p ≤ skipJ s.data.toList p := HK1.out; omega))
    clear hs1 hb1
    go_wp2_with fail
    refine HC.out.mono ?_
    intro e w2 hj
    obtain ⟨⟨t, q, x, z, h1, rfl, h3, h4, h5, h6⟩ | ⟨h1, rfl⟩, hb2⟩ := hj.from HB1.out
    · obtain ⟨ty, xx, rfl⟩ := h3.iface
      have HR := hideIt (rdJ_yes h1)
      have HT := hideIt h3
      have HZ := hideIt h5
      have HB2 := hideIt hb2
      have HL : Hid (p ≤ z) := by have a1 : p ≤ skipJ s.data.toList p := HK1.out; exact Nat.le_trans a1 h6
      have HSK2 := hideB (skip_any h4 (by omega))
      have HK2 := hideB (runJ_ge blankC s.data.toList z)
      clear h1 h3 h4 h5 h6 hb2 hj
      go_wp2_with fail
      refine HSK2.out.mono ?_
      rintro e w3 ⟨rfl, hs3, hb3⟩
      have HS3 : Hid (SrAt w3 rb s (skipJ s.data.toList q)) := by rw [Hid, ← HZ.out]; exact hs3
      have HB3 := hideIt (HB2.out.trans hb3)
      have HL2 : Hid (p ≤ skipJ s.data.toList q) := by rw [Hid, ← HZ.out]; exact Nat.le_trans HL.out HK2.out
      have HT3 : Hid (TreeP (NewB w w3) w3 (f + 1) t (.iface ty xx)) := HT.out.keep (fun b hb' => hb3.block b hb'.2 (by have := hb'.1; omega)) (fun b hb' => ⟨hb'.1, Nat.lt_of_lt_of_le hb'.2 hb3.size⟩)
      clear hs3 hb3
      go_wp2_with fail
      go_ret
      exact ⟨.inl ⟨t, _, _, HR.out, rfl, HT3.out, HS3.out, HL2.out⟩, HB3.out⟩
    · have HR := hideIt (rdJ_no h1)
      have HB2 := hideIt hb2
      clear h1 hb2 hj
      unfold gup
      go_wp2_with fail
      exact ⟨rfl, .inr ⟨HR.out, rfl⟩, HB2.out⟩
end Go.Proofs.YtagcgnhpdmhegaaGreatDoor

/-
  Plain: trees whose nodes fit.
-/
namespace Go.Proofs.YtagcgnhpdmhegaaGreatDoor
open Go.RowKit
set_option linter.unusedSimpArgs false
set_option linter.unusedVariables false

def FitT : Nat → VT → Prop
  | 0, _ => False
  | f + 1, .mk kind n s keys kids => (1 ≤ kind ∧ kind ≤ 6) ∧ (-9223372036854775808 ≤ n ∧ n ≤ 9223372036854775807) ∧ s.size ≤ 100000 ∧ keys.length ≤ 100000 ∧ (∀ i, i < keys.length → (keyAt keys i).size ≤ 100000) ∧ kids.length ≤ 100000 ∧ ∀ j, j < kids.length → FitT f (kidT kids j)
theorem FitT.full : ∀ {f : Nat} {t : VT}, FitT f t → FullT f t
  | 0, _, h => h.elim
  | f + 1, .mk _ _ _ _ _, h => fun j hj => (h.2.2.2.2.2.2 j hj).full
theorem ksT_get (f sh : Nat) {l : List VT} : ∀ {m j : Nat}, j < m → m ≤ l.length → intAt (ksT f sh l m) j = ((sh + (accT f sh l (j + 1)).length : Nat) : Int) - 1 := by
  intro m
  induction m with
  | zero => intro j h; omega
  | succ m ih =>
    intro j hj hm
    have hl := ksT_len f sh l (k := m) (by omega)
    rw [ksT_succ f sh (by omega)]
    by_cases e : j < m
    · have := ih e (by omega)
      unfold intAt at this ⊢
      rw [List.getD_eq_getElem?_getD, List.getElem?_append_left (by omega), ← List.getD_eq_getElem?_getD]
      exact this
    · obtain rfl : j = m := by omega
      unfold intAt
      rw [List.getD_eq_getElem?_getD, List.getElem?_append_right (by omega), hl, Nat.sub_self]
      rfl
theorem fits_lay : ∀ {f : Nat} {t : VT}, FitT f t → ∀ sh, sh + (layT f t sh).length ≤ 1000000 → ∀ j, j < (layT f t sh).length → Fits (nodeAt (layT f t sh) j) := by
  intro f
  induction f with
  | zero => intro t h; exact h.elim
  | succ f ih =>
    intro t h sh hn
    obtain ⟨kind, n, s, keys, kids⟩ := t
    obtain ⟨h1, h2, h3, h4, h5, h6, h7⟩ := h
    rw [layT_eq] at hn ⊢
    rw [List.length_append, List.length_cons, List.length_nil] at hn ⊢
    have ha := acc_nodes f sh kids Fits kids.length (Nat.le_refl _)
    have hall : ∀ j, j < (accT f sh kids kids.length).length → Fits (nodeAt (accT f sh kids kids.length) j) := ha.2 (fun i hi => by
      refine ih (h7 i hi) _ ?_
      have hle := accT_le f sh kids (i + 1)
      rw [accT_succ f sh hi, List.length_append] at hle
      omega)
    intro j hj
    by_cases e : j < (accT f sh kids kids.length).length
    · rw [nodeAt_left e]; exact hall j e
    · obtain rfl : j = (accT f sh kids kids.length).length := by omega
      rw [nodeAt_right (Nat.le_refl _), Nat.sub_self]
      have hkl := ksT_len f sh kids (Nat.le_refl _)
      refine ⟨by show keys.length ≤ _; omega, fun i hi => by have := h5 i hi; show (keyAt keys i).size ≤ _; omega, by show (ksT f sh kids kids.length).length ≤ _; omega, fun i hi => ?_, by show s.size ≤ _; omega, by show _ ≤ kind; omega, by show kind ≤ _; omega, by show _ ≤ n; omega, by show n ≤ _; omega⟩
      have hi' : i < kids.length := by have : i < (ksT f sh kids kids.length).length := hi; omega
      have := ksT_get f sh (l := kids) hi' (Nat.le_refl _)
      have hle := accT_le f sh kids (i + 1)
      show -9223372036854775808 ≤ intAt (ksT f sh kids kids.length) i ∧ intAt (ksT f sh kids kids.length) i ≤ 9223372036854775807
      rw [this]
      omega
end Go.Proofs.YtagcgnhpdmhegaaGreatDoor

/-
  Plain: what is read has no more nodes than bytes, and each node fits.
-/
namespace Go.Proofs.YtagcgnhpdmhegaaGreatDoor
open Go.RowKit
set_option linter.unusedSimpArgs false
set_option linter.unusedVariables false

/-- What a reading gives is bounded by the bytes that it takes. -/
def RdOk (f : Nat) (L : List UInt8) (R : Nat → Option (VT × Nat)) : Prop := ∀ p t q, R p = some (t, q) → p < q ∧ q ≤ L.length ∧ (layT f t 0).length ≤ q - p ∧ FitT f t ∧ ∀ z, textOf t = some z → z.size ≤ L.length
theorem items_ok {f : Nat} {L : List UInt8} {R : Nat → Option (VT × Nat)} (H : RdOk f L R) : ∀ {k p : Nat} {l : List VT} {q : Nat}, p ≤ L.length → rdItems R k p = some (l, q) → p + k ≤ q ∧ q ≤ L.length ∧ sumL (fun i => layT f (kidT l i) 0) k ≤ q - p ∧ ∀ i, i < k → FitT f (kidT l i) := by
  intro k
  induction k with
  | zero =>
    intro p l q hp h
    simp [rdItems] at h
    obtain ⟨rfl, rfl⟩ := h
    exact ⟨by omega, hp, by simp [sumL], fun i hi => by omega⟩
  | succ k ih =>
    intro p l q hp h
    rw [rdItems_eq] at h
    cases e : R p with
    | none => simp [e] at h
    | some x =>
      obtain ⟨t, z⟩ := x
      simp only [e] at h
      cases e2 : rdItems R k z with
      | none => simp [e2] at h
      | some y =>
        obtain ⟨m, z2⟩ := y
        simp only [e2, Option.some.injEq, Prod.mk.injEq] at h
        obtain ⟨rfl, rfl⟩ := h
        obtain ⟨a1, a2, a3, a4, _⟩ := H _ _ _ e
        obtain ⟨b1, b2, b3, b4⟩ := ih a2 e2
        have hs : sumL (fun i => layT f (kidT (t :: m) i) 0) (k + 1) = (layT f t 0).length + sumL (fun i => layT f (kidT m i) 0) k := sumL_cons _ _
        refine ⟨by omega, b2, by rw [hs]; omega, fun i hi => ?_⟩
        cases i with
        | zero => exact a4
        | succ i => exact b4 i (by omega)
theorem pairs_ok {f : Nat} {L : List UInt8} {R : Nat → Option (VT × Nat)} (H : RdOk f L R) : ∀ {k p : Nat} {ks : List ByteArray} {l : List VT} {q : Nat}, p ≤ L.length → rdPairs R k p = some (ks, l, q) → p + k ≤ q ∧ q ≤ L.length ∧ sumL (fun i => layT f (kidT l i) 0) k ≤ q - p ∧ (∀ i, i < k → FitT f (kidT l i)) ∧ ∀ i, i < k → (keyAt ks i).size ≤ L.length := by
  intro k
  induction k with
  | zero =>
    intro p ks l q hp h
    simp [rdPairs] at h
    obtain ⟨rfl, rfl, rfl⟩ := h
    exact ⟨by omega, hp, by simp [sumL], fun i hi => by omega, fun i hi => by omega⟩
  | succ k ih =>
    intro p ks l q hp h
    rw [rdPairs] at h
    cases e : R p with
    | none => simp [e] at h
    | some x =>
      obtain ⟨t1, q1⟩ := x
      simp only [e] at h
      cases e1 : textOf t1 with
      | none => simp [e1] at h
      | some s1 =>
        simp only [e1] at h
        cases e2 : R q1 with
        | none => simp [e2] at h
        | some y =>
          obtain ⟨u1, r1⟩ := y
          simp only [e2] at h
          cases e3 : rdPairs R k r1 with
          | none => simp [e3] at h
          | some y =>
            obtain ⟨k1, m, z2⟩ := y
            simp only [e3, Option.some.injEq, Prod.mk.injEq] at h
            obtain ⟨rfl, rfl, rfl⟩ := h
            obtain ⟨a1, a2, a3, a4, a5⟩ := H _ _ _ e
            obtain ⟨c1, c2, c3, c4, _⟩ := H _ _ _ e2
            obtain ⟨b1, b2, b3, b4, b5⟩ := ih c2 e3
            have hs : sumL (fun i => layT f (kidT (u1 :: m) i) 0) (k + 1) = (layT f u1 0).length + sumL (fun i => layT f (kidT m i) 0) k := sumL_cons _ _
            refine ⟨by omega, b2, by rw [hs]; omega, fun i hi => ?_, fun i hi => ?_⟩
            · cases i with
              | zero => exact c4
              | succ i => exact b4 i (by omega)
            · cases i with
              | zero => exact a5 _ e1
              | succ i => exact b5 i (by omega)
theorem row_ok {f : Nat} {L : List UInt8} {R : Nat → Option (VT × Nat)} (H : RdOk f L R) (hL : L.length ≤ 4000) {named : Bool} {n p : Nat} {t : VT} {q : Nat} (hp : p ≤ L.length) (h : rowT R named n p = some (t, q)) : p ≤ q ∧ q ≤ L.length ∧ (layT (f + 1) t 0).length ≤ q - p + 1 ∧ FitT (f + 1) t ∧ ∀ z, textOf t = some z → z.size ≤ L.length := by
  have ht := textOf_row h
  have htz : ∀ z, textOf t = some z → z.size ≤ L.length := fun z hz => by rw [ht] at hz; cases hz
  unfold rowT at h
  cases named
  · simp only [Bool.false_eq_true, if_false] at h
    cases e : rdItems R n p with
    | none => simp [e] at h
    | some x =>
      obtain ⟨l, z⟩ := x
      simp only [e, Option.some.injEq, Prod.mk.injEq] at h
      obtain ⟨rfl, rfl⟩ := h
      obtain ⟨b1, b2, b3, b4⟩ := items_ok H hp e
      have hl := items_len e
      refine ⟨by omega, b2, by rw [listT_size, hl]; omega, ⟨by decide, by decide, by decide, by simp, fun i hi => absurd hi (by simp), by omega, fun j hj => b4 j (by omega)⟩, htz⟩
  · simp only [if_true] at h
    cases e : rdPairs R n p with
    | none => simp [e] at h
    | some x =>
      obtain ⟨ks, l, z⟩ := x
      simp only [e, Option.some.injEq, Prod.mk.injEq] at h
      obtain ⟨rfl, rfl⟩ := h
      obtain ⟨b1, b2, b3, b4, b5⟩ := pairs_ok H hp e
      obtain ⟨hl1, hl2, _⟩ := pairs_full (fun p t q h => (H p t q h).2.2.2.1.full) e
      have hsl := srt_len ks
      refine ⟨by omega, b2, by rw [mapT_size, hl1]; omega, ⟨by decide, by decide, by decide, by rw [List.length_map, hsl]; omega, fun i hi => ?_, by rw [List.length_map, hsl]; omega, fun j hj => ?_⟩, htz⟩
      · rw [List.length_map, hsl] at hi
        have e9 : keyAt ((srt ks).map (keyAt ks)) i = keyAt ks ((srt ks).getD i 0) := by
          conv => lhs; unfold keyAt
          rw [List.getD_eq_getElem?_getD, List.getElem?_map, List.getElem?_eq_getElem (by omega), List.getD_eq_getElem?_getD (l := srt ks), List.getElem?_eq_getElem (show i < (srt ks).length by omega)]
          rfl
        rw [e9]
        have := b5 ((srt ks).getD i 0) (by have := srt_lt hi; omega)
        omega
      · rw [List.length_map, hsl] at hj
        rw [kid_srt hj]
        exact b4 _ (by have := srt_lt hj; omega)
theorem num_ok {L : List UInt8} {p w n q : Nat} (h : numI L p w = some (n, q)) : n ≤ maxI ∧ q = p + w ∧ q ≤ L.length := by
  unfold numI at h
  split at h
  · rename_i hx
    simp only [Option.some.injEq, Prod.mk.injEq] at h
    obtain ⟨rfl, rfl⟩ := h
    exact ⟨hx.2, rfl, hx.1⟩
  · cases h
theorem word_ok {L : List UInt8} (hL : L.length ≤ 4000) {n p : Nat} {t : VT} {q : Nat} (h : wordI L n p = some (t, q)) (f : Nat) : p ≤ q ∧ q ≤ L.length ∧ (layT (f + 1) t 0).length = 1 ∧ FitT (f + 1) t ∧ ∀ z, textOf t = some z → z.size ≤ L.length := by
  unfold wordI at h
  split at h
  · rename_i hx
    simp only [Option.some.injEq, Prod.mk.injEq] at h
    obtain ⟨rfl, rfl⟩ := h
    have hz := cutT_size hx
    refine ⟨by omega, hx, rfl, ⟨by decide, by decide, by omega, by simp, fun i hi => absurd hi (by simp), by simp, fun j hj => absurd hj (by simp)⟩, fun z e => ?_⟩
    simp [textOf, wordT] at e
    subst e
    omega
  · cases h
theorem leaf_ok {f : Nat} {k n : Int} (hk : 1 ≤ k ∧ k ≤ 6 ∧ k ≠ 4) (hn : -9223372036854775808 ≤ n ∧ n ≤ 9223372036854775807) : (layT (f + 1) (.mk k n ByteArray.empty [] []) 0).length = 1 ∧ FitT (f + 1) (.mk k n ByteArray.empty [] []) ∧ textOf (.mk k n ByteArray.empty [] []) = none :=
  ⟨rfl, ⟨⟨hk.1, hk.2.1⟩, hn, by decide, by simp, fun i hi => absurd hi (by simp), by simp, fun j hj => absurd hj (by simp)⟩, by simp [textOf, hk.2.2]⟩
theorem rdC_ok (L : List UInt8) (hL : L.length ≤ 4000) : ∀ f, RdOk f L (rdC L f) := by
  intro f
  induction f with
  | zero => intro p t q h; simp [rdC] at h
  | succ f ih =>
    intro p t q h
    have leaf : ∀ {k n : Int} {q' : Nat}, p < q' → q' ≤ L.length → (1 ≤ k ∧ k ≤ 6 ∧ k ≠ 4) → (-9223372036854775808 ≤ n ∧ n ≤ 9223372036854775807) → some ((VT.mk k n ByteArray.empty [] [] : VT), q') = some (t, q) → p < q ∧ q ≤ L.length ∧ (layT (f + 1) t 0).length ≤ q - p ∧ FitT (f + 1) t ∧ ∀ z, textOf t = some z → z.size ≤ L.length := fun {k n q'} h1 h2 hk hn h => by
      simp only [Option.some.injEq, Prod.mk.injEq] at h
      obtain ⟨rfl, rfl⟩ := h
      obtain ⟨l1, l2, l3⟩ := leaf_ok (f := f) hk hn
      exact ⟨h1, h2, by omega, l2, fun z hz => by rw [l3] at hz; cases hz⟩
    by_cases hp : p < L.length
    rotate_left
    · rw [rdC_end (by omega)] at h; cases h
    by_cases b0 : byAt L p = 246
    · rw [rdC_null hp b0] at h; exact leaf (by omega) (by omega) (by decide) (by decide) h
    by_cases b1 : byAt L p = 244
    · rw [rdC_no hp b1] at h; exact leaf (by omega) (by omega) (by decide) (by decide) h
    by_cases b2 : byAt L p = 245
    · rw [rdC_yes hp b2] at h; exact leaf (by omega) (by omega) (by decide) (by decide) h
    rw [rdC_head hp (by omega)] at h
    cases e : headI L p with
    | none => rw [e] at h; cases h
    | some x =>
      obtain ⟨n, z⟩ := x
      rw [e] at h
      simp only at h
      have hh : p < z ∧ z ≤ L.length ∧ n ≤ maxI := by
        unfold headI at e
        split at e
        · simp only [Option.some.injEq, Prod.mk.injEq] at e; unfold maxI; omega
        · split at e
          · obtain ⟨c1, c2, c3⟩ := num_ok e
            have := two_pos (byAt L p % 32 - 24)
            exact ⟨by rw [c2]; omega, c3, c1⟩
          · cases e
      obtain ⟨h1, h2, h3⟩ := hh
      unfold maxI at h3
      unfold kindI at h
      split at h
      · exact leaf h1 h2 (by decide) (by omega) h
      split at h
      · exact leaf h1 h2 (by decide) (by omega) h
      split at h
      · obtain ⟨c1, c2, c3, c4, c5⟩ := word_ok hL h f
        exact ⟨by omega, c2, by omega, c4, c5⟩
      split at h
      · obtain ⟨c1, c2, c3, c4, c5⟩ := row_ok ih hL h2 h
        exact ⟨by omega, c2, by omega, c4, c5⟩
      split at h
      · obtain ⟨c1, c2, c3, c4, c5⟩ := row_ok ih hL h2 h
        exact ⟨by omega, c2, by omega, c4, c5⟩
      · cases h
end Go.Proofs.YtagcgnhpdmhegaaGreatDoor
