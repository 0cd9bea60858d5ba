/-
  The specification's l2Rj: a value with the blanks around it.
-/
import Derived.Test.YtagcgnhpdmhegaaGreatDoorSjL
import Derived.Test.YtagcgnhpdmhegaaGreatDoorSjP
namespace Go.Proofs.YtagcgnhpdmhegaaGreatDoor
open Go.RowKit
set_option linter.unusedSimpArgs false
set_option linter.unusedVariables false

theorem spJ_over {L : List UInt8} {f deep p c : Nat} (h : 80 ≤ c) : spJ L (f + 1) deep p c = none := by rw [spJ, if_pos h]
theorem spJ_at {L : List UInt8} {f deep p c : Nat} (h : ¬ 80 ≤ c) : spJ L (f + 1) deep p c = match spReadJ L (spJ L f (deep + 1)) (deep + 1) (skipJ L p) (c + 1) with | none => none | some (ns, q, d) => some (ns, skipJ L q, d) := by rw [spJ, if_neg h]; rfl
theorem spJ_none {L : List UInt8} {f deep p c : Nat} (h : ¬ 80 ≤ c) (hr : spReadJ L (spJ L f (deep + 1)) (deep + 1) (skipJ L p) (c + 1) = none) : spJ L (f + 1) deep p c = none := by rw [spJ_at h, hr]
theorem spJ_some {L : List UInt8} {f deep p c q d : Nat} {ns : List VN} (h : ¬ 80 ≤ c) (hr : spReadJ L (spJ L f (deep + 1)) (deep + 1) (skipJ L p) (c + 1) = some (ns, q, d)) : spJ L (f + 1) deep p c = some (ns, skipJ L q, d) := by rw [spJ_at h, hr]
theorem Nest.butJ {rb base : Nat} {w w' : World} {v : Value} {ns : List VN} {KV IV : Nat → Value} (h : Nest base w v ns KV IV) (hb : But rb w w') (hr : rb < base) : Nest base w' v ns KV IV := h.from (hb.fromJ hr)

set_option maxRecDepth 100000 in
set_option maxHeartbeats 6400000 in
theorem value_spoiltJ {rb p c deep : Nat} {s : ByteArray} {w : World} (h : SjAt w rb s p true c) (hs : s.size ≤ 4000) (hc : c ≤ 80) (hd : deep ≤ 8) :
    Calls Tryz.prog 31 #[.pointer (some ⟨rb, 0, none⟩), .int .i64 deep] w (ValJ rb s none w) := by
  have hrb := h.lt
  have HC1 := hideB (sjBlanks_any h hs)
  clear h
  go_enter Tryz.func31, Tryz.ntmps31
  go_wp2_with fail
  refine HC1.out.mono ?_
  rintro e w1 ⟨rfl, hsc, hb1⟩
  have HS1 := hideB hsc
  have HB1 := hideB hb1
  clear hsc hb1 HC1
  obtain ⟨c0, c1, c2, c3⟩ := HS1.out.cells
  have f3 := HS1.out.free 3
  have e1 : ((c + 1 : Nat) : Int) = (c : Int) + 1 := by omega
  obtain ⟨W2, hW2⟩ : ∃ W2, w1.setCell ⟨rb, 3, none⟩ (.int .i64 ((c : Int) + 1)) = W2 := ⟨_, rfl⟩
  have HS2 : Hid (SjAt W2 rb s (skipJ s.data.toList p) true (c + 1)) := by rw [Hid, ← hW2, ← e1]; exact HS1.out.setN (by omega)
  have HB2 : Hid (But rb w W2) := by rw [Hid, ← hW2]; exact HB1.out.trans (But.of_set _ _)
  have k3 := HS2.out.cells.2.2.2
  rw [e1] at k3
  clear e1
  by_cases g : c + 1 ≤ 80
  focus
    have g' : ¬ (80 : Int) < (c : Int) + 1 := by omega
    have HS3 := hideB HS2.out
    have HB3 := hideB HB2.out
    have HN := hideB (sNull_any W2)
    go_wp2_with fail
    refine HN.out.mono ?_
    rintro e w4 ⟨rfl, hn4, hb4⟩
    have HS4 := hideB (HS3.out.below hb4)
    have HB4 := hideB (HB3.out.trans (But.of_below hb4))
    have HN4 := hideB (hn4.low HB3.out.size)
    clear hn4 hb4 HN
    have hW3 : True := trivial
  rotate_left
  focus
    have g' : (80 : Int) < (c : Int) + 1 := by omega
    obtain ⟨W3, hW3⟩ : ∃ W3, W2.setCell ⟨rb, 2, none⟩ (.bool true) = W3 := ⟨_, rfl⟩
    have HS3 : Hid (SjAt W3 rb s (skipJ s.data.toList p) true (c + 1)) := by rw [Hid, ← hW3]; exact HS2.out.setB true
    have HB3 : Hid (But rb w W3) := by rw [Hid, ← hW3]; exact HB2.out.trans (But.of_set _ _)
    have k2 := HS2.out.cells.2.2.1
    have f2 := HS2.out.free 2
    have HN := hideB (sNull_any W3)
    go_wp2_with fail
    refine HN.out.mono ?_
    rintro e w4 ⟨rfl, hn4, hb4⟩
    have HS4 := hideB (HS3.out.below hb4)
    have HB4 := hideB (HB3.out.trans (But.of_below hb4))
    have HN4 := hideB (hn4.low HB3.out.size)
    clear hn4 hb4 HN
  all_goals
    clear hW2 hW3 c0 c1 c2 c3 f3 k3 HS1 HB1 HS2 HB2
    have HC10 := hideB (sjIs_no (u := ⟨#[110, 117, 108, 108]⟩) HS4.out hs (by show (4 : Nat) ≤ 1000; omega) (.inl rfl))
    go_wp2_with fail
    refine HC10.out.mono ?_
    rintro e x10 ⟨rfl, hsc, hbx⟩
    have HX10 := hideB hsc
    have HY10 := hideB (HB4.out.trans hbx)
    clear hsc hbx HC10
    have HC11 := hideB (sjIs_no (u := ⟨#[116, 114, 117, 101]⟩) HX10.out hs (by show (4 : Nat) ≤ 1000; omega) (.inl rfl))
    go_wp2_with fail
    refine HC11.out.mono ?_
    rintro e x11 ⟨rfl, hsc, hbx⟩
    have HX11 := hideB hsc
    have HY11 := hideB (HY10.out.trans hbx)
    clear hsc hbx HC11
    have HC12 := hideB (sjIs_no (u := ⟨#[102, 97, 108, 115, 101]⟩) HX11.out hs (by show (5 : Nat) ≤ 1000; omega) (.inl rfl))
    go_wp2_with fail
    refine HC12.out.mono ?_
    rintro e x12 ⟨rfl, hsc, hbx⟩
    have HX12 := hideB hsc
    have HY12 := hideB (HY11.out.trans hbx)
    clear hsc hbx HC12
    have HC13 := hideB (sjIs_no (u := ⟨#[34]⟩) HX12.out hs (by show (1 : Nat) ≤ 1000; omega) (.inl rfl))
    go_wp2_with fail
    refine HC13.out.mono ?_
    rintro e x13 ⟨rfl, hsc, hbx⟩
    have HX13 := hideB hsc
    have HY13 := hideB (HY12.out.trans hbx)
    clear hsc hbx HC13
    have HC14 := hideB (sjIs_no (u := ⟨#[91]⟩) HX13.out hs (by show (1 : Nat) ≤ 1000; omega) (.inl rfl))
    go_wp2_with fail
    refine HC14.out.mono ?_
    rintro e x14 ⟨rfl, hsc, hbx⟩
    have HX14 := hideB hsc
    have HY14 := hideB (HY13.out.trans hbx)
    clear hsc hbx HC14
    have HC15 := hideB (sjIs_no (u := ⟨#[123]⟩) HX14.out hs (by show (1 : Nat) ≤ 1000; omega) (.inl rfl))
    go_wp2_with fail
    refine HC15.out.mono ?_
    rintro e x15 ⟨rfl, hsc, hbx⟩
    have HX15 := hideB hsc
    have HY15 := hideB (HY14.out.trans hbx)
    clear hsc hbx HC15
    have HDG := hideB (sjDigits_any HX15.out hs)
    go_wp2_with fail
    refine HDG.out.mono ?_
    rintro e w5 ⟨hb5, n, q5, b5, a5, k5, rfl, hn5, hsc5, hb5', _⟩
    have e5 := hb5' rfl
    subst e5
    have HCB := hideB (sjBlanks_any hsc5 hs)
    have HB5 := hideB (HY15.out.trans hb5)
    clear hb5 hsc5 hn5 hb5' HDG
    go_wp2_with fail
    refine HCB.out.mono ?_
    rintro e w6 ⟨rfl, hsc6, hb6⟩
    have HS6 := hideB hsc6
    have HB6 := hideB (HB5.out.trans hb6)
    clear hsc6 hb6 HCB
    go_wp2_with fail
    go_ret
    exact ⟨_, _, _, rfl, HB6.out, .inr ⟨rfl, c + 1, by omega, _, HS6.out⟩⟩

set_option maxRecDepth 100000 in
set_option maxHeartbeats 12800000 in
theorem value_anyJ {rb : Nat} {s : ByteArray} (hs : s.size ≤ 4000) : ∀ (f deep p c : Nat) (w : World), SjAt w rb s p false c → c ≤ 80 → deep ≤ 8 → s.size + 1 ≤ p + f →
    Calls Tryz.prog 31 #[.pointer (some ⟨rb, 0, none⟩), .int .i64 deep] w (ValJ rb s (spJ s.data.toList f deep p c) w) := by
  intro f
  induction f with
  | zero => intro deep p c w h hc hd hf; have := h.le; omega
  | succ f ih =>
  intro deep p c w h hc hd hf
  have hrb := h.lt
  have hle := h.le
  have HLN := hideB (len_is s)
  have HIH := hideB ih
  have HC1 := hideB (sjBlanks_any h hs)
  have hpp : p ≤ skipJ s.data.toList p := runJ_ge _ _ _
  clear h ih
  go_enter Tryz.func31, Tryz.ntmps31
  go_wp2_with fail
  refine HC1.out.mono ?_
  rintro e w1 ⟨rfl, hsc, hb1⟩
  have HS1 := hideB hsc
  have HB1 := hideB hb1
  clear hsc hb1 HC1
  obtain ⟨c0, c1, c2, c3⟩ := HS1.out.cells
  have f3 := HS1.out.free 3
  have e1 : ((c + 1 : Nat) : Int) = (c : Int) + 1 := by omega
  obtain ⟨W2, hW2⟩ : ∃ W2, w1.setCell ⟨rb, 3, none⟩ (.int .i64 ((c : Int) + 1)) = W2 := ⟨_, rfl⟩
  have HS2 : Hid (SjAt W2 rb s (skipJ s.data.toList p) false (c + 1)) := by rw [Hid, ← hW2, ← e1]; exact HS1.out.setN (by omega)
  have HB2 : Hid (But rb w W2) := by rw [Hid, ← hW2]; exact HB1.out.trans (But.of_set _ _)
  have k3 := HS2.out.cells.2.2.2
  rw [e1] at k3
  clear e1
  by_cases g : c + 1 ≤ 80
  rotate_left
  · have g' : (80 : Int) < (c : Int) + 1 := by omega
    have HNO : Hid (spJ s.data.toList (f + 1) deep p c = none) := spJ_over (by omega)
    obtain ⟨W3, hW3⟩ : ∃ W3, W2.setCell ⟨rb, 2, none⟩ (.bool true) = W3 := ⟨_, rfl⟩
    have HS3 : Hid (SjAt W3 rb s (skipJ s.data.toList p) true (c + 1)) := by rw [Hid, ← hW3]; exact HS2.out.setB true
    have HB3 : Hid (But rb w W3) := by rw [Hid, ← hW3]; exact HB2.out.trans (But.of_set _ _)
    have k2 := HS2.out.cells.2.2.1
    have f2 := HS2.out.free 2
    have HN := hideB (sNull_any W3)
    go_wp2_with fail
    refine HN.out.mono ?_
    rintro e w4 ⟨rfl, hn4, hb4⟩
    have HS4 := hideB (HS3.out.below hb4)
    have HB4 := hideB (HB3.out.trans (But.of_below hb4))
    have HN4 := hideB (hn4.low HB3.out.size)
    clear hn4 hb4 HN
    clear hW2 hW3 c0 c1 c2 c3 f3 k3 HS1 HB1 HS2 HB2
    have HC10 := hideB (sjIs_no (u := ⟨#[110, 117, 108, 108]⟩) HS4.out hs (by show (4 : Nat) ≤ 1000; omega) (.inl rfl))
    go_wp2_with fail
    refine HC10.out.mono ?_
    rintro e x10 ⟨rfl, hsc, hbx⟩
    have HX10 := hideB hsc
    have HY10 := hideB (HB4.out.trans hbx)
    clear hsc hbx HC10
    have HC11 := hideB (sjIs_no (u := ⟨#[116, 114, 117, 101]⟩) HX10.out hs (by show (4 : Nat) ≤ 1000; omega) (.inl rfl))
    go_wp2_with fail
    refine HC11.out.mono ?_
    rintro e x11 ⟨rfl, hsc, hbx⟩
    have HX11 := hideB hsc
    have HY11 := hideB (HY10.out.trans hbx)
    clear hsc hbx HC11
    have HC12 := hideB (sjIs_no (u := ⟨#[102, 97, 108, 115, 101]⟩) HX11.out hs (by show (5 : Nat) ≤ 1000; omega) (.inl rfl))
    go_wp2_with fail
    refine HC12.out.mono ?_
    rintro e x12 ⟨rfl, hsc, hbx⟩
    have HX12 := hideB hsc
    have HY12 := hideB (HY11.out.trans hbx)
    clear hsc hbx HC12
    have HC13 := hideB (sjIs_no (u := ⟨#[34]⟩) HX12.out hs (by show (1 : Nat) ≤ 1000; omega) (.inl rfl))
    go_wp2_with fail
    refine HC13.out.mono ?_
    rintro e x13 ⟨rfl, hsc, hbx⟩
    have HX13 := hideB hsc
    have HY13 := hideB (HY12.out.trans hbx)
    clear hsc hbx HC13
    have HC14 := hideB (sjIs_no (u := ⟨#[91]⟩) HX13.out hs (by show (1 : Nat) ≤ 1000; omega) (.inl rfl))
    go_wp2_with fail
    refine HC14.out.mono ?_
    rintro e x14 ⟨rfl, hsc, hbx⟩
    have HX14 := hideB hsc
    have HY14 := hideB (HY13.out.trans hbx)
    clear hsc hbx HC14
    have HC15 := hideB (sjIs_no (u := ⟨#[123]⟩) HX14.out hs (by show (1 : Nat) ≤ 1000; omega) (.inl rfl))
    go_wp2_with fail
    refine HC15.out.mono ?_
    rintro e x15 ⟨rfl, hsc, hbx⟩
    have HX15 := hideB hsc
    have HY15 := hideB (HY14.out.trans hbx)
    clear hsc hbx HC15
    have HDG := hideB (sjDigits_any HX15.out hs)
    go_wp2_with fail
    refine HDG.out.mono ?_
    rintro e w5 ⟨hb5, n, q5, b5, a5, k5, rfl, hn5, hsc5, hb5', _⟩
    have e5 := hb5' rfl
    subst e5
    have HCB := hideB (sjBlanks_any hsc5 hs)
    have HB5 := hideB (HY15.out.trans hb5)
    clear hb5 hsc5 hn5 hb5' HDG
    go_wp2_with fail
    refine HCB.out.mono ?_
    rintro e w6 ⟨rfl, hsc6, hb6⟩
    have HS6 := hideB hsc6
    have HB6 := hideB (HB5.out.trans hb6)
    clear hsc6 hb6 HCB
    go_wp2_with fail
    go_ret
    exact ⟨_, _, _, rfl, HB6.out, .inr ⟨HNO.out, c + 1, by omega, _, HS6.out⟩⟩
  have g' : ¬ (80 : Int) < (c : Int) + 1 := by omega
  have h80 : ¬ 80 ≤ c := by omega
  have HS3 := hideB HS2.out
  have HB3 := hideB HB2.out
  have HN := hideB (sNull_any W2)
  go_wp2_with fail
  refine HN.out.mono ?_
  rintro e w4 ⟨rfl, hn4, hb4⟩
  have HS4 := hideB (HS3.out.below hb4)
  have HB4 := hideB (HB3.out.trans (But.of_below hb4))
  have HN4 := hideB (hn4.low HB3.out.size)
  clear hn4 hb4 HN
  clear hW2 c0 c1 c2 c3 f3 k3 HS1 HB1 HS2 HB2 HS3 HB3
  have HJY : Hid (∀ ns q d, spReadJ s.data.toList (spJ s.data.toList f (deep + 1)) (deep + 1) (skipJ s.data.toList p) (c + 1) = some (ns, q, d) → spJ s.data.toList (f + 1) deep p c = some (ns, skipJ s.data.toList q, d)) := fun ns q d hr => spJ_some h80 hr
  have HJN : Hid (spReadJ s.data.toList (spJ s.data.toList f (deep + 1)) (deep + 1) (skipJ s.data.toList p) (c + 1) = none → spJ s.data.toList (f + 1) deep p c = none) := fun hr => spJ_none h80 hr
  clear h80
  have hP : p ≤ skipJ s.data.toList p := hpp
  clear hpp
  have HRD : Hid (spReadJ s.data.toList (spJ s.data.toList f (deep + 1)) (deep + 1) (skipJ s.data.toList p) (c + 1) = spReadJ s.data.toList (spJ s.data.toList f (deep + 1)) (deep + 1) (skipJ s.data.toList p) (c + 1)) := rfl
  obtain ⟨P, hPP⟩ : ∃ P, skipJ s.data.toList p = P := ⟨_, rfl⟩
  rw [hPP] at HS4 HJY HJN hP
  clear hPP HRD
  obtain ⟨C, hC⟩ : ∃ C, c + 1 = C := ⟨_, rfl⟩
  rw [hC] at HS4 HJY HJN g
  have hC1 : 1 ≤ C := by omega
  clear hC g'
  cases n0 : wordAt s.data.toList P nullW
  rotate_left
  · have HR := hideB (HJY.out (leafN 1 0 ByteArray.empty) (P + 4) C (by unfold spReadJ; rw [if_pos n0]; rfl))
    have HCY := hideB (sjIs_yes (u := ⟨#[110, 117, 108, 108]⟩) HS4.out hs (by show (4 : Nat) ≤ 1000; omega) (by simp) n0)
    have e6 : P + (ByteArray.mk #[110, 117, 108, 108]).size = P + 4 := rfl
    rw [e6] at HCY
    clear e6
    go_wp2_with fail
    refine HCY.out.mono ?_
    rintro e w5 ⟨rfl, hsc5, hb5⟩
    have HS5 := hideB hsc5
    have HB5 := hideB (HB4.out.trans hb5)
    have HN5 := hideB (HN4.out.butJ hb5 hrb)
    clear hsc5 hb5 HCY
    have HCB := hideB (sjBlanks_any HS5.out hs)
    go_wp2_with fail
    refine HCB.out.mono ?_
    rintro e w9 ⟨rfl, hsc9, hb9⟩
    have HS9 := hideB hsc9
    have HN9 := hideB (HN5.out.butJ hb9 hrb)
    have HB9 := hideB (HB5.out.trans hb9)
    clear hsc9 hb9 HCB
    go_wp2_with fail
    go_ret
    exact ⟨_, _, _, rfl, HB9.out, .inl ⟨_, _, _, _, _, HR.out, rfl, HN9.out, HS9.out⟩⟩
  have HC10 := hideB (sjIs_no (u := ⟨#[110, 117, 108, 108]⟩) HS4.out hs (by show (4 : Nat) ≤ 1000; omega) (.inr n0))
  go_wp2_with fail
  refine HC10.out.mono ?_
  rintro e x10 ⟨rfl, hsc, hbx⟩
  have HX10 := hideB hsc
  have HY10 := hideB (HB4.out.trans hbx)
  clear hsc hbx HC10
  cases n1 : wordAt s.data.toList P trueW
  rotate_left
  · have HR := hideB (HJY.out (leafN 2 1 ByteArray.empty) (P + 4) C (by unfold spReadJ; rw [if_neg (by rw [n0]; simp)]; rw [if_pos n1]; rfl))
    have HCY := hideB (sjIs_yes (u := ⟨#[116, 114, 117, 101]⟩) HX10.out hs (by show (4 : Nat) ≤ 1000; omega) (by simp) n1)
    have e6 : P + (ByteArray.mk #[116, 114, 117, 101]).size = P + 4 := rfl
    rw [e6] at HCY
    clear e6
    go_wp2_with fail
    refine HCY.out.mono ?_
    rintro e w5 ⟨rfl, hsc5, hb5⟩
    have HS5 := hideB hsc5
    have HB5 := hideB (HY10.out.trans hb5)
    clear hsc5 hb5 HCY
    have HBO := hideB (sBool_any true w5)
    go_wp2_with fail
    refine HBO.out.mono ?_
    rintro e w6 ⟨rfl, hn6, hb6⟩
    have HS6 := hideB (HS5.out.below hb6)
    have HB6 := hideB (HB5.out.trans (But.of_below hb6))
    have HN6 := hideB (hn6.low HB5.out.size)
    clear hn6 hb6 HBO
    have HCB := hideB (sjBlanks_any HS6.out hs)
    go_wp2_with fail
    refine HCB.out.mono ?_
    rintro e w9 ⟨rfl, hsc9, hb9⟩
    have HS9 := hideB hsc9
    have HN9 := hideB (HN6.out.butJ hb9 hrb)
    have HB9 := hideB (HB6.out.trans hb9)
    clear hsc9 hb9 HCB
    go_wp2_with fail
    go_ret
    exact ⟨_, _, _, rfl, HB9.out, .inl ⟨_, _, _, _, _, HR.out, rfl, HN9.out, HS9.out⟩⟩
  have HC11 := hideB (sjIs_no (u := ⟨#[116, 114, 117, 101]⟩) HX10.out hs (by show (4 : Nat) ≤ 1000; omega) (.inr n1))
  go_wp2_with fail
  refine HC11.out.mono ?_
  rintro e x11 ⟨rfl, hsc, hbx⟩
  have HX11 := hideB hsc
  have HY11 := hideB (HY10.out.trans hbx)
  clear hsc hbx HC11
  cases n2 : wordAt s.data.toList P falseW
  rotate_left
  · have HR := hideB (HJY.out (leafN 2 0 ByteArray.empty) (P + 5) C (by unfold spReadJ; rw [if_neg (by rw [n0]; simp)]; rw [if_neg (by rw [n1]; simp)]; rw [if_pos n2]; rfl))
    have HCY := hideB (sjIs_yes (u := ⟨#[102, 97, 108, 115, 101]⟩) HX11.out hs (by show (5 : Nat) ≤ 1000; omega) (by simp) n2)
    have e6 : P + (ByteArray.mk #[102, 97, 108, 115, 101]).size = P + 5 := rfl
    rw [e6] at HCY
    clear e6
    go_wp2_with fail
    refine HCY.out.mono ?_
    rintro e w5 ⟨rfl, hsc5, hb5⟩
    have HS5 := hideB hsc5
    have HB5 := hideB (HY11.out.trans hb5)
    clear hsc5 hb5 HCY
    have HBO := hideB (sBool_any false w5)
    go_wp2_with fail
    refine HBO.out.mono ?_
    rintro e w6 ⟨rfl, hn6, hb6⟩
    have HS6 := hideB (HS5.out.below hb6)
    have HB6 := hideB (HB5.out.trans (But.of_below hb6))
    have HN6 := hideB (hn6.low HB5.out.size)
    clear hn6 hb6 HBO
    have HCB := hideB (sjBlanks_any HS6.out hs)
    go_wp2_with fail
    refine HCB.out.mono ?_
    rintro e w9 ⟨rfl, hsc9, hb9⟩
    have HS9 := hideB hsc9
    have HN9 := hideB (HN6.out.butJ hb9 hrb)
    have HB9 := hideB (HB6.out.trans hb9)
    clear hsc9 hb9 HCB
    go_wp2_with fail
    go_ret
    exact ⟨_, _, _, rfl, HB9.out, .inl ⟨_, _, _, _, _, HR.out, rfl, HN9.out, HS9.out⟩⟩
  have HC12 := hideB (sjIs_no (u := ⟨#[102, 97, 108, 115, 101]⟩) HX11.out hs (by show (5 : Nat) ≤ 1000; omega) (.inr n2))
  go_wp2_with fail
  refine HC12.out.mono ?_
  rintro e x12 ⟨rfl, hsc, hbx⟩
  have HX12 := hideB hsc
  have HY12 := hideB (HY11.out.trans hbx)
  clear hsc hbx HC12
  cases n3 : isAt s.data.toList P 34
  rotate_left
  · have HRT : Hid (spReadJ s.data.toList (spJ s.data.toList f (deep + 1)) (deep + 1) P C = match txJ s.data.toList (P + 1) with | none => none | some (l, q) => if l.length ≤ 60 then some (layT 1 (wordT (txt l)) 0, q, C) else none) := by rw [Hid]; unfold spReadJ; rw [if_neg (by rw [n0]; simp)]; rw [if_neg (by rw [n1]; simp)]; rw [if_neg (by rw [n2]; simp)]; rw [if_pos n3]; rfl
    have HCY := hideB (sjIs_yes (u := ⟨#[34]⟩) HX12.out hs (by show (1 : Nat) ≤ 1000; omega) (by simp) (by show wordAt _ _ [34] = true; rw [wordAt_one]; exact n3))
    have e6 : P + (ByteArray.mk #[34]).size = P + 1 := rfl
    rw [e6] at HCY
    clear e6
    go_wp2_with fail
    refine HCY.out.mono ?_
    rintro e w5 ⟨rfl, hsc5, hb5⟩
    have HS5 := hideB hsc5
    have HB5 := hideB (HY12.out.trans hb5)
    clear hsc5 hb5 HCY
    have HCQ := hideB (sjQuoted_any HS5.out hs)
    go_wp2_with fail
    refine HCQ.out.mono ?_
    rintro e w6 ⟨hb6, t, q, b, rfl, ht, hsc6, hor⟩
    have HS6 := hideB hsc6
    have HB6 := hideB (HB5.out.trans hb6)
    have HWO := hideB (sWord_any t w6)
    have HOR := hideB hor
    clear hsc6 hb6 HCQ hor
    go_wp2_with fail
    refine HWO.out.mono ?_
    rintro e w7 ⟨rfl, hn7, hb7⟩
    have HS7 := hideB (HS6.out.below hb7)
    have HB7 := hideB (HB6.out.trans (But.of_below hb7))
    have HN7 := hideB (hn7.low HB6.out.size)
    clear hn7 hb7 HWO
    rcases HOR.out with ⟨l, x1, x2, x3, x4⟩ | ⟨x1, x2⟩
    · subst x4
      have HR := hideB (HJY.out (leafN 4 0 t) q C (by rw [HRT.out, x1]; simp only [if_pos x2]; rw [x3]; rfl))
      clear x1 x2 x3
      have HCB := hideB (sjBlanks_any HS7.out hs)
      go_wp2_with fail
      refine HCB.out.mono ?_
      rintro e w9 ⟨rfl, hsc9, hb9⟩
      have HS9 := hideB hsc9
      have HN9 := hideB (HN7.out.butJ hb9 hrb)
      have HB9 := hideB (HB7.out.trans hb9)
      clear hsc9 hb9 HCB
      go_wp2_with fail
      go_ret
      exact ⟨_, _, _, rfl, HB9.out, .inl ⟨_, _, _, _, _, HR.out, rfl, HN9.out, HS9.out⟩⟩
    · subst x1
      have HR : Hid (spJ s.data.toList (f + 1) deep p c = none) := HJN.out (by
        rw [HRT.out]
        cases e : txJ s.data.toList (P + 1) with
        | none => rfl
        | some y =>
          obtain ⟨l, z⟩ := y
          have := x2 l z e
          dsimp only
          rw [if_neg (by omega)])
      clear x2
      have HCB := hideB (sjBlanks_any HS7.out hs)
      go_wp2_with fail
      refine HCB.out.mono ?_
      rintro e w9 ⟨rfl, hsc9, hb9⟩
      have HS9 := hideB hsc9
      have HB9 := hideB (HB7.out.trans hb9)
      clear hsc9 hb9 HCB
      go_wp2_with fail
      go_ret
      exact ⟨_, _, _, rfl, HB9.out, .inr ⟨HR.out, C, by omega, _, HS9.out⟩⟩
  have HC13 := hideB (sjIs_no (u := ⟨#[34]⟩) HX12.out hs (by show (1 : Nat) ≤ 1000; omega) (.inr (by show wordAt _ _ [34] = false; rw [wordAt_one]; exact n3)))
  go_wp2_with fail
  refine HC13.out.mono ?_
  rintro e x13 ⟨rfl, hsc, hbx⟩
  have HX13 := hideB hsc
  have HY13 := hideB (HY12.out.trans hbx)
  clear hsc hbx HC13
  cases n4 : isAt s.data.toList P 91
  rotate_left
  · have HRT : Hid (spReadJ s.data.toList (spJ s.data.toList f (deep + 1)) (deep + 1) P C = spListJ s.data.toList (spJ s.data.toList f (deep + 1)) (deep + 1) (P + 1) C) := by rw [Hid]; unfold spReadJ; rw [if_neg (by rw [n0]; simp)]; rw [if_neg (by rw [n1]; simp)]; rw [if_neg (by rw [n2]; simp)]; rw [if_neg (by rw [n3]; simp)]; rw [if_pos n4]
    have HCY := hideB (sjIs_yes (u := ⟨#[91]⟩) HX13.out hs (by show (1 : Nat) ≤ 1000; omega) (by simp) (by show wordAt _ _ [91] = true; rw [wordAt_one]; exact n4))
    have e6 : P + (ByteArray.mk #[91]).size = P + 1 := rfl
    rw [e6] at HCY
    clear e6
    go_wp2_with fail
    refine HCY.out.mono ?_
    rintro e w5 ⟨rfl, hsc5, hb5⟩
    have HS5 := hideB hsc5
    have HB5 := hideB (HY13.out.trans hb5)
    clear hsc5 hb5 HCY
    have e9 : ((deep + 1 : Nat) : Int) = (deep : Int) + 1 := by omega
    have HROW : Hid (Calls Tryz.prog 66 #[.pointer (some ⟨rb, 0, none⟩), .string ⟨#[93]⟩, .bool false, .int .i64 ((deep : Int) + 1)] w5 (ValJ rb s (spListJ s.data.toList (spJ s.data.toList f (deep + 1)) (deep + 1) (P + 1) C) w5)) := by
      cases hat : isAt s.data.toList (skipJ s.data.toList (P + 1)) 93
      · by_cases hd8 : deep + 1 ≤ 8
        · have := row_listJ HS5.out hs hC1 g hd8 (ok_json s.data.toList f (deep + 1)) (fun p c => spJ_skip s.data.toList f (deep + 1) p c) hat (fun w' q' d' y1 y2 y3 => HIH.out (deep + 1) q' d' w' y1 y2 hd8 (by omega))
          rw [e9] at this
          exact this
        · have e8 : deep + 1 = 9 := by omega
          have := row_deepJ (named := false) (u := ⟨#[93]⟩) HS5.out hs (by omega) rfl (by show wordAt _ _ [93] = false; rw [wordAt_one]; exact hat)
          have h0 : spListJ s.data.toList (spJ s.data.toList f (deep + 1)) (deep + 1) (P + 1) C = none := by unfold spListJ; rw [if_neg (by rw [hat]; simp), if_pos (by omega)]
          rw [Hid, h0, ← e9, e8]
          exact this
      · have := row_emptyJ (named := false) (deep := deep + 1) (u := ⟨#[93]⟩) HS5.out hs rfl (by show wordAt _ _ [93] = true; rw [wordAt_one]; exact hat)
        have h0 : spListJ s.data.toList (spJ s.data.toList f (deep + 1)) (deep + 1) (P + 1) C = some (makeNs 5 [] (fun _ => []) 0, skipJ s.data.toList (P + 1) + 1, C) := by unfold spListJ; rw [if_pos hat]
        rw [Hid, h0, ← e9]
        exact this
    clear e9
    go_wp2_with fail
    refine HROW.out.mono ?_
    rintro e w6 ⟨a6, k6, c6, rfl, hb6, hor⟩
    have HB6 := hideB (HB5.out.trans hb6)
    have z5 := HB5.out.size
    rcases hor with ⟨ns, q, d, KV, IV, x1, x2, x3, x4⟩ | ⟨x1, d, x2, p6, x3⟩
    · have HS6 := hideB x4
      have HN6 := hideB (x3.low z5)
      have HR := hideB (HJY.out ns q d (by rw [HRT.out]; exact x1))
      have HX2 := hideB x2
      clear x1 x2 x3 x4 hb6 HROW
      have HCB := hideB (sjBlanks_any HS6.out hs)
      go_wp2_with fail
      refine HCB.out.mono ?_
      rintro e w9 ⟨rfl, hsc9, hb9⟩
      have HS9 := hideB hsc9
      have HN9 := hideB (HN6.out.butJ hb9 hrb)
      have HB9 := hideB (HB6.out.trans hb9)
      clear hsc9 hb9 HCB
      go_wp2_with fail
      go_ret
      exact ⟨_, _, _, rfl, HB9.out, .inl ⟨_, _, _, _, _, HR.out, HX2.out, HN9.out, HS9.out⟩⟩
    · have HS6 := hideB x3
      have HR := hideB (HJN.out (by rw [HRT.out]; exact x1))
      clear x1 x3 hb6 HROW
      have HCB := hideB (sjBlanks_any HS6.out hs)
      go_wp2_with fail
      refine HCB.out.mono ?_
      rintro e w9 ⟨rfl, hsc9, hb9⟩
      have HS9 := hideB hsc9
      have HB9 := hideB (HB6.out.trans hb9)
      clear hsc9 hb9 HCB
      go_wp2_with fail
      go_ret
      exact ⟨_, _, _, rfl, HB9.out, .inr ⟨HR.out, d, x2, _, HS9.out⟩⟩
  have HC14 := hideB (sjIs_no (u := ⟨#[91]⟩) HX13.out hs (by show (1 : Nat) ≤ 1000; omega) (.inr (by show wordAt _ _ [91] = false; rw [wordAt_one]; exact n4)))
  go_wp2_with fail
  refine HC14.out.mono ?_
  rintro e x14 ⟨rfl, hsc, hbx⟩
  have HX14 := hideB hsc
  have HY14 := hideB (HY13.out.trans hbx)
  clear hsc hbx HC14
  cases n5 : isAt s.data.toList P 123
  rotate_left
  · have HRT : Hid (spReadJ s.data.toList (spJ s.data.toList f (deep + 1)) (deep + 1) P C = spMapJ s.data.toList (spJ s.data.toList f (deep + 1)) (deep + 1) (P + 1) C) := by rw [Hid]; unfold spReadJ; rw [if_neg (by rw [n0]; simp)]; rw [if_neg (by rw [n1]; simp)]; rw [if_neg (by rw [n2]; simp)]; rw [if_neg (by rw [n3]; simp)]; rw [if_neg (by rw [n4]; simp)]; rw [if_pos n5]
    have HCY := hideB (sjIs_yes (u := ⟨#[123]⟩) HX14.out hs (by show (1 : Nat) ≤ 1000; omega) (by simp) (by show wordAt _ _ [123] = true; rw [wordAt_one]; exact n5))
    have e6 : P + (ByteArray.mk #[123]).size = P + 1 := rfl
    rw [e6] at HCY
    clear e6
    go_wp2_with fail
    refine HCY.out.mono ?_
    rintro e w5 ⟨rfl, hsc5, hb5⟩
    have HS5 := hideB hsc5
    have HB5 := hideB (HY14.out.trans hb5)
    clear hsc5 hb5 HCY
    have e9 : ((deep + 1 : Nat) : Int) = (deep : Int) + 1 := by omega
    have HROW : Hid (Calls Tryz.prog 66 #[.pointer (some ⟨rb, 0, none⟩), .string ⟨#[125]⟩, .bool true, .int .i64 ((deep : Int) + 1)] w5 (ValJ rb s (spMapJ s.data.toList (spJ s.data.toList f (deep + 1)) (deep + 1) (P + 1) C) w5)) := by
      cases hat : isAt s.data.toList (skipJ s.data.toList (P + 1)) 125
      · by_cases hd8 : deep + 1 ≤ 8
        · have := row_mapJ HS5.out hs hC1 g hd8 (ok_json s.data.toList f (deep + 1)) hat (fun w' q' d' y1 y2 y3 => HIH.out (deep + 1) q' d' w' y1 y2 hd8 (by omega)) (fun w' q' d' y1 y2 => value_spoiltJ y1 hs y2 hd8)
          rw [e9] at this
          exact this
        · have e8 : deep + 1 = 9 := by omega
          have := row_deepJ (named := true) (u := ⟨#[125]⟩) HS5.out hs (by omega) rfl (by show wordAt _ _ [125] = false; rw [wordAt_one]; exact hat)
          have h0 : spMapJ s.data.toList (spJ s.data.toList f (deep + 1)) (deep + 1) (P + 1) C = none := by unfold spMapJ; rw [if_neg (by rw [hat]; simp), if_pos (by omega)]
          rw [Hid, h0, ← e9, e8]
          exact this
      · have := row_emptyJ (named := true) (deep := deep + 1) (u := ⟨#[125]⟩) HS5.out hs rfl (by show wordAt _ _ [125] = true; rw [wordAt_one]; exact hat)
        have h0 : spMapJ s.data.toList (spJ s.data.toList f (deep + 1)) (deep + 1) (P + 1) C = some (makeNs 6 [] (fun _ => []) 0, skipJ s.data.toList (P + 1) + 1, C) := by unfold spMapJ; rw [if_pos hat]
        rw [Hid, h0, ← e9]
        exact this
    clear e9
    go_wp2_with fail
    refine HROW.out.mono ?_
    rintro e w6 ⟨a6, k6, c6, rfl, hb6, hor⟩
    have HB6 := hideB (HB5.out.trans hb6)
    have z5 := HB5.out.size
    rcases hor with ⟨ns, q, d, KV, IV, x1, x2, x3, x4⟩ | ⟨x1, d, x2, p6, x3⟩
    · have HS6 := hideB x4
      have HN6 := hideB (x3.low z5)
      have HR := hideB (HJY.out ns q d (by rw [HRT.out]; exact x1))
      have HX2 := hideB x2
      clear x1 x2 x3 x4 hb6 HROW
      have HCB := hideB (sjBlanks_any HS6.out hs)
      go_wp2_with fail
      refine HCB.out.mono ?_
      rintro e w9 ⟨rfl, hsc9, hb9⟩
      have HS9 := hideB hsc9
      have HN9 := hideB (HN6.out.butJ hb9 hrb)
      have HB9 := hideB (HB6.out.trans hb9)
      clear hsc9 hb9 HCB
      go_wp2_with fail
      go_ret
      exact ⟨_, _, _, rfl, HB9.out, .inl ⟨_, _, _, _, _, HR.out, HX2.out, HN9.out, HS9.out⟩⟩
    · have HS6 := hideB x3
      have HR := hideB (HJN.out (by rw [HRT.out]; exact x1))
      clear x1 x3 hb6 HROW
      have HCB := hideB (sjBlanks_any HS6.out hs)
      go_wp2_with fail
      refine HCB.out.mono ?_
      rintro e w9 ⟨rfl, hsc9, hb9⟩
      have HS9 := hideB hsc9
      have HB9 := hideB (HB6.out.trans hb9)
      clear hsc9 hb9 HCB
      go_wp2_with fail
      go_ret
      exact ⟨_, _, _, rfl, HB9.out, .inr ⟨HR.out, d, x2, _, HS9.out⟩⟩
  have HC15 := hideB (sjIs_no (u := ⟨#[123]⟩) HX14.out hs (by show (1 : Nat) ≤ 1000; omega) (.inr (by show wordAt _ _ [123] = false; rw [wordAt_one]; exact n5)))
  go_wp2_with fail
  refine HC15.out.mono ?_
  rintro e x15 ⟨rfl, hsc, hbx⟩
  have HX15 := hideB hsc
  have HY15 := hideB (HY14.out.trans hbx)
  clear hsc hbx HC15
  have HRT : Hid (spReadJ s.data.toList (spJ s.data.toList f (deep + 1)) (deep + 1) P C = match numJ s.data.toList P with | none => none | some (v, q) => some (layT 1 (numT v) 0, q, C)) := by rw [Hid]; unfold spReadJ; rw [if_neg (by rw [n0]; simp)]; rw [if_neg (by rw [n1]; simp)]; rw [if_neg (by rw [n2]; simp)]; rw [if_neg (by rw [n3]; simp)]; rw [if_neg (by rw [n4]; simp)]; rw [if_neg (by rw [n5]; simp)]; rfl
  have HDG := hideB (sjDigits_any HX15.out hs)
  go_wp2_with fail
  refine HDG.out.mono ?_
  rintro e w6 ⟨hb6, n, q, b, a6, k6, rfl, hn6, hsc6, _, hor⟩
  have HS6 := hideB hsc6
  have HB6 := hideB (HY15.out.trans hb6)
  have HN6 := hideB (hn6.low HY15.out.size)
  have HOR := hideB (hor rfl)
  clear hb6 hn6 hsc6 hor HDG
  rcases HOR.out with ⟨x1, x2⟩ | ⟨x1, x2⟩
  · subst x2
    have HR := hideB (HJY.out (leafN 3 n ByteArray.empty) q C (by rw [HRT.out, x1]; rfl))
    clear x1
    have HCB := hideB (sjBlanks_any HS6.out hs)
    go_wp2_with fail
    refine HCB.out.mono ?_
    rintro e w9 ⟨rfl, hsc9, hb9⟩
    have HS9 := hideB hsc9
    have HN9 := hideB (HN6.out.butJ hb9 hrb)
    have HB9 := hideB (HB6.out.trans hb9)
    clear hsc9 hb9 HCB
    go_wp2_with fail
    go_ret
    exact ⟨_, _, _, rfl, HB9.out, .inl ⟨_, _, _, _, _, HR.out, rfl, HN9.out, HS9.out⟩⟩
  · subst x2
    have HR := hideB (HJN.out (by rw [HRT.out, x1]))
    clear x1
    have HCB := hideB (sjBlanks_any HS6.out hs)
    go_wp2_with fail
    refine HCB.out.mono ?_
    rintro e w9 ⟨rfl, hsc9, hb9⟩
    have HS9 := hideB hsc9
    have HB9 := hideB (HB6.out.trans hb9)
    clear hsc9 hb9 HCB
    go_wp2_with fail
    go_ret
    exact ⟨_, _, _, rfl, HB9.out, .inr ⟨HR.out, C, by omega, _, HS9.out⟩⟩
end Go.Proofs.YtagcgnhpdmhegaaGreatDoor
