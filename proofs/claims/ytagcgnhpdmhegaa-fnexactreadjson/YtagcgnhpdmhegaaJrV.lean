/-
  The specification's l2Rj: a number.
-/
import Derived.Test.YtagcgnhpdmhegaaIntP
import Derived.Test.YtagcgnhpdmhegaaLowN
import Derived.Deep.DeepCutAuto
import Derived.Deep.Cut
import Derived.Deep.CutRange
import Derived.Test.YtagcgnhpdmhegaaJrP
import Derived.Test.YtagcgnhpdmhegaaRdC
import Derived.Test.YtagcgnhpdmhegaaStb
namespace Go.Proofs.Ytagcgnhpdmhegaa
open Go.RowKit
set_option linter.unusedSimpArgs false
set_option linter.unusedVariables false

/-- What 'digits' leaves. -/
def DigOr (rb p c : Nat) (s : ByteArray) (bad : Bool) (w : World) (e : Ending) (w' : World) : Prop :=
  But rb w w' ∧ ∃ (n : Int) (q : Nat) (b : Bool) (a : Option Addr) (k : Nat), e = .returned (.slice a 1 k) ∧ Nest w.heap.size w' (.slice a 1 k) (leafN 3 n ByteArray.empty) (fun _ => .slice none 0 0) (fun _ => .slice none 0 0) ∧ SjAt w' rb s q b c ∧ (bad = true → b = true) ∧ (bad = false → (numJ s.data.toList p = some (n, q) ∧ b = false) ∨ (numJ s.data.toList p = none ∧ b = true))
theorem zero_int : intT (ByteArray.mk #[48]).data.toList = some 0 := by decide +kernel

set_option maxRecDepth 100000 in
set_option maxHeartbeats 12800000 in
theorem sjDigits_any {rb p c : Nat} {s : ByteArray} {bad : Bool} {w : World} (h : SjAt w rb s p bad c) (hs : s.size ≤ 4000) :
    Calls Try.prog 26 #[.pointer (some ⟨rb, 0, none⟩)] w (DigOr rb p c s bad w) := by
  have H := hideB h
  have HLN := hideB (len_is s)
  have hle := h.le
  obtain ⟨c0, c1, c2, c3⟩ := h.cells
  clear h
  have HW := hideB (numW_int (L := s.data.toList) (p := p) (by rw [HLN.out]; exact hle))
  have HNA : Hid (∀ z, dgJ s.data.toList (numAt s.data.toList p) = z → numW s.data.toList p = (s.data.toList.drop p).take (z - p)) := fun z hz => by unfold numW; rw [hz]
  go_enter Try.func26, Try.ntmps26
  go_upto_region 2 with fail
  go_cut [32] (fun v wx => v = .bool (isAt s.data.toList p 45) ∧ SjAt wx rb s p bad c ∧ But rb w wx)
  case first =>
    by_cases hp : p < s.size
    focus
      have dp : decide ((p : Int) < (s.size : Int)) = true := by simp; omega
      have ep : ((p : Int)).toNat = p := by omega
      have HBY := hideB (byS hp)
      obtain ⟨y, hy⟩ : ∃ y, s[p] = y := ⟨_, rfl⟩
      rw [hy] at HBY
      have hyl : y.toNat < 256 := y.toNat_lt
      by_cases h45 : y.toNat = 45
      focus
        have b45 : ((y.toNat : Int) == 45) = true := by simp; omega
        have HQ : Hid (isAt s.data.toList p 45 = true) := isAt_yes.2 ⟨by rw [HLN.out]; exact hp, by rw [← HBY.out]; exact h45⟩
        clear h45
        go_quiet (fail)
      rotate_left
      focus
        have b45 : ((y.toNat : Int) == 45) = false := by simp; omega
        have HQ : Hid (isAt s.data.toList p 45 = false) := by rw [Hid, isAt_no, ← HBY.out]; exact fun e => h45 e.2
        clear h45
        go_quiet (fail)
    rotate_left 2
    focus
      have dp : decide ((p : Int) < (s.size : Int)) = false := by simp; omega
      have HQ : Hid (isAt s.data.toList p 45 = false) := by rw [Hid, isAt_no, HLN.out]; exact fun e => hp e.1
      go_quiet (fail)
    all_goals
      have HD1 := hideB (below_drewB (w := w) nq)
      have HS1 := hideB (H.out.below HD1.out)
      have HB1 := hideB (But.of_below (rb := rb) HD1.out)
      generalize w.drewN nq = W1 at HS1 HB1 HD1 ⊢
      clear nq c0 c1 c2 c3
      go_wp2
      go_meet
      exact ⟨by rw [HQ.out], HS1.out, HB1.out⟩
  case rest =>
    obtain ⟨rfl, hS1, hB1⟩ := hcut
    have HS1 := hideB hS1
    have HB1 := hideB hB1
    obtain ⟨k0, k1, k2, k3⟩ := hS1.cells
    have f1 := hS1.free 1
    clear hS1 hB1 c0 c1 c2 c3
    go_upto_if 32 with fail
    go_cut [] (fun wx => ∃ Q, SjAt wx rb s Q bad c ∧ But rb w wx ∧ Hid (numAt s.data.toList p = Q) ∧ p ≤ Q)
    case first =>
      cases h45 : isAt s.data.toList p 45
      · go_wp2_with fail
        go_meet
        exact ⟨p, HS1.out, HB1.out, (by rw [Hid]; unfold numAt; rw [if_neg (by rw [h45]; simp)]), Nat.le_refl _⟩
      · have hp : p < s.size := by have := (isAt_yes.1 h45).1; rw [HLN.out] at this; exact this
        have e1 : ((p + 1 : Nat) : Int) = (p : Int) + 1 := by omega
        go_wp2_with fail
        go_meet
        refine ⟨p + 1, ?_, HB1.out.trans (But.of_set _ _), (by rw [Hid]; unfold numAt; rw [if_pos h45]), by omega⟩
        rw [← e1]
        exact HS1.out.setP hp
    case rest =>
      obtain ⟨Q, hS2, hB2, HQ, hpQ⟩ := hcut
      have HS2 := hideB hS2
      have HB2 := hideB hB2
      clear hS2 hB2 HS1 HB1 k0 k1 k2 k3 f1
      go_wp2_with fail
      go_loopw [] (fun wr => ∃ q, SjAt wr rb s q bad c ∧ Hid (dgJ s.data.toList q = dgJ s.data.toList Q) ∧ Q ≤ q ∧ But rb w wr) (fun wr => s.size - placeOf wr rb)
      case atStart => exact ⟨Q, HS2.out, rfl, Nat.le_refl _, HB2.out⟩
      case round =>
        obtain ⟨q, hsr, HK, hQq, hbt⟩ := hrel
        have HS := hideB hsr
        have HBT := hideB hbt
        obtain ⟨h0, h1, h2, h3⟩ := hsr.cells
        have h5 := hsr.le
        clear hsr hbt HS2 HB2
        go_upto_region 4 with fail
        go_cut [73] (fun v wx => (v = .bool (decide (q < s.size ∧ digC (byAt s.data.toList q) = true))) ∧ SjAt wx rb s q bad c ∧ But rb w wx)
        case first =>
          by_cases hq : q < s.size
          focus
            have hq' : decide ((q : Int) < (s.size : Int)) = true := by simp; omega
            have eq : ((q : Int)).toNat = q := by omega
            have HY := hideB (byS hq)
            obtain ⟨x, hx⟩ : ∃ x, s[q] = x := ⟨_, rfl⟩
            rw [hx] at HY
            by_cases g1 : 48 ≤ x.toNat
            focus
              have d1 : decide ((48 : Int) ≤ (x.toNat : Int)) = true := by simp; omega
              by_cases g2 : x.toNat ≤ 57
              focus
                have d2 : decide ((x.toNat : Int) ≤ 57) = true := by simp; omega
                have HV : Hid (decide (q < s.size ∧ digC (byAt s.data.toList q) = true) = true) := by rw [Hid, ← HY.out]; unfold digC; simp; omega
                clear g1 g2
                go_quiet (fail)
              rotate_left
              focus
                have d2 : decide ((x.toNat : Int) ≤ 57) = false := by simp; omega
                have HV : Hid (decide (q < s.size ∧ digC (byAt s.data.toList q) = true) = false) := by rw [Hid, ← HY.out]; unfold digC; simp; omega
                clear g1 g2
                go_quiet (fail)
            rotate_left 2
            focus
              have d1 : decide ((48 : Int) ≤ (x.toNat : Int)) = false := by simp; omega
              have HV : Hid (decide (q < s.size ∧ digC (byAt s.data.toList q) = true) = false) := by rw [Hid, ← HY.out]; unfold digC; simp; omega
              clear g1
              go_quiet (fail)
          rotate_left 3
          focus
            have hq' : decide ((q : Int) < (s.size : Int)) = false := by simp; omega
            have HV : Hid (decide (q < s.size ∧ digC (byAt s.data.toList q) = true) = false) := by rw [Hid]; simp; omega
            go_quiet (fail)
          all_goals
            have HD3 := hideB (below_drewB (w := wr) nq)
            have HS3 := hideB (HS.out.below HD3.out)
            have HB3 := hideB (HBT.out.trans (But.of_below HD3.out))
            generalize wr.drewN nq = W3 at HS3 HB3 HD3 ⊢
            clear nq h0 h1 h2 h3
            go_wp2
            go_meet
            exact ⟨by rw [HV.out], HS3.out, HB3.out⟩
        case rest =>
          obtain ⟨rfl, hS3, hB3⟩ := hcut
          have HS3 := hideB hS3
          have HB3 := hideB hB3
          clear h0 h1 h2 h3
          obtain ⟨h0, h1, h2, h3⟩ := hS3.cells
          have f1 := hS3.free 1
          clear hS3 hB3
          by_cases hd : q < s.size ∧ digC (byAt s.data.toList q) = true
          · have hdd : decide (q < s.size ∧ digC (byAt s.data.toList q) = true) = true := by simpa using hd
            have hq := hd.1
            have HNX : Hid (dgJ s.data.toList q = dgJ s.data.toList (q + 1)) := runJ_yes (by rw [HLN.out]; exact hq) hd.2
            have e1 : ((q + 1 : Nat) : Int) = (q : Int) + 1 := by omega
            rw [hdd]
            clear hd hdd
            go_wp2_with fail
            go_roundw
            case rel =>
              refine ⟨q + 1, ?_, ?_, by omega, HB3.out.trans (But.of_set _ _)⟩
              · rw [← e1]
                exact HS3.out.setP hq
              · rw [Hid, ← HNX.out]; exact HK.out
            case measure =>
              rw [HS.out.placeOf, ← e1, (HS3.out.setP hq).placeOf]
              omega
          · have hdd : decide (q < s.size ∧ digC (byAt s.data.toList q) = true) = false := by simpa using hd
            have HNX : Hid (dgJ s.data.toList q = q) := runJ_no (fun e => hd ⟨by rw [← HLN.out]; exact e.1, e.2⟩)
            rw [hdd]
            clear hd hdd f1
            generalize wc = W3 at HS3 HB3 h0 h1 h2 h3 ⊢
            have HZ : Hid (dgJ s.data.toList (numAt s.data.toList p) = q) := by rw [Hid, HQ.out, ← HK.out, HNX.out]
            have HNW := hideB (HNA.out q HZ.out)
            have HW2 := hideB HW.out
            rw [HZ.out] at HW2
            rw [HNW.out] at HW2
            clear HNX HK HNW HNA HZ HW
            obtain ⟨T, hT⟩ : ∃ T, txt ((s.data.toList.drop p).take (q - p)) = T := ⟨_, rfl⟩
            have HTD : Hid ((s.data.toList.drop p).take (q - p) = T.data.toList) := by rw [Hid, ← hT, bytes_txt]
            rw [HTD.out] at HW2
            have hTs : T.size ≤ 4000 := by rw [← len_is T, ← HTD.out, List.length_take, List.length_drop, HLN.out]; omega
            have hcut : ∀ w, (Instr.slice 9 (.string s) (some (.int .i64 (p : Int))) (some (.int .i64 (q : Int))) none).run Try.prog w = .ok (.string T) w := fun w => by
              rw [run_cut (P := Try.prog) (t := 9) s p q Try.underlying9 (by omega) h5 w, hT]
            clear hT
            go_wp2_with fail
            go_quiet (fail)
            have HD4 := hideB (below_drewB (w := W3) nq)
            have HS4 := hideB (HS3.out.below HD4.out)
            have HB4 := hideB (HB3.out.trans (But.of_below HD4.out))
            clear h0 h1 h2 h3
            obtain ⟨h0, h1, h2, h3⟩ := HS4.out.cells
            have f2 := HS4.out.free 2
            generalize W3.drewN nq = W4 at HS4 HB4 HD4 h0 h1 h2 h3 f2 ⊢
            clear nq hcut HS3 HB3
            have HW3 : Hid (T.data.toList = [45, 48] → numJ s.data.toList p = some (0, q)) := HW2.out.1
            have HW4 : Hid (T.data.toList ≠ [45, 48] → numJ s.data.toList p = match intT T.data.toList with | none => none | some v => some (v, q)) := HW2.out.2
            clear HW2 HTD
            go_upto_if 92 with fail
            go_cut [4] (fun v wx => ∃ T' : ByteArray, v = .string T' ∧ T'.size ≤ 4000 ∧ wx = W4 ∧ Hid (numJ s.data.toList p = match intT T'.data.toList with | none => none | some v => some (v, q)))
            case first =>
              cases hm : (T.toList == (ByteArray.mk #[45, 48]).toList)
              · have hT : T.data.toList ≠ [45, 48] := fun e => by
                  have e2 : T = ByteArray.mk #[45, 48] := by rw [← txt_bytes T, e]; rfl
                  rw [e2] at hm
                  simp at hm
                have HF := hideB (HW4.out hT)
                have hm2 : ¬ T.toList = [45, 48] := fun e => hT (by rw [← ByteArray.toList_eq]; exact e)
                have hm3 : (T.toList == [45, 48]) = false := by simpa using hm2
                rw [hm3]
                clear HW3 HW4 hT hm hm2 hm3
                go_wp2_with fail
                go_meet
                exact ⟨T, rfl, hTs, rfl, HF⟩
              · have hT : T.data.toList = [45, 48] := by rw [str_eq hm]
                have HF : Hid (numJ s.data.toList p = match intT (ByteArray.mk #[48]).data.toList with | none => none | some v => some (v, q)) := by rw [Hid, zero_int]; exact HW3.out hT
                have hm2 : T.toList = [45, 48] := by rw [ByteArray.toList_eq]; exact hT
                have hm3 : (T.toList == [45, 48]) = true := by simpa using hm2
                rw [hm3]
                clear HW3 HW4 hT hm hm2 hm3
                go_wp2_with fail
                go_meet
                exact ⟨⟨#[48]⟩, rfl, by show (1 : Nat) ≤ 4000; omega, rfl, HF⟩
            case rest =>
              obtain ⟨T', rfl, hTs', rfl, HN0⟩ := hcut
              clear HW3 HW4
              have HI := hideB (l1Int_any T' (by omega) wc)
              go_wp2_with fail
              refine HI.out.mono ?_
              rintro e w5 ⟨n, ok, rfl, rfl, hor⟩
              have HOR : Hid ((numJ s.data.toList p = some (n, q) ∧ ok = true) ∨ (numJ s.data.toList p = none ∧ ok = false)) := by
                rw [Hid, HN0.out]
                rcases hor with ⟨e, o⟩ | ⟨e, o⟩
                · rw [e]; exact .inl ⟨rfl, o⟩
                · rw [e]; exact .inr ⟨rfl, o⟩
              clear hor HI
              cases ok
              · have HNO : Hid (numJ s.data.toList p = none) := by
                  rcases HOR.out with ⟨_, o⟩ | ⟨e, _⟩
                  · cases o
                  · exact e
                obtain ⟨W6, hW6⟩ : ∃ W6, w5.setCell ⟨rb, 2, none⟩ (.bool true) = W6 := ⟨_, rfl⟩
                have HS6 : Hid (SjAt W6 rb s q true c) := by rw [Hid, ← hW6]; exact HS4.out.setB true
                have HB6 : Hid (But rb w W6) := by rw [Hid, ← hW6]; exact HB4.out.trans (But.of_set _ _)
                have HNM := hideB (sNumber_any n W6)
                clear HOR
                go_wp2_with fail
                refine HNM.out.mono ?_
                rintro e w7 ⟨rfl, hn7, hb7⟩
                have HN7 := hideB (hn7.low HB6.out.size)
                have HB7 := hideB hb7
                clear hn7 hb7 hW6
                go_wp2_with fail
                go_ret
                exact ⟨HB6.out.trans (But.of_below HB7.out), n, q, true, _, _, rfl, HN7.out, HS6.out.below HB7.out, fun _ => rfl, fun _ => .inr ⟨HNO.out, rfl⟩⟩
              · have HYE : Hid (numJ s.data.toList p = some (n, q)) := by
                  rcases HOR.out with ⟨e, _⟩ | ⟨_, o⟩
                  · exact e
                  · cases o
                have HNM := hideB (sNumber_any n w5)
                clear HOR
                go_wp2_with fail
                refine HNM.out.mono ?_
                rintro e w7 ⟨rfl, hn7, hb7⟩
                have HN7 := hideB (hn7.low HB4.out.size)
                have HB7 := hideB hb7
                clear hn7 hb7
                go_wp2_with fail
                go_ret
                exact ⟨HB4.out.trans (But.of_below HB7.out), n, q, bad, _, _, rfl, HN7.out, HS4.out.below HB7.out, id, fun hb => .inl ⟨HYE.out, hb⟩⟩
end Go.Proofs.Ytagcgnhpdmhegaa

/-
  Plain: values read as JSON, by the program (trees, no bounds) and by the document's model (nodes, bounds), and that the two say the same.
-/
namespace Go.Proofs.Ytagcgnhpdmhegaa
open Go.RowKit
set_option linter.unusedSimpArgs false
set_option linter.unusedVariables false

def itemsJ (L : List UInt8) (R : Nat → Option (VT × Nat)) : Nat → Nat → Option (List VT × Nat)
  | 0, _ => none
  | k + 1, p => match R p with
    | none => none
    | some (t, q) => if isAt L q 93 = true then some ([t], q + 1)
      else if isAt L q 44 = true then match itemsJ L R k (q + 1) with
        | none => none
        | some (l, z) => some (t :: l, z)
      else none
def listJ (L : List UInt8) (R : Nat → Option (VT × Nat)) (p : Nat) : Option (VT × Nat) :=
  if isAt L (skipJ L p) 93 = true then some (listT [], skipJ L p + 1) else match itemsJ L R (L.length + 1) p with
    | none => none
    | some (l, z) => some (listT l, z)
/-- A key with its colon. -/
def keyR (L : List UInt8) (p : Nat) : Option (ByteArray × Nat) :=
  if isAt L (skipJ L p) 34 = true then match txJ L (skipJ L p + 1) with
    | none => none
    | some (l, q) => if isAt L (skipJ L q) 58 = true then some (txt l, skipJ L q + 1) else none
  else none
def pairsJ (L : List UInt8) (R : Nat → Option (VT × Nat)) : Nat → Nat → Option (List ByteArray × List VT × Nat)
  | 0, _ => none
  | k + 1, p => match keyR L p with
    | none => none
    | some (s, q0) => match R q0 with
      | none => none
      | some (t, q) => if isAt L q 125 = true then some ([s], [t], q + 1)
        else if isAt L q 44 = true then match pairsJ L R k (q + 1) with
          | none => none
          | some (ks, l, z) => some (s :: ks, t :: l, z)
        else none
def mapJ (L : List UInt8) (R : Nat → Option (VT × Nat)) (p : Nat) : Option (VT × Nat) :=
  if isAt L (skipJ L p) 125 = true then some (mapT [] [], skipJ L p + 1) else match pairsJ L R (L.length + 1) p with
    | none => none
    | some (ks, l, z) => some (mapT ks l, z)
def readJ (L : List UInt8) (R : Nat → Option (VT × Nat)) (p : Nat) : Option (VT × Nat) :=
  if wordAt L p nullW = true then some (nullT, p + 4)
  else if wordAt L p trueW = true then some (boolT 1, p + 4)
  else if wordAt L p falseW = true then some (boolT 0, p + 5)
  else if isAt L p 34 = true then match txJ L (p + 1) with
    | none => none
    | some (l, q) => some (wordT (txt l), q)
  else if isAt L p 91 = true then listJ L R (p + 1)
  else if isAt L p 123 = true then mapJ L R (p + 1)
  else match numJ L p with
    | none => none
    | some (v, q) => some (numT v, q)
/-- A value with the blanks around it. -/
def rdJ (L : List UInt8) : Nat → Nat → Option (VT × Nat)
  | 0, _ => none
  | f + 1, p => match readJ L (rdJ L f) (skipJ L p) with
    | none => none
    | some (t, q) => some (t, skipJ L q)
theorem rdJ_skip (L : List UInt8) (f p : Nat) : rdJ L f (skipJ L p) = rdJ L f p := by
  cases f with
  | zero => rfl
  | succ f =>
    have e : skipJ L (skipJ L p) = skipJ L p := runJ_idem _ _ _
    rw [rdJ, rdJ, e]

def spItemsJ (L : List UInt8) (S : Nat → Nat → Option (List VN × Nat × Nat)) : Nat → Nat → Nat → Option (List (List VN) × Nat × Nat)
  | 0, _, _ => none
  | k + 1, p, c => match S p c with
    | none => none
    | some (ns, q, d) => if isAt L q 93 = true then some ([ns], q + 1, d)
      else if isAt L q 44 = true then match spItemsJ L S k (q + 1) d with
        | none => none
        | some (l, z, e) => some (ns :: l, z, e)
      else none
def keyS (L : List UInt8) (p : Nat) : Option (ByteArray × Nat) := match keyR L p with
  | none => none
  | some (s, q) => if s.size ≤ 60 then some (s, q) else none
def spPairsJ (L : List UInt8) (S : Nat → Nat → Option (List VN × Nat × Nat)) : Nat → Nat → Nat → Option (List ByteArray × List (List VN) × Nat × Nat)
  | 0, _, _ => none
  | k + 1, p, c => match keyS L p with
    | none => none
    | some (s, q0) => match S q0 c with
      | none => none
      | some (ns, q, d) => if isAt L q 125 = true then some ([s], [ns], q + 1, d)
        else if isAt L q 44 = true then match spPairsJ L S k (q + 1) d with
          | none => none
          | some (ks, l, z, e) => some (s :: ks, ns :: l, z, e)
        else none
def spListJ (L : List UInt8) (S : Nat → Nat → Option (List VN × Nat × Nat)) (deep p c : Nat) : Option (List VN × Nat × Nat) :=
  if isAt L (skipJ L p) 93 = true then some (makeNs 5 [] (fun _ => []) 0, skipJ L p + 1, c) else if 8 < deep then none else match spItemsJ L S (L.length + 1) p c with
    | none => none
    | some (l, z, d) => some (makeNs 5 [] (rowAt l) l.length, z, d)
def spMapJ (L : List UInt8) (S : Nat → Nat → Option (List VN × Nat × Nat)) (deep p c : Nat) : Option (List VN × Nat × Nat) :=
  if isAt L (skipJ L p) 125 = true then some (makeNs 6 [] (fun _ => []) 0, skipJ L p + 1, c) else if 8 < deep then none else match spPairsJ L S (L.length + 1) p c with
    | none => none
    | some (ks, l, z, d) => match sortIn ks ks.length with
      | none => none
      | some (nk, ps) => some (makeNs 6 nk (fun j => rowAt l (ps.getD j 0)) ks.length, z, d)
def spReadJ (L : List UInt8) (S : Nat → Nat → Option (List VN × Nat × Nat)) (deep p c : Nat) : Option (List VN × Nat × Nat) :=
  if wordAt L p nullW = true then some (layT 1 nullT 0, p + 4, c)
  else if wordAt L p trueW = true then some (layT 1 (boolT 1) 0, p + 4, c)
  else if wordAt L p falseW = true then some (layT 1 (boolT 0) 0, p + 5, c)
  else if isAt L p 34 = true then match txJ L (p + 1) with
    | none => none
    | some (l, q) => if l.length ≤ 60 then some (layT 1 (wordT (txt l)) 0, q, c) else none
  else if isAt L p 91 = true then spListJ L S deep (p + 1) c
  else if isAt L p 123 = true then spMapJ L S deep (p + 1) c
  else match numJ L p with
    | none => none
    | some (v, q) => some (layT 1 (numT v) 0, q, c)
def spJ (L : List UInt8) : Nat → Nat → Nat → Nat → Option (List VN × Nat × Nat)
  | 0, _, _, _ => none
  | f + 1, deep, p, c => if 80 ≤ c then none else match spReadJ L (spJ L f (deep + 1)) (deep + 1) (skipJ L p) (c + 1) with
    | none => none
    | some (ns, q, d) => some (ns, skipJ L q, d)
theorem spJ_skip (L : List UInt8) (f deep p c : Nat) : spJ L f deep (skipJ L p) c = spJ L f deep p c := by
  cases f with
  | zero => rfl
  | succ f =>
    have e : skipJ L (skipJ L p) = skipJ L p := runJ_idem _ _ _
    rw [spJ, spJ, e]

structure RelJ (f deep : Nat) (R : Nat → Option (VT × Nat)) (S : Nat → Nat → Option (List VN × Nat × Nat)) : Prop where
  full : ∀ p t q, R p = some (t, q) → FullT f t
  yes : ∀ p c ns q d, c ≤ 80 → S p c = some (ns, q, d) → d = c + ns.length ∧ d ≤ 80 ∧ 1 ≤ ns.length ∧ ∃ t, R p = some (t, q) ∧ ns = layT f t 0
  no : ∀ p c, c ≤ 80 → S p c = none → R p = none ∨ ∃ t q, R p = some (t, q) ∧ Doom f c deep t
theorem RelJ.rel {f deep : Nat} {R : Nat → Option (VT × Nat)} {S : Nat → Nat → Option (List VN × Nat × Nat)} (H : RelJ f deep R S) : RelV f deep R S :=
  ⟨H.full, fun p c ns q d hc h => by obtain ⟨a, b, c, t, e⟩ := H.yes p c ns q d hc h; exact ⟨a, b, c, .inl ⟨t, e⟩⟩, H.no⟩

theorem itemsJ_full {f : Nat} {L : List UInt8} {R : Nat → Option (VT × Nat)} (H : ∀ p t q, R p = some (t, q) → FullT f t) : ∀ {k p : Nat} {l : List VT} {q : Nat}, itemsJ L R k p = some (l, q) → 1 ≤ l.length ∧ ∀ i, i < l.length → FullT f (kidT l i) := by
  intro k
  induction k with
  | zero => intro p l q h; cases h
  | succ k ih =>
    intro p l q h
    rw [itemsJ] at h
    cases e : R p with
    | none => simp [e] at h
    | some x =>
      obtain ⟨t, z⟩ := x
      simp only [e] at h
      split at h
      · simp only [Option.some.injEq, Prod.mk.injEq] at h
        obtain ⟨rfl, rfl⟩ := h
        refine ⟨by simp, fun i hi => ?_⟩
        obtain rfl : i = 0 := by simpa using hi
        exact H _ _ _ e
      · split at h
        · cases e2 : itemsJ L R k (z + 1) with
          | none => simp [e2] at h
          | some y =>
            simp only [e2, Option.some.injEq, Prod.mk.injEq] at h
            obtain ⟨rfl, rfl⟩ := h
            obtain ⟨h1, h2⟩ := ih e2
            refine ⟨by simp, fun i hi => ?_⟩
            cases i with
            | zero => exact H _ _ _ e
            | succ i => exact h2 i (by simpa using hi)
        · cases h
theorem pairsJ_full {f : Nat} {L : List UInt8} {R : Nat → Option (VT × Nat)} (H : ∀ p t q, R p = some (t, q) → FullT f t) : ∀ {k p : Nat} {ks : List ByteArray} {l : List VT} {q : Nat}, pairsJ L R k p = some (ks, l, q) → ks.length = l.length ∧ 1 ≤ l.length ∧ ∀ i, i < l.length → FullT f (kidT l i) := by
  intro k
  induction k with
  | zero => intro p ks l q h; cases h
  | succ k ih =>
    intro p ks l q h
    rw [pairsJ] at h
    cases e0 : keyR L p with
    | none => simp [e0] at h
    | some x0 =>
      obtain ⟨s, q0⟩ := x0
      simp only [e0] at h
      cases e : R q0 with
      | none => simp [e] at h
      | some x =>
        obtain ⟨t, z⟩ := x
        simp only [e] at h
        split at h
        · simp only [Option.some.injEq, Prod.mk.injEq] at h
          obtain ⟨rfl, rfl, rfl⟩ := h
          refine ⟨rfl, by simp, fun i hi => ?_⟩
          obtain rfl : i = 0 := by simpa using hi
          exact H _ _ _ e
        · split at h
          · cases e2 : pairsJ L R k (z + 1) with
            | none => simp [e2] at h
            | some y =>
              obtain ⟨k2, l2, z2⟩ := y
              simp only [e2, Option.some.injEq, Prod.mk.injEq] at h
              obtain ⟨rfl, rfl, rfl⟩ := h
              obtain ⟨h0, h1, h2⟩ := ih e2
              refine ⟨by simp [h0], by simp, fun i hi => ?_⟩
              cases i with
              | zero => exact H _ _ _ e
              | succ i => exact h2 i (by simpa using hi)
          · cases h
theorem itemsJ_yes {f deep : Nat} {L : List UInt8} {R : Nat → Option (VT × Nat)} {S : Nat → Nat → Option (List VN × Nat × Nat)} (H : RelJ f deep R S) : ∀ {k p c : Nat} {l : List (List VN)} {q d : Nat}, c ≤ 80 → spItemsJ L S k p c = some (l, q, d) →
    d = c + sumL (rowAt l) l.length ∧ d ≤ 80 ∧ ∃ ts, itemsJ L R k p = some (ts, q) ∧ ts.length = l.length ∧ ∀ i, i < l.length → rowAt l i = layT f (kidT ts i) 0 := by
  intro k
  induction k with
  | zero => intro p c l q d hc h; cases h
  | succ k ih =>
    intro p c l q d hc h
    rw [spItemsJ] at h
    cases e1 : S p c with
    | none => simp [e1] at h
    | some x =>
      obtain ⟨n1, q1, d1⟩ := x
      simp only [e1] at h
      obtain ⟨a1, a2, a3, t, r1, r2⟩ := H.yes _ _ _ _ _ hc e1
      split at h
      · rename_i hend
        simp only [Option.some.injEq, Prod.mk.injEq] at h
        obtain ⟨rfl, rfl, rfl⟩ := h
        refine ⟨by rw [List.length_cons, sumL_cons]; simp [sumL]; exact a1, a2, [t], by rw [itemsJ, r1]; simp [hend], rfl, fun i hi => ?_⟩
        obtain rfl : i = 0 := by simpa using hi
        exact r2
      · rename_i hend
        split at h
        · rename_i hc2
          cases e2 : spItemsJ L S k (q1 + 1) d1 with
          | none => simp [e2] at h
          | some y =>
            obtain ⟨m, z, d2⟩ := y
            simp only [e2, Option.some.injEq, Prod.mk.injEq] at h
            obtain ⟨rfl, rfl, rfl⟩ := h
            obtain ⟨b1, b2, ts, s1, s2, s3⟩ := ih a2 e2
            refine ⟨?_, b2, t :: ts, by rw [itemsJ, r1]; simp [hend, hc2, s1], by simp [s2], fun i hi => ?_⟩
            · rw [List.length_cons, sumL_cons, rowAt_cons]; show d2 = c + (n1.length + _); omega
            · cases i with
              | zero => exact r2
              | succ i => exact s3 i (by simpa using hi)
        · cases h
theorem itemsJ_no {f deep : Nat} {L : List UInt8} {R : Nat → Option (VT × Nat)} {S : Nat → Nat → Option (List VN × Nat × Nat)} (H : RelJ f deep R S) : ∀ {k p c : Nat}, c ≤ 80 → spItemsJ L S k p c = none →
    itemsJ L R k p = none ∨ ∃ ts q, itemsJ L R k p = some (ts, q) ∧ ((∃ i, i < ts.length ∧ ¬ goodT f (kidT ts i)) ∨ 80 < c + sumL (fun i => layT f (kidT ts i) 0) ts.length ∨ ∃ i, i < ts.length ∧ 8 < deep + hiT f (kidT ts i)) := by
  intro k
  induction k with
  | zero => intro p c hc h; exact .inl rfl
  | succ k ih =>
    intro p c hc h
    cases e0 : itemsJ L R (k + 1) p with
    | none => exact .inl rfl
    | some x0 =>
      obtain ⟨ts, q⟩ := x0
      refine .inr ⟨ts, q, rfl, ?_⟩
      rw [itemsJ] at e0
      cases r1 : R p with
      | none => simp [r1] at e0
      | some x1 =>
        obtain ⟨t, q1⟩ := x1
        simp only [r1] at e0
        rw [spItemsJ] at h
        have hdoom : S p c = none → (¬ goodT f t ∨ 80 < c + (layT f t 0).length ∨ 8 < deep + hiT f t) := fun e1 => by
          rcases H.no p c hc e1 with h1 | ⟨t', q', h1, h2⟩
          · rw [r1] at h1; cases h1
          · rw [r1] at h1
            simp only [Option.some.injEq, Prod.mk.injEq] at h1
            obtain ⟨rfl, rfl⟩ := h1
            exact h2
        have hput : ∀ l : List VT, (¬ goodT f t ∨ 80 < c + (layT f t 0).length ∨ 8 < deep + hiT f t) → ((∃ i, i < (t :: l).length ∧ ¬ goodT f (kidT (t :: l) i)) ∨ 80 < c + sumL (fun i => layT f (kidT (t :: l) i) 0) (t :: l).length ∨ ∃ i, i < (t :: l).length ∧ 8 < deep + hiT f (kidT (t :: l) i)) := fun l hd => by
          rcases hd with h1 | h1 | h1
          · exact .inl ⟨0, by simp, h1⟩
          · refine .inr (.inl ?_)
            rw [List.length_cons, sumL_cons]
            show 80 < c + ((layT f t 0).length + _)
            omega
          · exact .inr (.inr ⟨0, by simp, h1⟩)
        split at e0
        · rename_i hend
          simp only [Option.some.injEq, Prod.mk.injEq] at e0
          obtain ⟨rfl, rfl⟩ := e0
          cases e1 : S p c with
          | none => exact hput [] (hdoom e1)
          | some x =>
            obtain ⟨n1, q2, d1⟩ := x
            obtain ⟨a1, a2, a3, t', r1', r2⟩ := H.yes _ _ _ _ _ hc e1
            rw [r1] at r1'
            simp only [Option.some.injEq, Prod.mk.injEq] at r1'
            obtain ⟨rfl, rfl⟩ := r1'
            simp [e1, hend] at h
        · rename_i hend
          split at e0
          · rename_i hc2
            cases r2 : itemsJ L R k (q1 + 1) with
            | none => simp [r2] at e0
            | some x2 =>
              obtain ⟨l, z⟩ := x2
              simp only [r2, Option.some.injEq, Prod.mk.injEq] at e0
              obtain ⟨rfl, rfl⟩ := e0
              cases e1 : S p c with
              | none => exact hput l (hdoom e1)
              | some x =>
                obtain ⟨n1, q2, d1⟩ := x
                obtain ⟨a1, a2, a3, t', r1', r3⟩ := H.yes _ _ _ _ _ hc e1
                rw [r1] at r1'
                simp only [Option.some.injEq, Prod.mk.injEq] at r1'
                obtain ⟨rfl, rfl⟩ := r1'
                simp only [e1, hend, hc2, if_true, Bool.false_eq_true, if_false] at h
                cases e2 : spItemsJ L S k (q1 + 1) d1 with
                | some y => simp [e2] at h
                | none =>
                  rcases ih a2 e2 with h1 | ⟨ts', q', h1, h2⟩
                  · rw [r2] at h1; cases h1
                  · rw [r2] at h1
                    simp only [Option.some.injEq, Prod.mk.injEq] at h1
                    obtain ⟨rfl, rfl⟩ := h1
                    rcases h2 with ⟨i, i1, i2⟩ | h2 | ⟨i, i1, i2⟩
                    · exact .inl ⟨i + 1, by simp; exact i1, i2⟩
                    · refine .inr (.inl ?_)
                      rw [List.length_cons, sumL_cons]
                      show 80 < c + ((layT f t 0).length + sumL (fun i => layT f (kidT l i) 0) l.length)
                      rw [r3] at a1
                      omega
                    · exact .inr (.inr ⟨i + 1, by simp; exact i1, i2⟩)
          · cases e0
end Go.Proofs.Ytagcgnhpdmhegaa
