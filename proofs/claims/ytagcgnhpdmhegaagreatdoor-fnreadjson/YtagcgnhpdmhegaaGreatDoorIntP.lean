/-
  The specification's l2Rj: a text behind its first quote.
-/
import Derived.Test.YtagcgnhpdmhegaaGreatDoorSjE
import Derived.Test.YtagcgnhpdmhegaaGreatDoorJrW
import Derived.Test.YtagcgnhpdmhegaaGreatDoorJbP
import Derived.Test.YtagcgnhpdmhegaaGreatDoorPure
namespace Go.Proofs.YtagcgnhpdmhegaaGreatDoor
open Go.RowKit
set_option linter.unusedSimpArgs false
set_option linter.unusedVariables false

def badOf (w : World) (rb : Nat) : Bool := match w.cell? ⟨rb, 2, none⟩ with | some (.bool b) => b | _ => false
theorem SjAt.badOf {w : World} {rb p c : Nat} {s : ByteArray} {bad : Bool} (h : SjAt w rb s p bad c) : badOf w rb = bad := by unfold Go.Proofs.YtagcgnhpdmhegaaGreatDoor.badOf; rw [h.cells.2.2.1]
/-- The text is not read, or it is too long. -/
def TxNo (L : List UInt8) (p : Nat) : Prop := ∀ l q, txJ L p = some (l, q) → 60 < l.length
theorem TxNo.of_none {L : List UInt8} {p : Nat} (h : txJ L p = none) : TxNo L p := fun l q e => by rw [h] at e; cases e
/-- So much of a text is read. -/
def TxAt (L : List UInt8) (p q : Nat) (l : List UInt8) : Prop := txJ L p = (txJ L q).map (fun y => (l ++ y.1, y.2))
theorem TxAt.start (L : List UInt8) (p : Nat) : TxAt L p p [] := by unfold TxAt; cases txJ L p <;> simp
theorem TxAt.none {L : List UInt8} {p q : Nat} {l : List UInt8} (h : TxAt L p q l) (e : txJ L q = Option.none) : TxNo L p := .of_none (by rw [h, e]; rfl)
theorem TxAt.end {L : List UInt8} {p q : Nat} {l : List UInt8} (h : TxAt L p q l) (hq : isAt L q 34 = true) : txJ L p = some (l, q + 1) := by
  obtain ⟨h1, h2⟩ := isAt_yes.1 hq
  rw [h, tx_end h1 h2]; simp
theorem TxAt.esc {L : List UInt8} {p q z b : Nat} {l : List UInt8} (h : TxAt L p q l) (hq : isAt L q 92 = true) (he : escJ L (q + 1) = some (b, z)) : TxAt L p z (l ++ [UInt8.ofNat b]) := by
  obtain ⟨h1, h2⟩ := isAt_yes.1 hq
  unfold TxAt at *
  rw [h, tx_esc h1 h2 he]; exact tx_push
theorem TxAt.noesc {L : List UInt8} {p q : Nat} {l : List UInt8} (h : TxAt L p q l) (hq : isAt L q 92 = true) (he : escJ L (q + 1) = Option.none) : TxNo L p := by
  obtain ⟨h1, h2⟩ := isAt_yes.1 hq
  exact h.none (tx_noesc h1 h2 he)
theorem TxAt.bad {L : List UInt8} {p q : Nat} {l : List UInt8} (h : TxAt L p q l) (h1 : isAt L q 34 = false) (h2 : isAt L q 92 = false) (h3 : q < L.length → byAt L q < 32 ∨ 127 < byAt L q) : TxNo L p := by
  by_cases hq : q < L.length
  · rw [isAt_no] at h1 h2
    exact h.none (tx_bad hq (fun e => h1 ⟨hq, e⟩) (fun e => h2 ⟨hq, e⟩) (h3 hq))
  · exact h.none (txJ_past (by omega))
theorem TxAt.step {L : List UInt8} {p q : Nat} {l : List UInt8} (h : TxAt L p q l) (hq : q < L.length) (h1 : isAt L q 34 = false) (h2 : isAt L q 92 = false) (h3 : 32 ≤ byAt L q) (h4 : byAt L q ≤ 127) : TxAt L p (q + 1) (l ++ [UInt8.ofNat (byAt L q)]) := by
  rw [isAt_no] at h1 h2
  unfold TxAt at *
  rw [h, tx_step hq (fun e => h1 ⟨hq, e⟩) (fun e => h2 ⟨hq, e⟩) (by omega)]; exact tx_push
theorem TxAt.long {L : List UInt8} {p q : Nat} {l : List UInt8} (h : TxAt L p q l) (hl : 60 < l.length) : TxNo L p := fun l' q' e => by
  unfold TxAt at h
  rw [h] at e
  cases e2 : txJ L q with
  | none => rw [e2] at e; cases e
  | some y =>
    rw [e2] at e
    simp only [Option.map_some, Option.some.injEq, Prod.mk.injEq] at e
    rw [← e.1, List.length_append]; omega
/-- What 'quoted' leaves. -/
def QuoOr (rb p c : Nat) (s : ByteArray) (w : World) (e : Ending) (w' : World) : Prop :=
  But rb w w' ∧ ∃ t q b, e = .returned (.string t) ∧ t.size ≤ 60 ∧ SjAt w' rb s q b c ∧ ((∃ l, txJ s.data.toList p = some (l, q) ∧ l.length ≤ 60 ∧ t = txt l ∧ b = false) ∨ (b = true ∧ TxNo s.data.toList p))

set_option maxRecDepth 100000 in
set_option maxHeartbeats 6400000 in
theorem sjQuoted_bad {rb p c : Nat} {s : ByteArray} {w : World} (h : SjAt w rb s p true c) :
    Calls Tryz.prog 65 #[.pointer (some ⟨rb, 0, none⟩)] w fun e w' => e = .returned (.string ⟨#[]⟩) ∧ But rb w w' ∧ SjAt w' rb s p true c := by
  have H := hideB h
  have k2 := h.cells.2.2.1
  clear h
  go_enter Tryz.func65, Tryz.ntmps65
  go_wp2_with fail
  go_loopw [3, 12, 16, 23] (fun _ _ _ _ wr => wr = w) (fun _ _ _ _ _ => 1)
  case atStart => rfl
  case round =>
    obtain rfl := hrel
    go_wp2_with fail
    go_ret
    exact ⟨rfl, But.refl _ _, H.out⟩

set_option maxRecDepth 100000 in
set_option maxHeartbeats 12800000 in
theorem sjQuoted_any {rb p c : Nat} {s : ByteArray} {w : World} (h : SjAt w rb s p false c) (hs : s.size ≤ 4000) :
    Calls Tryz.prog 65 #[.pointer (some ⟨rb, 0, none⟩)] w (QuoOr rb p c s w) := by
  have H := hideB h
  have HLN := hideB (len_is s)
  clear h
  go_enter Tryz.func65, Tryz.ntmps65
  go_wp2_with fail
  go_loopw [3, 12, 16, 23] (fun out _ _ _ wr => ∃ (O : ByteArray) (q : Nat) (b : Bool), out = .string O ∧ O.size ≤ 61 ∧ SjAt wr rb s q b c ∧ But rb w wr ∧ Hid ((b = false ∧ O.size ≤ 60 ∧ TxAt s.data.toList p q O.data.toList) ∨ (b = true ∧ TxNo s.data.toList p))) (fun _ _ _ _ wr => if badOf wr rb = true then 0 else s.size + 1 - placeOf wr rb)
  case atStart => exact ⟨⟨#[]⟩, p, false, rfl, Nat.zero_le _, H.out, But.refl _ _, .inl ⟨rfl, Nat.zero_le _, TxAt.start _ _⟩⟩
  case round =>
    obtain ⟨O, q, b, rfl, hO, hsc, hbt, HX⟩ := hrel
    have HS := hideB hsc
    have HB := hideB hbt
    have hle := hsc.le
    obtain ⟨c0, c1, c2, c3⟩ := hsc.cells
    have HM : Hid ((if badOf wr rb = true then 0 else s.size + 1 - placeOf wr rb) = if b = true then 0 else s.size + 1 - q) := by rw [Hid, hsc.badOf, hsc.placeOf]
    clear hsc hbt
    cases hb : b
    rotate_left
    · subst hb
      have HNO : Hid (TxNo s.data.toList p) := by
        rcases HX.out with ⟨h, _⟩ | ⟨_, h⟩
        · cases h
        · exact h
      clear HX
      go_wp2_with fail
      go_ret
      exact ⟨HB.out, _, q, true, rfl, Nat.zero_le _, HS.out, .inr ⟨rfl, HNO.out⟩⟩
    subst hb
    have HTX : Hid (TxAt s.data.toList p q O.data.toList) := by
      rcases HX.out with ⟨_, _, h⟩ | ⟨h, _⟩
      · exact h
      · cases h
    have hO6 : O.size ≤ 60 := by
      rcases HX.out with ⟨_, h, _⟩ | ⟨h, _⟩
      · exact h
      · cases h
    clear HX hO
    cases h34 : isAt s.data.toList q 34
    rotate_left
    · have HC := hideB (sjIs_yes (u := ⟨#[34]⟩) HS.out hs (by show (1 : Nat) ≤ 1000; omega) (by simp) (by show wordAt _ _ [34] = true; rw [wordAt_one]; exact h34))
      have HE := hideB (HTX.out.end h34)
      have e5 : q + (ByteArray.mk #[34]).size = q + 1 := rfl
      rw [e5] at HC
      clear h34
      go_wp2_with fail
      refine HC.out.mono ?_
      rintro e w1 ⟨rfl, hsc, hb1⟩
      have HS1 := hideB hsc
      have HB1 := hideB (HB.out.trans hb1)
      clear hsc hb1
      go_wp2_with fail
      go_ret
      exact ⟨HB1.out, O, q + 1, false, rfl, hO6, HS1.out, .inl ⟨_, HE.out, by rw [len_is]; exact hO6, (txt_bytes O).symm, rfl⟩⟩
    have HC := hideB (sjIs_no (u := ⟨#[34]⟩) HS.out hs (by show (1 : Nat) ≤ 1000; omega) (.inr (by show wordAt _ _ [34] = false; rw [wordAt_one]; exact h34)))
    cases h92 : isAt s.data.toList q 92
    rotate_left
    · have HQ92 := hideB h92
      clear h34 h92
      go_wp2_with fail
      refine HC.out.mono ?_
      rintro e w1 ⟨rfl, hsc, hb1⟩
      have HS1 := hideB hsc
      have HB1 := hideB (HB.out.trans hb1)
      clear hsc hb1 HC
      have HC2 := hideB (sjIs_yes (u := ⟨#[92]⟩) HS1.out hs (by show (1 : Nat) ≤ 1000; omega) (by simp) (by show wordAt _ _ [92] = true; rw [wordAt_one]; exact HQ92.out))
      have e5 : q + (ByteArray.mk #[92]).size = q + 1 := rfl
      rw [e5] at HC2
      clear e5
      go_wp2_with fail
      refine HC2.out.mono ?_
      rintro e w2 ⟨rfl, hsc, hb2⟩
      have HS2 := hideB hsc
      have HB2 := hideB (HB1.out.trans hb2)
      clear hsc hb2 HC2
      have HC3 := hideB (sjEscape_any HS2.out hs)
      go_wp2_with fail
      refine HC3.out.mono ?_
      rintro e w3 ⟨hb3, t, z, b3, rfl, ht, hsc, hor⟩
      have HS3 := hideB hsc
      have HB3 := hideB (HB2.out.trans hb3)
      have HT := hideB ht
      have hzl := hsc.le
      have l2 := hsc.cells.2.2.1
      have m2 := hsc.free 2
      obtain ⟨T, hT⟩ : ∃ T, O ++ t = T := ⟨_, rfl⟩
      have hTs : T.size ≤ O.size + 1 := by rw [← hT, ByteArray.size_append]; omega
      have HFIN : Hid ((b3 = false ∧ q < z ∧ TxAt s.data.toList p z T.data.toList ∧ O.size + 1 ≤ T.size) ∨ (b3 = true ∧ TxNo s.data.toList p)) := by
        rcases hor with ⟨x, he, hb, htx⟩ | ⟨he, hb⟩
        · refine .inl ⟨hb, by have := (escJ_says he).1; omega, ?_, ?_⟩
          · have := HTX.out.esc HQ92.out he
            have e6 : O.data.toList ++ [UInt8.ofNat x] = T.data.toList := by rw [← hT, htx, ← txt_bytes O, txt_app, bytes_txt, bytes_txt]
            rw [e6] at this
            exact this
          · rw [← hT, ByteArray.size_append, htx, txt_size]; simp
        · exact .inr ⟨hb, HTX.out.noesc HQ92.out he⟩
      have HTN := hideB hTs
      clear hsc hb3 hor HC3 hTs HT
      by_cases hbig : 60 < T.size
      focus
        have hbig' : (60 : Int) < (T.size : Int) := by omega
        have HNO : Hid (TxNo s.data.toList p) := by
          rcases HFIN.out with ⟨_, _, h, _⟩ | ⟨_, h⟩
          · exact h.long (by rw [len_is]; exact hbig)
          · exact h
        clear HFIN
        go_wp2_with fail
        go_roundw
        case rel => exact ⟨T, z, true, rfl, by have := HTN.out; omega, HS3.out.setB true, HB3.out.trans (But.of_set _ _), .inr ⟨rfl, HNO.out⟩⟩
        case measure =>
          rw [HM.out, (HS3.out.setB true).badOf]
          simp
          omega
      rotate_left
      focus
        have hbig' : ¬ (60 : Int) < (T.size : Int) := by omega
        go_wp2_with fail
        go_roundw
        case rel =>
          refine ⟨T, z, b3, rfl, by omega, HS3.out, HB3.out, ?_⟩
          rcases HFIN.out with ⟨h, _, h2, _⟩ | h
          · exact .inl ⟨h, by omega, h2⟩
          · exact .inr h
        case measure =>
          rw [HM.out, HS3.out.badOf, HS3.out.placeOf]
          rcases HFIN.out with ⟨h, h1, _⟩ | ⟨h, _⟩
          · rw [h]; simp; omega
          · rw [h]; simp; omega
    have HQ34 := hideB h34
    have HQ92 := hideB h92
    clear h34 h92
    have HSTEP : Hid (∀ hq : q < s.size, 32 ≤ (s[q]).toNat → (s[q]).toNat ≤ 127 → TxAt s.data.toList p (q + 1) (O.data.toList ++ [s[q]])) := fun hq h1 h2 => by
      rw [byS hq] at h1 h2
      have := HTX.out.step (by rw [HLN.out]; exact hq) HQ34.out HQ92.out h1 h2
      rw [← byS hq] at this
      simpa using this
    have HBAD : Hid ((∀ hq : q < s.size, (s[q]).toNat < 32 ∨ 127 < (s[q]).toNat) → TxNo s.data.toList p) := fun hx => HTX.out.bad HQ34.out HQ92.out (fun hq => by
      have h1 : q < s.size := by rw [← HLN.out]; exact hq
      have := hx h1
      rw [byS h1] at this
      exact this)
    go_wp2_with fail
    refine HC.out.mono ?_
    rintro e w1 ⟨rfl, hsc, hb1⟩
    have HS1 := hideB hsc
    have HB1 := hideB (HB.out.trans hb1)
    clear hsc hb1 HC
    have HC2 := hideB (sjIs_no (u := ⟨#[92]⟩) HS1.out hs (by show (1 : Nat) ≤ 1000; omega) (.inr (by show wordAt _ _ [92] = false; rw [wordAt_one]; exact HQ92.out)))
    go_wp2_with fail
    refine HC2.out.mono ?_
    rintro e w2 ⟨rfl, hsc, hb2⟩
    have HS2 := hideB hsc
    have HB2 := hideB (HB1.out.trans hb2)
    clear c0 c1 c2 c3
    obtain ⟨c0, c1, c2, c3⟩ := hsc.cells
    clear hsc hb2 HC2
    by_cases hq : q < s.size
    focus
      have hq' : (q : Int) < (s.size : Int) := by omega
      have dq : decide ((q : Int) < (s.size : Int)) = true := by simpa using hq'
      have eq : ((q : Int)).toNat = q := by omega
      obtain ⟨y, hy⟩ : ∃ y, s[q] = y := ⟨_, rfl⟩
      have hone := run_one (P := Tryz.prog) (t := 9) Tryz.underlying9 hq hy
      have HSTEP' : Hid (32 ≤ y.toNat → y.toNat ≤ 127 → TxAt s.data.toList p (q + 1) (O.data.toList ++ [y])) := by rw [Hid, ← hy]; exact HSTEP.out hq
      have HBAD' : Hid (y.toNat < 32 ∨ 127 < y.toNat → TxNo s.data.toList p) := fun hx => HBAD.out (fun hq => by rw [hy]; exact hx)
      have hyl : y.toNat < 256 := y.toNat_lt
      clear HSTEP HBAD
      by_cases h32 : 32 ≤ y.toNat
      focus
        have d32 : decide ((32 : Int) ≤ (y.toNat : Int)) = true := by simp; omega
        by_cases h127 : y.toNat ≤ 127
        focus
          have d127 : decide ((y.toNat : Int) ≤ 127) = true := by simp; omega
          have HT2 := hideB (HSTEP'.out h32 h127)
          clear HSTEP' HBAD'
          obtain ⟨T, hT⟩ : ∃ T, O ++ txt [y] = T := ⟨_, rfl⟩
          have hTs : T.size = O.size + 1 := by rw [← hT, ByteArray.size_append, txt_size]; simp
          have HTD : Hid (O.data.toList ++ [y] = T.data.toList) := by rw [Hid, ← hT, ← txt_bytes O, txt_app, bytes_txt, bytes_txt]
          have HTS := hideB hTs
          rw [HTD.out] at HT2
          have hty : (txt [y]).size = 1 := txt_size [y]
          clear hTs h32 h127
          go_wp2_with fail
          go_quiet (fail)
          have HD3 := hideB (below_drewB (w := w2) nq)
          have HS3 := hideB (HS2.out.below HD3.out)
          have HB3 := hideB (HB2.out.trans (But.of_below HD3.out))
          clear c0 c1 c2 c3
          obtain ⟨c0, c1, c2, c3⟩ := HS3.out.cells
          generalize w2.drewN nq = W3 at HS3 HB3 HD3 c0 c1 c2 c3 ⊢
          clear nq
          go_wp2_with fail
          go_quiet (fail)
          have HD4 := hideB (below_drewB (w := W3) nq)
          have HS4 := hideB (HS3.out.below HD4.out)
          have HB4 := hideB (HB3.out.trans (But.of_below HD4.out))
          clear c0 c1 c2 c3
          obtain ⟨c0, c1, c2, c3⟩ := HS4.out.cells
          have f1 := HS4.out.free 1
          generalize W3.drewN nq = W4 at HS4 HB4 HD4 c0 c1 c2 c3 f1 ⊢
          clear nq
          have e1 : ((q + 1 : Nat) : Int) = (q : Int) + 1 := by omega
          obtain ⟨W5, hW5⟩ : ∃ W5, W4.setCell ⟨rb, 1, none⟩ (.int .i64 ((q : Int) + 1)) = W5 := ⟨_, rfl⟩
          have HS5 : Hid (SjAt W5 rb s (q + 1) false c) := by rw [Hid, ← hW5, ← e1]; exact HS4.out.setP hq
          have HB5 : Hid (But rb w W5) := by rw [Hid, ← hW5]; exact HB4.out.trans (But.of_set _ _)
          have l2 := HS5.out.cells.2.2.1
          have m2 := HS5.out.free 2
          clear e1
          by_cases hbig : 60 < T.size
          focus
            have hbig' : (60 : Int) < (T.size : Int) := by omega
            have HNO := hideB (HT2.out.long (by rw [len_is]; exact hbig))
            go_wp2_with fail
            go_roundw
            case rel => exact ⟨T, q + 1, true, rfl, by have := HTS.out; omega, HS5.out.setB true, HB5.out.trans (But.of_set _ _), .inr ⟨rfl, HNO.out⟩⟩
            case measure =>
              rw [HM.out, (HS5.out.setB true).badOf]
              simp
              omega
          rotate_left
          focus
            have hbig' : ¬ (60 : Int) < (T.size : Int) := by omega
            go_wp2_with fail
            go_roundw
            case rel => exact ⟨T, q + 1, false, rfl, by omega, HS5.out, HB5.out, .inl ⟨rfl, by omega, HT2.out⟩⟩
            case measure =>
              rw [HM.out, HS5.out.badOf, HS5.out.placeOf]
              simp; omega
        rotate_left
        focus
          have d127 : decide ((y.toNat : Int) ≤ 127) = false := by simp; omega
          have HNO := hideB (HBAD'.out (.inr (by omega)))
          clear HSTEP' HBAD' h32 h127
          go_wp2_with fail
          go_quiet (fail)
      rotate_left
      focus
        have d32 : decide ((32 : Int) ≤ (y.toNat : Int)) = false := by simp; omega
        have HNO := hideB (HBAD'.out (.inl (by omega)))
        clear HSTEP' HBAD' h32
        go_wp2_with fail
        go_quiet (fail)
    rotate_left 2
    focus
      have dq : decide ((q : Int) < (s.size : Int)) = false := by simp; omega
      have HNO := hideB (HBAD.out (fun h => absurd h hq))
      clear HSTEP HBAD
      go_wp2_with fail
      go_quiet (fail)
    all_goals
      have HD3 := hideB (below_drewB (w := w2) nq)
      have HS3 := hideB (HS2.out.below HD3.out)
      have HB3 := hideB (HB2.out.trans (But.of_below HD3.out))
      clear c0 c1 c2 c3
      obtain ⟨c0, c1, c2, c3⟩ := HS3.out.cells
      have f2 := HS3.out.free 2
      generalize w2.drewN nq = W3 at HS3 HB3 HD3 c0 c1 c2 c3 f2 ⊢
      clear nq
      have hO6' : ¬ (60 : Int) < (O.size : Int) := by omega
      go_wp2_with fail
      go_roundw
      case rel => exact ⟨O, q, true, rfl, by omega, HS3.out.setB true, HB3.out.trans (But.of_set _ _), .inr ⟨rfl, HNO.out⟩⟩
      case measure =>
        rw [HM.out, (HS3.out.setB true).badOf]
        simp
        omega
end Go.Proofs.YtagcgnhpdmhegaaGreatDoor

/-
  Plain: what l1Int reads out of a text, and that a number at a place of a text is read so.
-/
namespace Go.Proofs.YtagcgnhpdmhegaaGreatDoor
open Go.RowKit
set_option linter.unusedSimpArgs false
set_option linter.unusedVariables false

def digsI (d : List UInt8) : Prop := ∀ j, j < d.length → digC (byAt d j) = true
instance (d : List UInt8) : Decidable (digsI d) := by unfold digsI; infer_instance
/-- The number of a row of digits, behind a sign or not. -/
def intD (neg : Bool) (d : List UInt8) : Option Int :=
  if d.length < 1 ∨ 16 < d.length ∨ (byAt d 0 = 48 ∧ (1 < d.length ∨ neg = true)) ∨ ¬ digsI d ∨ 1000000000000000 < valF d 0 d.length then none
  else some (if neg = true then -((valF d 0 d.length : Nat) : Int) else ((valF d 0 d.length : Nat) : Int))
def negI (l : List UInt8) : Bool := decide (1 < l.length ∧ byAt l 0 = 45)
def intT (l : List UInt8) : Option Int := if negI l = true then intD true (l.drop 1) else intD false l
theorem intT_neg {l : List UInt8} (h : negI l = true) : intT l = intD true (l.drop 1) := by unfold intT; rw [if_pos h]
theorem intT_pos {l : List UInt8} (h : negI l = false) : intT l = intD false l := by unfold intT; rw [if_neg (by rw [h]; simp)]
theorem intD_no {neg : Bool} {d : List UInt8} (h : d.length < 1 ∨ 16 < d.length ∨ (byAt d 0 = 48 ∧ (1 < d.length ∨ neg = true)) ∨ ¬ digsI d ∨ 1000000000000000 < valF d 0 d.length) : intD neg d = none := by unfold intD; rw [if_pos h]
theorem intD_yes {neg : Bool} {d : List UInt8} (h : ¬ (d.length < 1 ∨ 16 < d.length ∨ (byAt d 0 = 48 ∧ (1 < d.length ∨ neg = true)) ∨ ¬ digsI d ∨ 1000000000000000 < valF d 0 d.length)) : intD neg d = some (if neg = true then -((valF d 0 d.length : Nat) : Int) else ((valF d 0 d.length : Nat) : Int)) := by unfold intD; rw [if_neg h]
theorem byAt_cut {L : List UInt8} {q m j : Nat} (h : j < m) : byAt ((L.drop q).take m) j = byAt L (q + j) := by
  unfold byAt
  rw [List.getD_eq_getElem?_getD, List.getD_eq_getElem?_getD, List.getElem?_take, if_pos h, List.getElem?_drop]
theorem valF_cut {L : List UInt8} {q m : Nat} : ∀ {k : Nat}, k ≤ m → valF ((L.drop q).take m) 0 k = valF L q k := by
  intro k
  induction k with
  | zero => intro _; rfl
  | succ k ih => intro h; rw [valF, valF, ih (by omega), Nat.zero_add, byAt_cut (by omega)]
theorem valF_low {L : List UInt8} {q : Nat} : ∀ {k : Nat}, 48 < byAt L q → 10 ^ k ≤ valF L q (k + 1) := by
  intro k h
  induction k with
  | zero => rw [valF, valF]; simp; omega
  | succ k ih => rw [valF, Nat.pow_succ]; omega
theorem valF_top {L : List UInt8} {q : Nat} : ∀ {k : Nat}, (∀ j, j < k → digC (byAt L (q + j)) = true) → valF L q k < 10 ^ k := by
  intro k
  induction k with
  | zero => intro _; simp [valF]
  | succ k ih =>
    intro h
    have h1 := ih (fun j hj => h j (by omega))
    have h2 := h k (by omega)
    unfold digC at h2
    simp only [decide_eq_true_eq] at h2
    rw [valF, Nat.pow_succ]
    omega
theorem cut_len {L : List UInt8} {q m : Nat} (h : q + m ≤ L.length) : ((L.drop q).take m).length = m := by
  rw [List.length_take, List.length_drop]; omega
theorem valF_long {L : List UInt8} {q m : Nat} (h0 : 48 < byAt L q) (hm : 16 < m) : 1000000000000000 < valF L q m := by
  have h1 := valF_low (k := 16) h0
  have h2 := valF_mono L q (show 16 + 1 ≤ m by omega)
  have : (1000000000000000 : Nat) < 10 ^ 16 := by decide
  omega
/-- Digits that stand at q, up to z. -/
theorem intD_at {L : List UInt8} {q z : Nat} {neg : Bool} (hz : dgJ L q = z) (hq : q ≤ L.length) (hn : neg = true → ¬ (z = q + 1 ∧ byAt L q = 48)) :
    intD neg ((L.drop q).take (z - q)) = if z = q ∨ (q + 1 < z ∧ byAt L q = 48) ∨ 1000000000000000 < valF L q (z - q) then none else some (if neg = true then -((valF L q (z - q) : Nat) : Int) else ((valF L q (z - q) : Nat) : Int)) := by
  have hge : q ≤ z := by rw [← hz]; exact runJ_ge _ _ _
  have hle : z ≤ L.length := by rw [← hz]; exact runJ_le hq
  have hin : ∀ j, j < z - q → digC (byAt L (q + j)) = true := fun j hj => runJ_in (p := q) (by omega) (by show q + j < dgJ L q; rw [hz]; omega)
  have hl := cut_len (L := L) (q := q) (m := z - q) (by omega)
  by_cases h0 : z = q
  · rw [if_pos (.inl h0), intD_no (.inl (by omega))]
  have hb0 : byAt ((L.drop q).take (z - q)) 0 = byAt L q := byAt_cut (by omega)
  have hdg : digsI ((L.drop q).take (z - q)) := fun j hj => by rw [hl] at hj; rw [byAt_cut hj]; exact hin j hj
  have hval : valF ((L.drop q).take (z - q)) 0 ((L.drop q).take (z - q)).length = valF L q (z - q) := by rw [hl]; exact valF_cut (Nat.le_refl _)
  have h48 := hin 0 (by omega)
  unfold digC at h48
  simp only [decide_eq_true_eq, Nat.add_zero] at h48
  by_cases hbad : (q + 1 < z ∧ byAt L q = 48) ∨ 1000000000000000 < valF L q (z - q)
  · rw [if_pos (.inr hbad)]
    refine intD_no ?_
    rw [hval, hl, hb0]
    rcases hbad with h | h
    · exact .inr (.inr (.inl ⟨h.2, .inl (by omega)⟩))
    · exact .inr (.inr (.inr (.inr h)))
  · rw [if_neg (fun h => by rcases h with h | h; exact h0 h; exact hbad h)]
    rw [intD_yes, hval]
    rw [hval, hl, hb0]
    rintro (h | h | ⟨h, h1⟩ | h | h)
    · omega
    · by_cases h1 : byAt L q = 48
      · exact hbad (.inl ⟨by omega, h1⟩)
      · exact hbad (.inr (valF_long (by omega) h))
    · rcases h1 with h1 | h1
      · exact hbad (.inl ⟨by omega, h⟩)
      · by_cases h2 : z = q + 1
        · exact hn h1 ⟨h2, h⟩
        · exact hbad (.inl ⟨by omega, h⟩)
    · exact h hdg
    · exact hbad (.inr h)
/-- The text of the number at p. -/
def numW (L : List UInt8) (p : Nat) : List UInt8 := (L.drop p).take (dgJ L (numAt L p) - p)
theorem numAt_ge (L : List UInt8) (p : Nat) : p ≤ numAt L p := by unfold numAt; split <;> omega
theorem numAt_le {L : List UInt8} {p : Nat} (h : p ≤ L.length) : numAt L p ≤ L.length := by
  unfold numAt
  split
  · rename_i e; have := (isAt_yes.1 e).1; omega
  · exact h
theorem numW_int {L : List UInt8} {p : Nat} (hp : p ≤ L.length) : (numW L p = [45, 48] → numJ L p = some (0, dgJ L (numAt L p))) ∧ (numW L p ≠ [45, 48] → numJ L p = match intT (numW L p) with | none => none | some v => some (v, dgJ L (numAt L p))) := by
  obtain ⟨q, hq⟩ : ∃ q, numAt L p = q := ⟨_, rfl⟩
  obtain ⟨z, hz⟩ : ∃ z, dgJ L q = z := ⟨_, rfl⟩
  have hge : q ≤ z := by rw [← hz]; exact runJ_ge _ _ _
  have hql : q ≤ L.length := by rw [← hq]; exact numAt_le hp
  have hle : z ≤ L.length := by rw [← hz]; exact runJ_le hql
  have hw : numW L p = (L.drop p).take (z - p) := by unfold numW; rw [hq, hz]
  have hpq := numAt_ge L p
  have hlen := cut_len (L := L) (q := p) (m := z - p) (by omega)
  have hnum : numJ L p = if z = q ∨ (q + 1 < z ∧ byAt L q = 48) ∨ 1000000000000000 < valF L q (z - q) then none else some (if isAt L p 45 = true then -((valF L q (z - q) : Nat) : Int) else ((valF L q (z - q) : Nat) : Int), z) := by unfold numJ; rw [hq, hz]
  have hin : ∀ j, j < z - q → digC (byAt L (q + j)) = true := fun j hj => runJ_in (p := q) (by omega) (by show q + j < dgJ L q; rw [hz]; omega)
  rw [hw, hq, hz]
  by_cases hn : isAt L p 45 = true
  · have hq1 : q = p + 1 := by rw [← hq]; unfold numAt; rw [if_pos hn]
    have h45 := (isAt_yes.1 hn).2
    refine ⟨fun h => ?_, fun h => ?_⟩
    · have hl2 : z - p = 2 := by rw [h] at hlen; simpa using hlen.symm
      have h48 : byAt L q = 48 := by
        have := byAt_cut (L := L) (q := p) (m := z - p) (j := 1) (by omega)
        rw [h] at this
        rw [hq1, ← this]; rfl
      have hv : valF L q (z - q) = 0 := by rw [show z - q = 1 by omega, valF, valF, Nat.add_zero, h48]
      rw [hnum, hv, if_neg (by omega)]
      simp
    · by_cases hzq : z = q
      · rw [hnum, if_pos (.inl hzq)]
        have hng : negI ((L.drop p).take (z - p)) = false := by unfold negI; rw [hlen]; simp; omega
        rw [intT_pos hng, intD_no]
        refine .inr (.inr (.inr (.inl (fun hd => ?_))))
        have := hd 0 (by omega)
        rw [byAt_cut (by omega), Nat.add_zero, h45] at this
        cases this
      · have hng : negI ((L.drop p).take (z - p)) = true := by
          unfold negI; rw [hlen, byAt_cut (by omega), Nat.add_zero, h45]; simp; omega
        have hdr : ((L.drop p).take (z - p)).drop 1 = (L.drop q).take (z - q) := by
          rw [List.drop_take, List.drop_drop, hq1, show z - p - 1 = z - (p + 1) by omega]
        rw [intT_neg hng, hdr, intD_at hz hql, hnum]
        · split
          · rfl
          · rfl
        · rintro - ⟨h1, h2⟩
          refine h ?_
          have e2 : z - p = 2 := by omega
          rw [e2]
          have hp0 : p < L.length := by omega
          have hp1 : p + 1 < L.length := by omega
          rw [List.drop_eq_getElem_cons hp0, List.drop_eq_getElem_cons hp1]
          have b0 : L[p] = 45 := by
            have := h45; unfold byAt at this; rw [List.getD_eq_getElem?_getD, List.getElem?_eq_getElem hp0] at this
            exact UInt8.toNat_inj.1 this
          have b1 : L[p + 1] = 48 := by
            have := h2; rw [hq1] at this; unfold byAt at this; rw [List.getD_eq_getElem?_getD, List.getElem?_eq_getElem hp1] at this
            exact UInt8.toNat_inj.1 this
          rw [b0, b1]; rfl
  · have hq1 : q = p := by rw [← hq]; unfold numAt; rw [if_neg hn]
    subst hq1
    have hnd : ∀ h : 0 < z - q, byAt ((L.drop q).take (z - q)) 0 ≠ 45 := fun h e => by
      rw [byAt_cut h, Nat.add_zero] at e
      have := hin 0 h
      rw [Nat.add_zero, e] at this
      cases this
    have hng : negI ((L.drop q).take (z - q)) = false := by
      unfold negI
      rw [hlen]
      simp only [decide_eq_false_iff_not]
      rintro ⟨h1, h2⟩
      exact hnd (by omega) h2
    refine ⟨fun h => ?_, fun h => ?_⟩
    · exfalso
      have hl2 : z - q = 2 := by rw [h] at hlen; simpa using hlen.symm
      refine hnd (by omega) ?_
      rw [h]; rfl
    · rw [intT_pos hng, intD_at hz hql (fun h => by cases h), hnum]
      split
      · rfl
      · rfl
end Go.Proofs.YtagcgnhpdmhegaaGreatDoor
