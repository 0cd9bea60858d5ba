/-
  The program's signReader: signs that must stand, escapes.
-/
import Derived.Test.YtagcgnhpdmhegaaGreatDoorJrS
import Derived.Test.YtagcgnhpdmhegaaGreatDoorIJs
namespace Go.Proofs.YtagcgnhpdmhegaaGreatDoor
open Go.RowKit
set_option linter.unusedSimpArgs false
set_option linter.unusedVariables false

set_option maxRecDepth 100000 in
set_option maxHeartbeats 1600000 in
theorem took_yes {rb p c : Nat} {s : ByteArray} {w : World} (h : SrAt w rb s p) (hs : s.size ≤ 1048576) (hc : isAt s.data.toList p c = true) :
    Calls Tryz.prog 115 #[.pointer (some ⟨rb, 0, none⟩), .int .u8 (c : Int)] w fun e w' => e = .returned (.bool true) ∧ SrAt w' rb s (skipJ s.data.toList (p + 1)) ∧ But rb w w' := by
  have H := hideB h
  obtain ⟨hp, hb⟩ := isAt_yes.1 hc
  rw [len_is] at hp
  have HP := hideB (peek_any h.br hs)
  rw [hb] at HP
  have hne : ((c : Int) != (c : Int)) = false := by simp
  clear h hc hb
  go_enter Tryz.func115, Tryz.ntmps115
  go_wp2_with fail
  refine HP.out.mono ?_
  rintro e w1 ⟨rfl, hb1⟩
  have HB1 := hideB hb1
  have HR := hideB (H.out.below hb1)
  have k2 := HR.out.br.place
  have k3 := HR.out.br.free
  have k4 := HR.out.br.lt
  have e1 : ((p : Int) + 1) = ((p + 1 : Nat) : Int) := by omega
  obtain ⟨W2, hW2⟩ : ∃ W2, w1.setCell ⟨rb, 1, none⟩ (.int .i64 ((p : Int) + 1)) = W2 := ⟨_, rfl⟩
  have HR2 : Hid (SrAt W2 rb s (p + 1)) := by rw [Hid, ← hW2, e1]; exact HR.out.to (by omega)
  have HB2 : Hid (But rb w W2) := (But.of_below HB1.out).trans (by rw [← hW2]; exact But.of_set _ _)
  have HSK := hideB (skip_any HR2.out hs)
  clear hb1 e1
  go_wp2_with fail
  refine HSK.out.mono ?_
  rintro e w3 ⟨rfl, hr3, hb3⟩
  have HR3 := hideB hr3
  have HB3 := hideB (HB2.out.trans hb3)
  clear hr3 hb3
  go_wp2_with fail
  go_ret
  exact ⟨rfl, HR3.out, HB3.out⟩

set_option maxRecDepth 100000 in
set_option maxHeartbeats 1600000 in
theorem took_no {rb p c : Nat} {s : ByteArray} {w : World} (h : SrAt w rb s p) (hs : s.size ≤ 1048576) (hc0 : 0 < c) (hc : isAt s.data.toList p c = false) :
    Calls Tryz.prog 115 #[.pointer (some ⟨rb, 0, none⟩), .int .u8 (c : Int)] w fun e w' => e = .returned (.bool false) ∧ SrAt w' rb s p ∧ But rb w w' := by
  have H := hideB h
  have hb : byAt s.data.toList p ≠ c := fun e => by
    by_cases hp : p < s.data.toList.length
    · exact isAt_no.1 hc ⟨hp, e⟩
    · rw [byAt_past (by omega)] at e; omega
  have HP := hideB (peek_any h.br hs)
  obtain ⟨b, hbb⟩ : ∃ b, byAt s.data.toList p = b := ⟨_, rfl⟩
  rw [hbb] at hb HP
  have hne : ((b : Int) != (c : Int)) = true := by simp; omega
  have hne2 : ¬ (b : Int) = (c : Int) := by omega
  clear h hc hbb
  go_enter Tryz.func115, Tryz.ntmps115
  go_wp2_with fail
  refine HP.out.mono ?_
  rintro e w1 ⟨rfl, hb1⟩
  have HB1 := hideB hb1
  clear hb1
  go_wp2_with fail
  go_ret
  exact ⟨rfl, H.out.below HB1.out, But.of_below HB1.out⟩

set_option maxRecDepth 100000 in
set_option maxHeartbeats 1600000 in
theorem must_yes {rb p c : Nat} {s : ByteArray} {w : World} (h : SrAt w rb s p) (hs : s.size ≤ 1048576) (hc : isAt s.data.toList p c = true) :
    Calls Tryz.prog 114 #[.pointer (some ⟨rb, 0, none⟩), .int .u8 (c : Int)] w fun e w' => e = .returned (.tuple #[]) ∧ SrAt w' rb s (skipJ s.data.toList (p + 1)) ∧ But rb w w' := by
  have HT := hideB (took_yes h hs hc)
  clear h hc
  go_enter Tryz.func114, Tryz.ntmps114
  go_wp2_with fail
  refine HT.out.mono ?_
  rintro e w1 ⟨rfl, h1, h2⟩
  have H1 := hideB h1
  have H2 := hideB h2
  clear h1 h2
  go_wp2_with fail
  go_end0
  exact ⟨rfl, H1.out, H2.out⟩

set_option maxRecDepth 100000 in
set_option maxHeartbeats 1600000 in
theorem must_no {rb p c : Nat} {s : ByteArray} {w : World} (h : SrAt w rb s p) (hs : s.size ≤ 1048576) (hc0 : 0 < c) (hc : isAt s.data.toList p c = false) :
    Calls Tryz.prog 114 #[.pointer (some ⟨rb, 0, none⟩), .int .u8 (c : Int)] w fun e w' => e = gup ∧ But rb w w' := by
  have HT := hideB (took_no h hs hc0 hc)
  clear h hc
  go_enter Tryz.func114, Tryz.ntmps114
  go_wp2_with fail
  refine HT.out.mono ?_
  rintro e w1 ⟨rfl, h1, h2⟩
  have H2 := hideB h2
  clear h1 h2
  go_wp2_with fail
  exact ⟨rfl, rfl, H2.out⟩

theorem hex_ix0 : ∀ n : Fin 256, Go.Lib.indexByte [48, 49, 50, 51, 52, 53, 54, 55, 56, 57, 97, 98, 99, 100, 101, 102] (UInt8.ofNat (if 65 ≤ n.val ∧ n.val ≤ 70 then n.val + 32 else n.val)) = (match hexC n.val with | some d => (d : Int) | none => -1) := by decide +kernel
set_option maxRecDepth 100000 in
set_option maxHeartbeats 1600000 in
theorem hexValue_any (c : Nat) (hc : c < 256) (w : World) :
    Calls Tryz.prog 127 #[.int .u8 (c : Int)] w fun e w' => w' = w ∧ ((∃ d : Nat, hexC c = some d ∧ e = .returned (.int .i64 (d : Int))) ∨ (hexC c = none ∧ e = gup)) := by
  have HX := hideB (hex_ix0 ⟨c, hc⟩)
  obtain ⟨b, hb⟩ : ∃ b, (if 65 ≤ c ∧ c ≤ 70 then c + 32 else c) = b := ⟨_, rfl⟩
  have hb256 : b < 256 := by rw [← hb]; split <;> omega
  have HBI : Hid (∀ w, Calls Tryz.prog 74 #[.string ⟨#[48, 49, 50, 51, 52, 53, 54, 55, 56, 57, 97, 98, 99, 100, 101, 102]⟩, .int .u8 (b : Int)] w fun e w' => e = .returned (.int .i64 (Go.Lib.indexByte [48, 49, 50, 51, 52, 53, 54, 55, 56, 57, 97, 98, 99, 100, 101, 102] (UInt8.ofNat b))) ∧ w' = w) := fun w => by
    have := indexByte_any ⟨#[48, 49, 50, 51, 52, 53, 54, 55, 56, 57, 97, 98, 99, 100, 101, 102]⟩ (UInt8.ofNat b) w
    rw [UInt8.toNat_ofNat', Nat.mod_eq_of_lt (by omega)] at this
    exact this
  cases hh : hexC c with
  | some d =>
    have h1 := HX.out
    simp only [hh] at h1
    rw [hb] at h1
    rw [h1] at HBI
    have hd : ¬ (d : Int) < 0 := by have := Int.natCast_nonneg d; omega
    clear h1 HX
    by_cases hu : 65 ≤ c ∧ c ≤ 70
    · obtain ⟨u1, u2⟩ := hu
      rw [if_pos ⟨u1, u2⟩] at hb
      have q1 : (65 : Int) ≤ (c : Int) := by omega
      have q2 : (c : Int) ≤ 70 := by omega
      have q3 : IntKind.u8.wrap ((c : Int) + 32) = (b : Int) := by rw [u8_wrap (by omega) (by omega)]; omega
      clear hb
      go_enter Tryz.func127, Tryz.ntmps127
      go_wp2_with (go_at_call 74; refine (HBI.out _).mono ?_; rintro e w1 ⟨rfl, rfl⟩)
      go_ret
      exact ⟨rfl, .inl ⟨d, rfl, rfl⟩⟩
    · rw [if_neg hu] at hb
      subst hb
      by_cases q1 : (65 : Int) ≤ (c : Int)
      · have q2 : ¬ (c : Int) ≤ 70 := by omega
        go_enter Tryz.func127, Tryz.ntmps127
        go_wp2_with (go_at_call 74; refine (HBI.out _).mono ?_; rintro e w1 ⟨rfl, rfl⟩)
        go_ret
        exact ⟨rfl, .inl ⟨d, rfl, rfl⟩⟩
      · go_enter Tryz.func127, Tryz.ntmps127
        go_wp2_with (go_at_call 74; refine (HBI.out _).mono ?_; rintro e w1 ⟨rfl, rfl⟩)
        go_ret
        exact ⟨rfl, .inl ⟨d, rfl, rfl⟩⟩
  | none =>
    have h1 := HX.out
    simp only [hh] at h1
    rw [hb] at h1
    rw [h1] at HBI
    have hu : ¬ (65 ≤ c ∧ c ≤ 70) := fun hu => by unfold hexC at hh; rw [if_neg (by omega), if_neg (by omega), if_pos hu] at hh; cases hh
    clear h1 HX
    rw [if_neg hu] at hb
    subst hb
    by_cases q1 : (65 : Int) ≤ (c : Int)
    · have q2 : ¬ (c : Int) ≤ 70 := by omega
      go_enter Tryz.func127, Tryz.ntmps127
      go_wp2_with (go_at_call 74; refine (HBI.out _).mono ?_; rintro e w1 ⟨rfl, rfl⟩)
      exact ⟨rfl, rfl, .inr ⟨by first | rfl | trivial, rfl⟩⟩
    · go_enter Tryz.func127, Tryz.ntmps127
      go_wp2_with (go_at_call 74; refine (HBI.out _).mono ?_; rintro e w1 ⟨rfl, rfl⟩)
      exact ⟨rfl, rfl, .inr ⟨by first | rfl | trivial, rfl⟩⟩

set_option maxRecDepth 100000 in
set_option maxHeartbeats 3200000 in
theorem readCode_any {rb p : Nat} {s : ByteArray} {w : World} (h : SrAt w rb s p) (hs : s.size ≤ 1048576) :
    Calls Tryz.prog 123 #[.pointer (some ⟨rb, 0, none⟩)] w fun e w' => ((∃ b q, codeJ s.data.toList p = some (b, q) ∧ e = .returned (.int .u8 (b : Int)) ∧ SrAt w' rb s q) ∨ (codeJ s.data.toList p = none ∧ e = gup)) ∧ But rb w w' := by
  have H := hideB h
  have hps := h.br.le
  have hln := len_is s
  have HLN := hideB hln
  clear hln
  clear h
  go_enter Tryz.func123, Tryz.ntmps123
  go_wp2_with fail
  go_loopw [3, 4] (fun n i wr => ∃ (k v : Nat), k ≤ 4 ∧ i = .int .i64 (k : Int) ∧ n = .int .i64 (v : Int) ∧ Hid (hexF s.data.toList p k = some v) ∧ p + k ≤ s.size ∧ SrAt wr rb s (p + k) ∧ But rb w wr) (fun _ i _ => 4 - (intOf i).toNat)
  case atStart => exact ⟨0, 0, by omega, rfl, rfl, rfl, by omega, H.out, But.refl _ _⟩
  case round =>
    obtain ⟨k, v, hk, rfl, rfl, HV, hpk, hsr, hbt⟩ := hrel
    have HS := hideB hsr
    have HBT := hideB hbt
    have hv : v < 65536 := by
      have h1 := hexF_lt _ _ HV.out
      have h2 : 16 ^ k ≤ 16 ^ 4 := Nat.pow_le_pow_right (by omega) hk
      omega
    clear hsr hbt
    by_cases hlt : k < 4
    · have hlt' : (k : Int) < 4 := by omega
      by_cases hq : p + k < s.size
      · have HNX := hideB (nextS_yes HS.out hq hs)
        have hb : s[p + k].toNat = byAt s.data.toList (p + k) := byS hq
        rw [hb] at HNX
        have hb256 := byAt_lt s.data.toList (p + k)
        obtain ⟨c, hc⟩ : ∃ c, byAt s.data.toList (p + k) = c := ⟨_, rfl⟩
        have HC := hideB hc
        rw [hc] at HNX hb256
        clear hb hc
        go_wp2_with fail
        refine HNX.out.mono ?_
        rintro e w1 ⟨rfl, hr1, hb1⟩
        have HR1 := hideB hr1
        have HB1 := hideB hb1
        clear hr1 hb1
        go_wp2_with fail
        refine (hexValue_any c hb256 w1).mono ?_
        rintro e w2 ⟨rfl, ⟨d, hd, rfl⟩ | ⟨hd, rfl⟩⟩
        · have hd16 := hexC_lt hd
          have HD := hideB hd
          clear hd
          go_wp2_with fail
          go_roundw
          case rel => exact ⟨k + 1, 16 * v + d, by omega, by go_num, by go_num, hexF_step HV.out (by rw [HC.out]; exact HD.out), by omega, HR1.out, HBT.out.trans HB1.out⟩
          case measure => simp [intOf]; omega
        · have HD := hideB hd
          clear hd
          unfold gup
          go_wp2_with fail
          exact ⟨rfl, .inr ⟨codeJ_no (hexF_stop HV.out (by rw [HC.out]; exact HD.out) hlt), rfl⟩, HBT.out.trans HB1.out⟩
      · have hqe : p + k = s.size := by omega
        have HNX := hideB (next_no (w := wr) (by have := HS.out.br; rw [hqe] at this; exact this) hs)
        clear hqe
        go_wp2_with fail
        refine HNX.out.mono ?_
        rintro e w1 ⟨rfl, _, hb1⟩
        have HB1 := hideB hb1
        clear hb1
        unfold gup
        go_wp2_with fail
        exact ⟨rfl, .inr ⟨codeJ_short (by rw [HLN.out]; omega), rfl⟩, HBT.out.trans HB1.out⟩
    · obtain rfl : k = 4 := by omega
      by_cases hbig : 127 < v
      · have hbig' : (127 : Int) < (v : Int) := by omega
        go_wp2_with fail
        exact ⟨rfl, .inr ⟨codeJ_big HV.out hbig, rfl⟩, HBT.out⟩
      · have hbig' : ¬ (127 : Int) < (v : Int) := by omega
        have hw : IntKind.u8.wrap (v : Int) = (v : Int) := u8_wrap (by omega) (by omega)
        go_wp2_with fail
        go_ret
        exact ⟨.inl ⟨v, p + 4, codeJ_yes (by rw [HLN.out]; exact hpk) HV.out (by omega), rfl, HS.out⟩, HBT.out⟩
end Go.Proofs.YtagcgnhpdmhegaaGreatDoor

/-
  The program's signReader: an escape, a text in quotes.
-/
namespace Go.Proofs.YtagcgnhpdmhegaaGreatDoor
open Go.RowKit
set_option linter.unusedSimpArgs false
set_option linter.unusedVariables false

theorem esc_ix0 : ∀ n : Fin 256, n.val ≠ 47 → (escC n.val = none ∧ Go.Lib.indexByte [34, 92, 98, 116, 110, 102, 114] (UInt8.ofNat n.val) = -1) ∨ ∃ i : Fin 7, Go.Lib.indexByte [34, 92, 98, 116, 110, 102, 114] (UInt8.ofNat n.val) = (i.val : Int) ∧ escC n.val = some (([34, 92, 8, 9, 10, 12, 13] : List Nat).getD i.val 0) := by decide +kernel
theorem escJ_past {L : List UInt8} {p : Nat} (h : L.length ≤ p) : escJ L p = none := by unfold escJ; rw [if_pos h]
theorem escJ_one {L : List UInt8} {p b : Nat} (h : p < L.length) (hb : escC (byAt L p) = some b) : escJ L p = some (b, p + 1) := by unfold escJ; rw [if_neg (by omega)]; simp only [hb]
theorem escJ_code {L : List UInt8} {p : Nat} (h : p < L.length) (hb : byAt L p = 117) : escJ L p = codeJ L (p + 1) := by
  unfold escJ
  rw [if_neg (by omega)]
  have : escC (byAt L p) = none := by rw [hb]; rfl
  simp only [this, if_pos hb]
theorem escJ_none {L : List UInt8} {p : Nat} (h : p < L.length) (hb : escC (byAt L p) = none) (hc : byAt L p ≠ 117) : escJ L p = none := by
  unfold escJ
  rw [if_neg (by omega)]
  simp only [hb, if_neg hc]
theorem escS_at : ∀ i : Nat, i < 7 → ∀ h : i < (ByteArray.mk #[34, 92, 8, 9, 10, 12, 13]).size, ((ByteArray.mk #[34, 92, 8, 9, 10, 12, 13])[i]'h).toNat = ([34, 92, 8, 9, 10, 12, 13] : List Nat).getD i 0 := by
  intro i hi h
  rcases i with _ | _ | _ | _ | _ | _ | _ | i
  · rfl
  · rfl
  · rfl
  · rfl
  · rfl
  · rfl
  · rfl
  · omega

set_option maxRecDepth 100000 in
set_option maxHeartbeats 3200000 in
theorem readEscape_any {rb p : Nat} {s : ByteArray} {w : World} (h : SrAt w rb s p) (hs : s.size ≤ 1048576) :
    Calls Tryz.prog 113 #[.pointer (some ⟨rb, 0, none⟩)] w fun e w' => ((∃ b q, escJ s.data.toList p = some (b, q) ∧ e = .returned (.int .u8 (b : Int)) ∧ SrAt w' rb s q) ∨ (escJ s.data.toList p = none ∧ e = gup)) ∧ But rb w w' := by
  have H := hideB h
  have hps := h.br.le
  have HLN := hideB (len_is s)
  clear h
  by_cases hq : p < s.size
  · have HQL : Hid (p < s.data.toList.length) := by rw [Hid, HLN.out]; exact hq
    have HNX := hideB (nextS_yes H.out hq hs)
    rw [byS hq] at HNX
    have hb256 := byAt_lt s.data.toList p
    obtain ⟨c, hc⟩ : ∃ c, byAt s.data.toList p = c := ⟨_, rfl⟩
    have HC := hideB hc
    rw [hc] at HNX hb256
    clear hc
    by_cases c1 : c = 47
    · subst c1
      have HE : Hid (escJ s.data.toList p = some (47, p + 1)) := escJ_one HQL.out (by rw [HC.out]; rfl)
      go_enter Tryz.func113, Tryz.ntmps113
      go_wp2_with fail
      refine HNX.out.mono ?_
      rintro e w1 ⟨rfl, hr1, hb1⟩
      have HR1 := hideB hr1
      have HB1 := hideB hb1
      clear hr1 hb1
      go_wp2_with fail
      go_ret
      exact ⟨.inl ⟨47, p + 1, HE.out, rfl, HR1.out⟩, HB1.out⟩
    · have q1 : ((c : Int) == 47) = false := by simp; omega
      have q1' : ¬ (c : Int) = 47 := by omega
      by_cases c2 : c = 117
      · subst c2
        have HE : Hid (escJ s.data.toList p = codeJ s.data.toList (p + 1)) := escJ_code HQL.out HC.out
        go_enter Tryz.func113, Tryz.ntmps113
        go_wp2_with fail
        refine HNX.out.mono ?_
        rintro e w1 ⟨rfl, hr1, hb1⟩
        have HR1 := hideB hr1
        have HB1 := hideB hb1
        clear hr1 hb1
        go_wp2_with fail
        refine (readCode_any HR1.out hs).mono ?_
        rintro e w2 ⟨⟨b, z, hcd, rfl, hr2⟩ | ⟨hcd, rfl⟩, hb2⟩
        · have HCD := hideB hcd
          have HR2 := hideB hr2
          have HB2 := hideB (HB1.out.trans hb2)
          clear hcd hr2 hb2
          go_wp2_with fail
          go_ret
          exact ⟨.inl ⟨b, z, by rw [HE.out]; exact HCD.out, rfl, HR2.out⟩, HB2.out⟩
        · have HCD := hideB hcd
          have HB2 := hideB (HB1.out.trans hb2)
          clear hcd hb2
          unfold gup
          go_wp2_with fail
          exact ⟨rfl, .inr ⟨by rw [HE.out]; exact HCD.out, rfl⟩, HB2.out⟩
      · have q2 : ((c : Int) == 117) = false := by simp; omega
        have q2' : ¬ (c : Int) = 117 := by omega
        have HBI : Hid (∀ w, Calls Tryz.prog 74 #[.string ⟨#[34, 92, 98, 116, 110, 102, 114]⟩, .int .u8 (c : Int)] w fun e w' => e = .returned (.int .i64 (Go.Lib.indexByte [34, 92, 98, 116, 110, 102, 114] (UInt8.ofNat c))) ∧ w' = w) := fun w => by
          have := indexByte_any ⟨#[34, 92, 98, 116, 110, 102, 114]⟩ (UInt8.ofNat c) w
          rw [UInt8.toNat_ofNat', Nat.mod_eq_of_lt (by omega)] at this
          exact this
        rcases esc_ix0 ⟨c, hb256⟩ c1 with ⟨e1, e2⟩ | ⟨i, e1, e2⟩
        · have HE : Hid (escJ s.data.toList p = none) := escJ_none HQL.out (by rw [HC.out]; exact e1) (by rw [HC.out]; exact c2)
          simp only at e2
          rw [e2] at HBI
          clear e1 e2
          go_enter Tryz.func113, Tryz.ntmps113
          go_wp2_with fail
          refine HNX.out.mono ?_
          rintro e w1 ⟨rfl, hr1, hb1⟩
          have HB1 := hideB hb1
          clear hr1 hb1
          go_wp2_with fail
          refine (HBI.out _).mono ?_
          rintro e w2 ⟨rfl, rfl⟩
          go_wp2_with fail
          exact ⟨rfl, .inr ⟨HE.out, rfl⟩, HB1.out⟩
        · obtain ⟨i, hi7⟩ := i
          dsimp only at e1 e2
          have HE : Hid (escJ s.data.toList p = some (([34, 92, 8, 9, 10, 12, 13] : List Nat).getD i 0, p + 1)) := escJ_one HQL.out (by rw [HC.out]; exact e2)
          rw [e1] at HBI
          have hi0 : ¬ (i : Int) < 0 := by omega
          have hsz : (ByteArray.mk #[34, 92, 8, 9, 10, 12, 13]).size = 7 := rfl
          have HAT := hideB (escS_at i hi7 (by rw [hsz]; exact hi7))
          have hi7' : (i : Int) < 7 := by omega
          clear e1 e2
          go_enter Tryz.func113, Tryz.ntmps113
          go_wp2_with fail
          refine HNX.out.mono ?_
          rintro e w1 ⟨rfl, hr1, hb1⟩
          have HR1 := hideB hr1
          have HB1 := hideB hb1
          clear hr1 hb1
          go_wp2_with fail
          refine (HBI.out _).mono ?_
          rintro e w2 ⟨rfl, rfl⟩
          go_wp2_with fail
          go_ret
          refine ⟨.inl ⟨_, p + 1, HE.out, ?_, HR1.out⟩, HB1.out⟩
          rw [← HAT.out]
          rfl
  · obtain rfl : p = s.size := by omega
    have HE : Hid (escJ s.data.toList s.size = none) := escJ_past (by rw [HLN.out]; omega)
    have HNX := hideB (next_no H.out.br hs)
    go_enter Tryz.func113, Tryz.ntmps113
    go_wp2_with fail
    refine HNX.out.mono ?_
    rintro e w1 ⟨rfl, _, hb1⟩
    have HB1 := hideB hb1
    clear hb1
    unfold gup
    go_wp2_with fail
    exact ⟨rfl, .inr ⟨HE.out, rfl⟩, HB1.out⟩
end Go.Proofs.YtagcgnhpdmhegaaGreatDoor

/-
  The program's readText: a text in quotes.
-/
namespace Go.Proofs.YtagcgnhpdmhegaaGreatDoor
open Go.RowKit
set_option linter.unusedSimpArgs false
set_option linter.unusedVariables false

theorem ft_bld : FT 41 0 := ⟨by kernel_rfl, by decide⟩
set_option maxRecDepth 100000 in
set_option maxHeartbeats 2000000 in
theorem string_nil {b : Nat} {p : Value} {w : World} (hb : w.heap[b]? = some (.cells #[p, .slice none 0 0] 41 (0, 0))) :
    Calls Tryz.prog 20 #[.pointer (some ⟨b, 0, none⟩)] w fun e w' => e = .returned (.string (txt [])) ∧ Below w.heap.size w w' := by
  have mixed : Tryz.prog.follows .mixedOrders = true := by kernel_rfl
  have hb' : w.drew.heap[b]? = some (.cells #[p, .slice none 0 0] 41 (0, 0)) := hb
  have c1 : w.drew.cell? ⟨b, 1, none⟩ = some (.slice none 0 0) := cellAt hb' (by simp)
  have HE := hideB (show Below w.heap.size w w.drew from Below.drew (Below.refl _ _))
  have hSD : (Builtin.unsafeSliceData_ #[22] 88 #[.slice none 0 0]).run Tryz.prog w.drew = .ok (.pointer none) w.drew := rfl
  have hUS : (Builtin.unsafeString_ #[88, 3] 9 #[.pointer none, .int .i64 0]).run Tryz.prog w.drew = .ok (.string .empty) w.drew := Lib.run_unsafeString_none w.drew _ _ _ _
  clear hb'
  go_enter Tryz.func20, Tryz.ntmps20
  go_wp2
  go_region_o
  all_goals (go_wp2; go_ret; exact ⟨rfl, HE.out⟩)

/-- The text that is written so far: its rows apart from the reader. -/
structure Wr (w : World) (b : Nat) (l : List UInt8) (wr : World) : Prop where
  fb : FB 41 w.heap.size b [] l wr
  nil : l = [] → wr.heap[b]? = some (.cells #[.pointer none, .slice none 0 0] 41 (0, 0))
theorem Wr.read {w wr w2 : World} {rb b : Nat} {l : List UInt8} (h : Wr w b l wr) (hb : But rb wr w2) (hr : rb < w.heap.size) : Wr w b l w2 := by
  obtain ⟨h1, p, v, hp, h2, h3, h4⟩ := h.fb
  have hbl : b < wr.heap.size := lt_heap h2
  have e : w2.heap[b]? = wr.heap[b]? := hb.block b hbl (by omega)
  refine ⟨⟨h1, p, v, hp, e.trans h2, ?_, h4⟩, fun hl => e.trans (h.nil hl)⟩
  exact own_from (w := wr) h3 ⟨hb.size, fun c c1 c2 => hb.block c c2 (by omega)⟩
theorem Wr.apart {w wr : World} {rb b : Nat} {l : List UInt8} {s : ByteArray} {q : Nat} {w2 : World} (hs : SrAt wr rb s q) (hr : rb < w.heap.size) (hb : Below w.heap.size wr w2) : SrAt w2 rb s q := hs.keep (hb.block rb hr) hb.size
theorem But.belowN {rb : Nat} {w a b : World} (h : But rb w a) (k : Below w.heap.size a b) : But rb w b :=
  ⟨k.os.trans h.os, k.tape.trans h.tape, k.output.trans h.output, Nat.le_trans h.size k.size, fun c hc hn => (k.block c hc).trans (h.block c hc hn)⟩

theorem tx_push {X : Option (List UInt8 × Nat)} {l : List UInt8} {b : UInt8} : (X.map (fun y => (b :: y.1, y.2))).map (fun y => (l ++ y.1, y.2)) = X.map (fun y => ((l ++ [b]) ++ y.1, y.2)) := by cases X <;> simp
theorem tx_end {L : List UInt8} {q : Nat} (hq : q < L.length) (h : byAt L q = 34) : txJ L q = some ([], q + 1) := by rw [txJ_eq hq, if_pos h]
theorem tx_esc {L : List UInt8} {q b z : Nat} (hq : q < L.length) (h : byAt L q = 92) (he : escJ L (q + 1) = some (b, z)) : txJ L q = (txJ L z).map (fun y => (UInt8.ofNat b :: y.1, y.2)) := by
  rw [txJ_eq hq, if_neg (by omega), if_pos h, he]
  dsimp only
  cases txJ L z <;> rfl
theorem tx_noesc {L : List UInt8} {q : Nat} (hq : q < L.length) (h : byAt L q = 92) (he : escJ L (q + 1) = none) : txJ L q = none := by rw [txJ_eq hq, if_neg (by omega), if_pos h, he]
theorem tx_bad {L : List UInt8} {q : Nat} (hq : q < L.length) (h1 : byAt L q ≠ 34) (h2 : byAt L q ≠ 92) (h : byAt L q < 32 ∨ 127 < byAt L q) : txJ L q = none := by rw [txJ_eq hq, if_neg h1, if_neg h2, if_pos h]
theorem tx_step {L : List UInt8} {q : Nat} (hq : q < L.length) (h1 : byAt L q ≠ 34) (h2 : byAt L q ≠ 92) (h : ¬ (byAt L q < 32 ∨ 127 < byAt L q)) : txJ L q = (txJ L (q + 1)).map (fun y => (UInt8.ofNat (byAt L q) :: y.1, y.2)) := by
  rw [txJ_eq hq, if_neg h1, if_neg h2, if_neg h]
  cases txJ L (q + 1) <;> rfl

set_option maxRecDepth 100000 in
set_option maxHeartbeats 6400000 in
theorem readText_any {rb p : Nat} {s : ByteArray} {w : World} (h : SrAt w rb s p) (hs : s.size ≤ 4000) :
    Calls Tryz.prog 97 #[.pointer (some ⟨rb, 0, none⟩)] w fun e w' => ((∃ l q, isAt s.data.toList p 34 = true ∧ txJ s.data.toList (p + 1) = some (l, q) ∧ e = .returned (.string (txt l)) ∧ SrAt w' rb s q) ∨ ((isAt s.data.toList p 34 = false ∨ txJ s.data.toList (p + 1) = none) ∧ e = gup)) ∧ But rb w w' := by
  have H := hideB h
  have hps := h.br.le
  have hrb := h.br.lt
  have HLN := hideB (len_is s)
  clear h
  by_cases hq : p < s.size
  · have HQL : Hid (p < s.data.toList.length) := by rw [Hid, HLN.out]; exact hq
    have HNX := hideB (nextS_yes H.out hq (by omega))
    rw [byS hq] at HNX
    have hb256 := byAt_lt s.data.toList p
    obtain ⟨c, hc⟩ : ∃ c, byAt s.data.toList p = c := ⟨_, rfl⟩
    have HC := hideB hc
    rw [hc] at HNX hb256
    clear hc
    by_cases c1 : c = 34
    · subst c1
      have HIS : Hid (isAt s.data.toList p 34 = true) := isAt_yes.2 ⟨HQL.out, HC.out⟩
      go_enter Tryz.func97, Tryz.ntmps97
      go_wp2_with fail
      refine HNX.out.mono ?_
      rintro e w1 ⟨rfl, hr1, hb1⟩
      have HR1 := hideB hr1
      have HB1 := hideB hb1
      have z1 := hb1.size
      have hal : Below w1.heap.size w1 (w1.alloc (.cells #[.pointer none, .slice none 0 0] 41)) := (Below.refl _ _).alloc (Nat.le_refl _) _
      have HR2 := hideB (hr1.below hal)
      have HB2 : Hid (But rb w (w1.alloc (.cells #[.pointer none, .slice none 0 0] 41))) := hb1.trans (But.of_below hal)
      have HW2 : Hid (Wr w w1.heap.size [] (w1.alloc (.cells #[.pointer none, .slice none 0 0] 41))) := by
        have e0 : (w1.alloc (.cells #[.pointer none, .slice none 0 0] 41)).heap[w1.heap.size]? = some (.cells #[.pointer none, .slice none 0 0] 41 (0, 0)) := by show (w1.heap.push _)[w1.heap.size]? = _; simp
        exact ⟨⟨z1, .pointer none, .slice none 0 0, .inl rfl, e0, World.ownsRow_nil _ _ _ _, by simp [Value.ownBlock]⟩, fun _ => e0⟩
      obtain ⟨bb, hbb⟩ : ∃ bb, w1.heap.size = bb := ⟨_, rfl⟩
      have HBBE := hideB hbb
      clear hr1 hb1 hal
      rw [hbb] at HW2
      go_wp2_with fail
      go_loopw [4] (fun cc wr => ∃ (q : Nat) (l : List UInt8), SrAt wr rb s q ∧ Wr w bb l wr ∧ But rb w wr ∧ p + 1 ≤ q ∧ l.length + (p + 1) ≤ q ∧ Hid (txJ s.data.toList (p + 1) = (txJ s.data.toList q).map (fun y => (l ++ y.1, y.2)))) (fun _ wr => s.size + 1 - placeOf wr rb)
      case atStart => exact ⟨p + 1, [], HR2.out, HW2.out, HB2.out, Nat.le_refl _, by simp, by rw [Hid]; cases txJ s.data.toList (p + 1) <;> rfl⟩
      case round =>
        obtain ⟨q, l, hsr, hwr, hbt, hpq, hlq, HT⟩ := hrel
        have HS := hideB hsr
        have HW := hideB hwr
        have HBT := hideB hbt
        have hqs := hsr.br.le
        have zr := hbt.size
        clear hsr hwr hbt
        by_cases hq2 : q < s.size
        · have HQ2 : Hid (q < s.data.toList.length) := by rw [Hid, HLN.out]; exact hq2
          have HNX2 := hideB (nextS_yes HS.out hq2 (by omega))
          rw [byS hq2] at HNX2
          have hc256 := byAt_lt s.data.toList q
          obtain ⟨c, hc⟩ : ∃ c, byAt s.data.toList q = c := ⟨_, rfl⟩
          have HCC := hideB hc
          rw [hc] at HNX2 hc256
          clear hc
          by_cases d1 : c = 34
          · subst d1
            have HEQ : Hid (txJ s.data.toList (p + 1) = some (l, q + 1)) := by rw [Hid, HT.out, tx_end HQ2.out HCC.out]; simp
            go_wp2_with fail
            refine HNX2.out.mono ?_
            rintro e w2 ⟨rfl, hr2, hb2⟩
            have HR3 := hideB hr2
            have HBT3 := hideB (HBT.out.trans hb2)
            have HW3 := hideB (HW.out.read hb2 hrb)
            clear hr2 hb2
            by_cases hl : l = []
            · have HNIL := hideB (string_nil (HW3.out.nil hl))
              rw [hl] at HEQ
              clear hl
              go_wp2_with fail
              refine HNIL.out.mono ?_
              rintro e w4 ⟨rfl, hb4⟩
              have HB4 := hideB hb4
              clear hb4
              go_wp2_with fail
              go_ret
              exact ⟨.inl ⟨[], q + 1, HIS.out, HEQ.out, rfl, HR3.out.below HB4.out⟩, HBT3.out.trans (But.of_below HB4.out)⟩
            · have HSTR := hideB (fb_string HW3.out.fb hl)
              clear hl
              go_wp2_with fail
              refine HSTR.out.mono ?_
              rintro e w4 ⟨rfl, hb4⟩
              have HR4 := hideB (Wr.apart (b := bb) (l := l) HR3.out hrb hb4)
              have HB4 := hideB (HBT3.out.belowN hb4)
              clear hb4
              go_wp2_with fail
              go_ret
              exact ⟨.inl ⟨l, q + 1, HIS.out, HEQ.out, rfl, HR4.out⟩, HB4.out⟩
          · have r1 : ((c : Int) == 34) = false := by simp; omega
            have r1' : ¬ (c : Int) = 34 := by omega
            by_cases d2 : c = 92
            · subst d2
              go_wp2_with fail
              refine HNX2.out.mono ?_
              rintro e w2 ⟨rfl, hr2, hb2⟩
              have HR3 := hideB hr2
              have HBT3 := hideB (HBT.out.trans hb2)
              have HW3 := hideB (HW.out.read hb2 hrb)
              clear hr2 hb2
              go_wp2_with fail
              refine (readEscape_any HR3.out (by omega)).mono ?_
              rintro e w3 ⟨⟨b, z, hes, rfl, hr3⟩ | ⟨hes, rfl⟩, hb3⟩
              · obtain ⟨y1, y2, y3⟩ := escJ_says hes
                have HEQ : Hid (txJ s.data.toList q = (txJ s.data.toList z).map (fun y => (UInt8.ofNat b :: y.1, y.2))) := tx_esc HQ2.out HCC.out hes
                have HR4 := hideB hr3
                have HBT4 := hideB (HBT3.out.trans hb3)
                have HW4 := hideB (HW3.out.read hb3 hrb)
                have hbv : ((UInt8.ofNat b).toNat : Int) = (b : Int) := by rw [UInt8.toNat_ofNat', Nat.mod_eq_of_lt (by omega)]
                have HBY := hideB (fb_byte ft_bld HW4.out.fb (UInt8.ofNat b) (by omega) (by have := HBT4.out.size; omega))
                rw [hbv] at HBY
                clear hes hr3 hb3 hbv
                go_wp2_with fail
                refine HBY.out.mono ?_
                rintro e w9 ⟨rfl, hf9, hb9, _⟩
                have HF9 : Hid (Wr w bb (l ++ [UInt8.ofNat b]) w9) := ⟨hf9, fun e => by simp at e⟩
                have HR9 := hideB (Wr.apart (b := bb) (l := l) HR4.out hrb hb9)
                have HB9 := hideB (HBT4.out.belowN hb9)
                clear hf9 hb9
                go_wp2_with fail
                go_roundw
                case rel => exact ⟨z, l ++ [UInt8.ofNat b], HR9.out, HF9.out, HB9.out, by omega, by simp; omega, by rw [Hid, HT.out, HEQ.out]; exact tx_push⟩
                case measure => rw [HS.out.placeOf, HR9.out.placeOf]; omega
              · have HEQ : Hid (txJ s.data.toList (p + 1) = none) := by rw [Hid, HT.out, tx_noesc HQ2.out HCC.out hes]; rfl
                have HBT4 := hideB (HBT3.out.trans hb3)
                clear hes hb3
                unfold gup
                go_wp2_with fail
                exact ⟨rfl, .inr ⟨.inr HEQ.out, rfl⟩, HBT4.out⟩
            · have r2 : ((c : Int) == 92) = false := by simp; omega
              have r2' : ¬ (c : Int) = 92 := by omega
              by_cases d3 : c < 32 ∨ 127 < c
              · have HEQ : Hid (txJ s.data.toList (p + 1) = none) := by rw [Hid, HT.out, tx_bad HQ2.out (by rw [HCC.out]; exact d1) (by rw [HCC.out]; exact d2) (by rw [HCC.out]; exact d3)]; rfl
                by_cases d4 : c < 32
                · have r3 : (c : Int) < 32 := by omega
                  go_wp2_with fail
                  refine HNX2.out.mono ?_
                  rintro e w2 ⟨rfl, hr2, hb2⟩
                  have HBT3 := hideB (HBT.out.trans hb2)
                  clear hr2 hb2
                  go_wp2_with fail
                  exact ⟨rfl, .inr ⟨.inr HEQ.out, rfl⟩, HBT3.out⟩
                · have r3 : ¬ (c : Int) < 32 := by omega
                  have r4 : (127 : Int) < (c : Int) := by omega
                  go_wp2_with fail
                  refine HNX2.out.mono ?_
                  rintro e w2 ⟨rfl, hr2, hb2⟩
                  have HBT3 := hideB (HBT.out.trans hb2)
                  clear hr2 hb2
                  go_wp2_with fail
                  exact ⟨rfl, .inr ⟨.inr HEQ.out, rfl⟩, HBT3.out⟩
              · have HEQ0 := tx_step HQ2.out (by rw [HCC.out]; exact d1) (by rw [HCC.out]; exact d2) (by rw [HCC.out]; exact d3)
                rw [HCC.out] at HEQ0
                have HEQ := hideB HEQ0
                have r3 : ¬ (c : Int) < 32 := by omega
                have r4 : ¬ (127 : Int) < (c : Int) := by omega
                clear HEQ0
                go_wp2_with fail
                refine HNX2.out.mono ?_
                rintro e w2 ⟨rfl, hr2, hb2⟩
                have HR4 := hideB hr2
                have HBT4 := hideB (HBT.out.trans hb2)
                have HW4 := hideB (HW.out.read hb2 hrb)
                have hbv : ((UInt8.ofNat c).toNat : Int) = (c : Int) := by rw [UInt8.toNat_ofNat', Nat.mod_eq_of_lt (by omega)]
                have HBY := hideB (fb_byte ft_bld HW4.out.fb (UInt8.ofNat c) (by omega) (by have := HBT4.out.size; omega))
                rw [hbv] at HBY
                clear hr2 hb2 hbv
                go_wp2_with fail
                refine HBY.out.mono ?_
                rintro e w9 ⟨rfl, hf9, hb9, _⟩
                have HF9 : Hid (Wr w bb (l ++ [UInt8.ofNat c]) w9) := ⟨hf9, fun e => by simp at e⟩
                have HR9 := hideB (Wr.apart (b := bb) (l := l) HR4.out hrb hb9)
                have HB9 := hideB (HBT4.out.belowN hb9)
                clear hf9 hb9
                go_wp2_with fail
                go_roundw
                case rel => exact ⟨q + 1, l ++ [UInt8.ofNat c], HR9.out, HF9.out, HB9.out, by omega, by simp; omega, by rw [Hid, HT.out, HEQ.out]; exact tx_push⟩
                case measure => rw [HS.out.placeOf, HR9.out.placeOf]; omega
        · obtain rfl : q = s.size := by omega
          have HEQ : Hid (txJ s.data.toList (p + 1) = none) := by rw [Hid, HT.out, txJ_past (by rw [HLN.out]; omega)]; rfl
          have HNX2 := hideB (next_no HS.out.br (by omega))
          go_wp2_with fail
          refine HNX2.out.mono ?_
          rintro e w2 ⟨rfl, _, hb2⟩
          have HBT3 := hideB (HBT.out.trans hb2)
          clear hb2
          unfold gup
          go_wp2_with fail
          exact ⟨rfl, .inr ⟨.inr HEQ.out, rfl⟩, HBT3.out⟩
    · have q1 : ((c : Int) != 34) = true := by simp; omega
      have q1' : ¬ (c : Int) = 34 := by omega
      have HIS : Hid (isAt s.data.toList p 34 = false) := isAt_no.2 (fun e => c1 (by rw [← HC.out]; exact e.2))
      go_enter Tryz.func97, Tryz.ntmps97
      go_wp2_with fail
      refine HNX.out.mono ?_
      rintro e w1 ⟨rfl, hr1, hb1⟩
      have HB1 := hideB hb1
      clear hr1 hb1
      go_wp2_with fail
      exact ⟨rfl, .inr ⟨.inl HIS.out, rfl⟩, HB1.out⟩
  · obtain rfl : p = s.size := by omega
    have HIS : Hid (isAt s.data.toList s.size 34 = false) := isAt_no.2 (fun e => by have := e.1; rw [HLN.out] at this; omega)
    have HNX := hideB (next_no H.out.br (by omega))
    go_enter Tryz.func97, Tryz.ntmps97
    go_wp2_with fail
    refine HNX.out.mono ?_
    rintro e w1 ⟨rfl, _, hb1⟩
    have HB1 := hideB hb1
    clear hb1
    unfold gup
    go_wp2_with fail
    exact ⟨rfl, .inr ⟨.inl HIS.out, rfl⟩, HB1.out⟩
end Go.Proofs.YtagcgnhpdmhegaaGreatDoor
