/-
  The same: a code in four digits.
-/
import Derived.Test.YtiamkmkbkehldaaGreatDoorJgS
namespace Go.Proofs.YtiamkmkbkehldaaGreatDoor
open Go.RowKit
set_option linter.unusedSimpArgs false
set_option linter.unusedVariables false

set_option maxRecDepth 100000 in
set_option maxHeartbeats 3200000 in
theorem gCode_any {X : Nat → Option Value} {rb p : Nat} {s : ByteArray} {w : World} (h : SgAt X w rb s p) (hs : s.size ≤ 1048576) :
    Calls Tryz.prog 229 #[.pointer (some ⟨rb, 0, none⟩)] w fun e w' => ((∃ b q, codeJ s.data.toList p = some (b, q) ∧ e = .returned (.int .u8 (b : Int)) ∧ SgAt X w' rb s q) ∨ (codeJ s.data.toList p = none ∧ e = gup)) ∧ But rb w w' := by
  have H := hideB h
  have hps := h.br.le
  have hln := len_is s
  have HLN := hideB hln
  clear hln
  clear h
  go_enter Tryz.func229, Tryz.ntmps229
  go_wp2_with fail
  go_loopw [3, 4] (fun n i wr => ∃ (k v : Nat), k ≤ 4 ∧ i = .int .i64 (k : Int) ∧ n = .int .i64 (v : Int) ∧ Hid (hexF s.data.toList p k = some v) ∧ p + k ≤ s.size ∧ SgAt X wr rb s (p + k) ∧ But rb w wr) (fun _ i _ => 4 - (intOf i).toNat)
  case atStart => exact ⟨0, 0, by omega, rfl, rfl, rfl, by omega, H.out, But.refl _ _⟩
  case round =>
    obtain ⟨k, v, hk, rfl, rfl, HV, hpk, hsr, hbt⟩ := hrel
    have HS := hideB hsr
    have HBT := hideB hbt
    have hv : v < 65536 := by
      have h1 := hexF_lt _ _ HV.out
      have h2 : 16 ^ k ≤ 16 ^ 4 := Nat.pow_le_pow_right (by omega) hk
      omega
    clear hsr hbt
    by_cases hlt : k < 4
    · have hlt' : (k : Int) < 4 := by omega
      by_cases hq : p + k < s.size
      · have HNX := hideB (nextG_yes HS.out hq hs)
        have hb : s[p + k].toNat = byAt s.data.toList (p + k) := byS hq
        rw [hb] at HNX
        have hb256 := byAt_lt s.data.toList (p + k)
        obtain ⟨c, hc⟩ : ∃ c, byAt s.data.toList (p + k) = c := ⟨_, rfl⟩
        have HC := hideB hc
        rw [hc] at HNX hb256
        clear hb hc
        go_wp2_with fail
        refine HNX.out.mono ?_
        rintro e w1 ⟨rfl, hr1, hb1⟩
        have HR1 := hideB hr1
        have HB1 := hideB hb1
        clear hr1 hb1
        go_wp2_with fail
        refine (hexValue_any c hb256 w1).mono ?_
        rintro e w2 ⟨rfl, ⟨d, hd, rfl⟩ | ⟨hd, rfl⟩⟩
        · have hd16 := hexC_lt hd
          have HD := hideB hd
          clear hd
          go_wp2_with fail
          go_roundw
          case rel => exact ⟨k + 1, 16 * v + d, by omega, by go_num, by go_num, hexF_step HV.out (by rw [HC.out]; exact HD.out), by omega, HR1.out, HBT.out.trans HB1.out⟩
          case measure => simp [intOf]; omega
        · have HD := hideB hd
          clear hd
          unfold gup
          go_wp2_with fail
          exact ⟨rfl, .inr ⟨codeJ_no (hexF_stop HV.out (by rw [HC.out]; exact HD.out) hlt), rfl⟩, HBT.out.trans HB1.out⟩
      · have hqe : p + k = s.size := by omega
        have HNX := hideB (next_no (w := wr) (by have := HS.out.br; rw [hqe] at this; exact this) hs)
        clear hqe
        go_wp2_with fail
        refine HNX.out.mono ?_
        rintro e w1 ⟨rfl, _, hb1⟩
        have HB1 := hideB hb1
        clear hb1
        unfold gup
        go_wp2_with fail
        exact ⟨rfl, .inr ⟨codeJ_short (by rw [HLN.out]; omega), rfl⟩, HBT.out.trans HB1.out⟩
    · obtain rfl : k = 4 := by omega
      by_cases hbig : 127 < v
      · have hbig' : (127 : Int) < (v : Int) := by omega
        go_wp2_with fail
        exact ⟨rfl, .inr ⟨codeJ_big HV.out hbig, rfl⟩, HBT.out⟩
      · have hbig' : ¬ (127 : Int) < (v : Int) := by omega
        have hw : IntKind.u8.wrap (v : Int) = (v : Int) := u8_wrap (by omega) (by omega)
        go_wp2_with fail
        go_ret
        exact ⟨.inl ⟨v, p + 4, codeJ_yes (by rw [HLN.out]; exact hpk) HV.out (by omega), rfl, HS.out⟩, HBT.out⟩

end Go.Proofs.YtiamkmkbkehldaaGreatDoor

/-
  The same: what stands behind a stroke.
-/
namespace Go.Proofs.YtiamkmkbkehldaaGreatDoor
open Go.RowKit
set_option linter.unusedSimpArgs false
set_option linter.unusedVariables false

set_option linter.unusedSimpArgs false
set_option linter.unusedVariables false
set_option maxRecDepth 100000 in
set_option maxHeartbeats 3200000 in
theorem gEscape_any {X : Nat → Option Value} {rb p : Nat} {s : ByteArray} {w : World} (h : SgAt X w rb s p) (hs : s.size ≤ 1048576) :
    Calls Tryz.prog 208 #[.pointer (some ⟨rb, 0, none⟩)] w fun e w' => ((∃ b q, escJ s.data.toList p = some (b, q) ∧ e = .returned (.int .u8 (b : Int)) ∧ SgAt X w' rb s q) ∨ (escJ s.data.toList p = none ∧ e = gup)) ∧ But rb w w' := by
  have H := hideB h
  have hps := h.br.le
  have HLN := hideB (len_is s)
  clear h
  by_cases hq : p < s.size
  · have HQL : Hid (p < s.data.toList.length) := by rw [Hid, HLN.out]; exact hq
    have HNX := hideB (nextG_yes H.out hq hs)
    rw [byS hq] at HNX
    have hb256 := byAt_lt s.data.toList p
    obtain ⟨c, hc⟩ : ∃ c, byAt s.data.toList p = c := ⟨_, rfl⟩
    have HC := hideB hc
    rw [hc] at HNX hb256
    clear hc
    by_cases c1 : c = 47
    · subst c1
      have HE : Hid (escJ s.data.toList p = some (47, p + 1)) := escJ_one HQL.out (by rw [HC.out]; rfl)
      go_enter Tryz.func208, Tryz.ntmps208
      go_wp2_with fail
      refine HNX.out.mono ?_
      rintro e w1 ⟨rfl, hr1, hb1⟩
      have HR1 := hideB hr1
      have HB1 := hideB hb1
      clear hr1 hb1
      go_wp2_with fail
      go_ret
      exact ⟨.inl ⟨47, p + 1, HE.out, rfl, HR1.out⟩, HB1.out⟩
    · have q1 : ((c : Int) == 47) = false := by simp; omega
      have q1' : ¬ (c : Int) = 47 := by omega
      by_cases c2 : c = 117
      · subst c2
        have HE : Hid (escJ s.data.toList p = codeJ s.data.toList (p + 1)) := escJ_code HQL.out HC.out
        go_enter Tryz.func208, Tryz.ntmps208
        go_wp2_with fail
        refine HNX.out.mono ?_
        rintro e w1 ⟨rfl, hr1, hb1⟩
        have HR1 := hideB hr1
        have HB1 := hideB hb1
        clear hr1 hb1
        go_wp2_with fail
        refine (gCode_any HR1.out hs).mono ?_
        rintro e w2 ⟨⟨b, z, hcd, rfl, hr2⟩ | ⟨hcd, rfl⟩, hb2⟩
        · have HCD := hideB hcd
          have HR2 := hideB hr2
          have HB2 := hideB (HB1.out.trans hb2)
          clear hcd hr2 hb2
          go_wp2_with fail
          go_ret
          exact ⟨.inl ⟨b, z, by rw [HE.out]; exact HCD.out, rfl, HR2.out⟩, HB2.out⟩
        · have HCD := hideB hcd
          have HB2 := hideB (HB1.out.trans hb2)
          clear hcd hb2
          unfold gup
          go_wp2_with fail
          exact ⟨rfl, .inr ⟨by rw [HE.out]; exact HCD.out, rfl⟩, HB2.out⟩
      · have q2 : ((c : Int) == 117) = false := by simp; omega
        have q2' : ¬ (c : Int) = 117 := by omega
        have HBI : Hid (∀ w, Calls Tryz.prog 168 #[.string ⟨#[34, 92, 98, 116, 110, 102, 114]⟩, .int .u8 (c : Int)] w fun e w' => e = .returned (.int .i64 (Go.Lib.indexByte [34, 92, 98, 116, 110, 102, 114] (UInt8.ofNat c))) ∧ w' = w) := fun w => by
          have := indexByte_any ⟨#[34, 92, 98, 116, 110, 102, 114]⟩ (UInt8.ofNat c) w
          rw [UInt8.toNat_ofNat', Nat.mod_eq_of_lt (by omega)] at this
          exact this
        rcases esc_ix0 ⟨c, hb256⟩ c1 with ⟨e1, e2⟩ | ⟨i, e1, e2⟩
        · have HE : Hid (escJ s.data.toList p = none) := escJ_none HQL.out (by rw [HC.out]; exact e1) (by rw [HC.out]; exact c2)
          simp only at e2
          rw [e2] at HBI
          clear e1 e2
          go_enter Tryz.func208, Tryz.ntmps208
          go_wp2_with fail
          refine HNX.out.mono ?_
          rintro e w1 ⟨rfl, hr1, hb1⟩
          have HB1 := hideB hb1
          clear hr1 hb1
          go_wp2_with fail
          refine (HBI.out _).mono ?_
          rintro e w2 ⟨rfl, rfl⟩
          go_wp2_with fail
          exact ⟨rfl, .inr ⟨HE.out, rfl⟩, HB1.out⟩
        · obtain ⟨i, hi7⟩ := i
          dsimp only at e1 e2
          have HE : Hid (escJ s.data.toList p = some (([34, 92, 8, 9, 10, 12, 13] : List Nat).getD i 0, p + 1)) := escJ_one HQL.out (by rw [HC.out]; exact e2)
          rw [e1] at HBI
          have hi0 : ¬ (i : Int) < 0 := by omega
          have hsz : (ByteArray.mk #[34, 92, 8, 9, 10, 12, 13]).size = 7 := rfl
          have HAT := hideB (escS_at i hi7 (by rw [hsz]; exact hi7))
          have hi7' : (i : Int) < 7 := by omega
          clear e1 e2
          go_enter Tryz.func208, Tryz.ntmps208
          go_wp2_with fail
          refine HNX.out.mono ?_
          rintro e w1 ⟨rfl, hr1, hb1⟩
          have HR1 := hideB hr1
          have HB1 := hideB hb1
          clear hr1 hb1
          go_wp2_with fail
          refine (HBI.out _).mono ?_
          rintro e w2 ⟨rfl, rfl⟩
          go_wp2_with fail
          go_ret
          refine ⟨.inl ⟨_, p + 1, HE.out, ?_, HR1.out⟩, HB1.out⟩
          rw [← HAT.out]
          rfl
  · obtain rfl : p = s.size := by omega
    have HE : Hid (escJ s.data.toList s.size = none) := escJ_past (by rw [HLN.out]; omega)
    have HNX := hideB (next_no H.out.br hs)
    go_enter Tryz.func208, Tryz.ntmps208
    go_wp2_with fail
    refine HNX.out.mono ?_
    rintro e w1 ⟨rfl, _, hb1⟩
    have HB1 := hideB hb1
    clear hb1
    unfold gup
    go_wp2_with fail
    exact ⟨rfl, .inr ⟨HE.out, rfl⟩, HB1.out⟩

end Go.Proofs.YtiamkmkbkehldaaGreatDoor

/-
  The same: a text in quotes.
-/
namespace Go.Proofs.YtiamkmkbkehldaaGreatDoor
open Go.RowKit
set_option linter.unusedSimpArgs false
set_option linter.unusedVariables false

set_option linter.unusedSimpArgs false
set_option linter.unusedVariables false
theorem Wr.apartG {X : Nat → Option Value} {w wr : World} {rb b : Nat} {l : List UInt8} {s : ByteArray} {q : Nat} {w2 : World} (hs : SgAt X wr rb s q) (hr : rb < w.heap.size) (hb : Below w.heap.size wr w2) : SgAt X w2 rb s q := hs.keep (hb.block rb hr) hb.size
set_option maxRecDepth 100000 in
set_option maxHeartbeats 6400000 in
theorem gText_any {X : Nat → Option Value} {rb p : Nat} {s : ByteArray} {w : World} (h : SgAt X w rb s p) (hs : s.size ≤ 4000) :
    Calls Tryz.prog 185 #[.pointer (some ⟨rb, 0, none⟩)] w fun e w' => ((∃ l q, isAt s.data.toList p 34 = true ∧ txJ s.data.toList (p + 1) = some (l, q) ∧ e = .returned (.string (txt l)) ∧ SgAt X w' rb s q) ∨ ((isAt s.data.toList p 34 = false ∨ txJ s.data.toList (p + 1) = none) ∧ e = gup)) ∧ But rb w w' := by
  have H := hideB h
  have hps := h.br.le
  have hrb := h.br.lt
  have HLN := hideB (len_is s)
  clear h
  by_cases hq : p < s.size
  · have HQL : Hid (p < s.data.toList.length) := by rw [Hid, HLN.out]; exact hq
    have HNX := hideB (nextG_yes H.out hq (by omega))
    rw [byS hq] at HNX
    have hb256 := byAt_lt s.data.toList p
    obtain ⟨c, hc⟩ : ∃ c, byAt s.data.toList p = c := ⟨_, rfl⟩
    have HC := hideB hc
    rw [hc] at HNX hb256
    clear hc
    by_cases c1 : c = 34
    · subst c1
      have HIS : Hid (isAt s.data.toList p 34 = true) := isAt_yes.2 ⟨HQL.out, HC.out⟩
      go_enter Tryz.func185, Tryz.ntmps185
      go_wp2_with fail
      refine HNX.out.mono ?_
      rintro e w1 ⟨rfl, hr1, hb1⟩
      have HR1 := hideB hr1
      have HB1 := hideB hb1
      have z1 := hb1.size
      have hal : Below w1.heap.size w1 (w1.alloc (.cells #[.pointer none, .slice none 0 0] 52)) := (Below.refl _ _).alloc (Nat.le_refl _) _
      have HR2 := hideB (hr1.below hal)
      have HB2 : Hid (But rb w (w1.alloc (.cells #[.pointer none, .slice none 0 0] 52))) := hb1.trans (But.of_below hal)
      have HW2 : Hid (Wr w w1.heap.size [] (w1.alloc (.cells #[.pointer none, .slice none 0 0] 52))) := by
        have e0 : (w1.alloc (.cells #[.pointer none, .slice none 0 0] 52)).heap[w1.heap.size]? = some (.cells #[.pointer none, .slice none 0 0] 52 (0, 0)) := by show (w1.heap.push _)[w1.heap.size]? = _; simp
        exact ⟨⟨z1, .pointer none, .slice none 0 0, .inl rfl, e0, World.ownsRow_nil _ _ _ _, by simp [Value.ownBlock]⟩, fun _ => e0⟩
      obtain ⟨bb, hbb⟩ : ∃ bb, w1.heap.size = bb := ⟨_, rfl⟩
      have HBBE := hideB hbb
      clear hr1 hb1 hal
      rw [hbb] at HW2
      go_wp2_with fail
      go_loopw [4] (fun cc wr => ∃ (q : Nat) (l : List UInt8), SgAt X wr rb s q ∧ Wr w bb l wr ∧ But rb w wr ∧ p + 1 ≤ q ∧ l.length + (p + 1) ≤ q ∧ Hid (txJ s.data.toList (p + 1) = (txJ s.data.toList q).map (fun y => (l ++ y.1, y.2)))) (fun _ wr => s.size + 1 - placeOf wr rb)
      case atStart => exact ⟨p + 1, [], HR2.out, HW2.out, HB2.out, Nat.le_refl _, by simp, by rw [Hid]; cases txJ s.data.toList (p + 1) <;> rfl⟩
      case round =>
        obtain ⟨q, l, hsr, hwr, hbt, hpq, hlq, HT⟩ := hrel
        have HS := hideB hsr
        have HW := hideB hwr
        have HBT := hideB hbt
        have hqs := hsr.br.le
        have zr := hbt.size
        clear hsr hwr hbt
        by_cases hq2 : q < s.size
        · have HQ2 : Hid (q < s.data.toList.length) := by rw [Hid, HLN.out]; exact hq2
          have HNX2 := hideB (nextG_yes HS.out hq2 (by omega))
          rw [byS hq2] at HNX2
          have hc256 := byAt_lt s.data.toList q
          obtain ⟨c, hc⟩ : ∃ c, byAt s.data.toList q = c := ⟨_, rfl⟩
          have HCC := hideB hc
          rw [hc] at HNX2 hc256
          clear hc
          by_cases d1 : c = 34
          · subst d1
            have HEQ : Hid (txJ s.data.toList (p + 1) = some (l, q + 1)) := by rw [Hid, HT.out, tx_end HQ2.out HCC.out]; simp
            go_wp2_with fail
            refine HNX2.out.mono ?_
            rintro e w2 ⟨rfl, hr2, hb2⟩
            have HR3 := hideB hr2
            have HBT3 := hideB (HBT.out.trans hb2)
            have HW3 := hideB (HW.out.read hb2 hrb)
            clear hr2 hb2
            by_cases hl : l = []
            · have HNIL := hideB (string_nil (HW3.out.nil hl))
              rw [hl] at HEQ
              clear hl
              go_wp2_with fail
              refine HNIL.out.mono ?_
              rintro e w4 ⟨rfl, hb4⟩
              have HB4 := hideB hb4
              clear hb4
              go_wp2_with fail
              go_ret
              exact ⟨.inl ⟨[], q + 1, HIS.out, HEQ.out, rfl, HR3.out.below HB4.out⟩, HBT3.out.trans (But.of_below HB4.out)⟩
            · have HSTR := hideB (fb_string HW3.out.fb hl)
              clear hl
              go_wp2_with fail
              refine HSTR.out.mono ?_
              rintro e w4 ⟨rfl, hb4⟩
              have HR4 := hideB (Wr.apartG (b := bb) (l := l) HR3.out hrb hb4)
              have HB4 := hideB (HBT3.out.belowN hb4)
              clear hb4
              go_wp2_with fail
              go_ret
              exact ⟨.inl ⟨l, q + 1, HIS.out, HEQ.out, rfl, HR4.out⟩, HB4.out⟩
          · have r1 : ((c : Int) == 34) = false := by simp; omega
            have r1' : ¬ (c : Int) = 34 := by omega
            by_cases d2 : c = 92
            · subst d2
              go_wp2_with fail
              refine HNX2.out.mono ?_
              rintro e w2 ⟨rfl, hr2, hb2⟩
              have HR3 := hideB hr2
              have HBT3 := hideB (HBT.out.trans hb2)
              have HW3 := hideB (HW.out.read hb2 hrb)
              clear hr2 hb2
              go_wp2_with fail
              refine (gEscape_any HR3.out (by omega)).mono ?_
              rintro e w3 ⟨⟨b, z, hes, rfl, hr3⟩ | ⟨hes, rfl⟩, hb3⟩
              · obtain ⟨y1, y2, y3⟩ := escJ_says hes
                have HEQ : Hid (txJ s.data.toList q = (txJ s.data.toList z).map (fun y => (UInt8.ofNat b :: y.1, y.2))) := tx_esc HQ2.out HCC.out hes
                have HR4 := hideB hr3
                have HBT4 := hideB (HBT3.out.trans hb3)
                have HW4 := hideB (HW3.out.read hb3 hrb)
                have hbv : ((UInt8.ofNat b).toNat : Int) = (b : Int) := by rw [UInt8.toNat_ofNat', Nat.mod_eq_of_lt (by omega)]
                have HBY := hideB (fb_byte ft_bld HW4.out.fb (UInt8.ofNat b) (by omega) (by have := HBT4.out.size; omega))
                rw [hbv] at HBY
                clear hes hr3 hb3 hbv
                go_wp2_with fail
                refine HBY.out.mono ?_
                rintro e w9 ⟨rfl, hf9, hb9, _⟩
                have HF9 : Hid (Wr w bb (l ++ [UInt8.ofNat b]) w9) := ⟨hf9, fun e => by simp at e⟩
                have HR9 := hideB (Wr.apartG (b := bb) (l := l) HR4.out hrb hb9)
                have HB9 := hideB (HBT4.out.belowN hb9)
                clear hf9 hb9
                go_wp2_with fail
                go_roundw
                case rel => exact ⟨z, l ++ [UInt8.ofNat b], HR9.out, HF9.out, HB9.out, by omega, by simp; omega, by rw [Hid, HT.out, HEQ.out]; exact tx_push⟩
                case measure => rw [HS.out.placeOf, HR9.out.placeOf]; omega
              · have HEQ : Hid (txJ s.data.toList (p + 1) = none) := by rw [Hid, HT.out, tx_noesc HQ2.out HCC.out hes]; rfl
                have HBT4 := hideB (HBT3.out.trans hb3)
                clear hes hb3
                unfold gup
                go_wp2_with fail
                exact ⟨rfl, .inr ⟨.inr HEQ.out, rfl⟩, HBT4.out⟩
            · have r2 : ((c : Int) == 92) = false := by simp; omega
              have r2' : ¬ (c : Int) = 92 := by omega
              by_cases d3 : c < 32 ∨ 127 < c
              · have HEQ : Hid (txJ s.data.toList (p + 1) = none) := by rw [Hid, HT.out, tx_bad HQ2.out (by rw [HCC.out]; exact d1) (by rw [HCC.out]; exact d2) (by rw [HCC.out]; exact d3)]; rfl
                by_cases d4 : c < 32
                · have r3 : (c : Int) < 32 := by omega
                  go_wp2_with fail
                  refine HNX2.out.mono ?_
                  rintro e w2 ⟨rfl, hr2, hb2⟩
                  have HBT3 := hideB (HBT.out.trans hb2)
                  clear hr2 hb2
                  go_wp2_with fail
                  exact ⟨rfl, .inr ⟨.inr HEQ.out, rfl⟩, HBT3.out⟩
                · have r3 : ¬ (c : Int) < 32 := by omega
                  have r4 : (127 : Int) < (c : Int) := by omega
                  go_wp2_with fail
                  refine HNX2.out.mono ?_
                  rintro e w2 ⟨rfl, hr2, hb2⟩
                  have HBT3 := hideB (HBT.out.trans hb2)
                  clear hr2 hb2
                  go_wp2_with fail
                  exact ⟨rfl, .inr ⟨.inr HEQ.out, rfl⟩, HBT3.out⟩
              · have HEQ0 := tx_step HQ2.out (by rw [HCC.out]; exact d1) (by rw [HCC.out]; exact d2) (by rw [HCC.out]; exact d3)
                rw [HCC.out] at HEQ0
                have HEQ := hideB HEQ0
                have r3 : ¬ (c : Int) < 32 := by omega
                have r4 : ¬ (127 : Int) < (c : Int) := by omega
                clear HEQ0
                go_wp2_with fail
                refine HNX2.out.mono ?_
                rintro e w2 ⟨rfl, hr2, hb2⟩
                have HR4 := hideB hr2
                have HBT4 := hideB (HBT.out.trans hb2)
                have HW4 := hideB (HW.out.read hb2 hrb)
                have hbv : ((UInt8.ofNat c).toNat : Int) = (c : Int) := by rw [UInt8.toNat_ofNat', Nat.mod_eq_of_lt (by omega)]
                have HBY := hideB (fb_byte ft_bld HW4.out.fb (UInt8.ofNat c) (by omega) (by have := HBT4.out.size; omega))
                rw [hbv] at HBY
                clear hr2 hb2 hbv
                go_wp2_with fail
                refine HBY.out.mono ?_
                rintro e w9 ⟨rfl, hf9, hb9, _⟩
                have HF9 : Hid (Wr w bb (l ++ [UInt8.ofNat c]) w9) := ⟨hf9, fun e => by simp at e⟩
                have HR9 := hideB (Wr.apartG (b := bb) (l := l) HR4.out hrb hb9)
                have HB9 := hideB (HBT4.out.belowN hb9)
                clear hf9 hb9
                go_wp2_with fail
                go_roundw
                case rel => exact ⟨q + 1, l ++ [UInt8.ofNat c], HR9.out, HF9.out, HB9.out, by omega, by simp; omega, by rw [Hid, HT.out, HEQ.out]; exact tx_push⟩
                case measure => rw [HS.out.placeOf, HR9.out.placeOf]; omega
        · obtain rfl : q = s.size := by omega
          have HEQ : Hid (txJ s.data.toList (p + 1) = none) := by rw [Hid, HT.out, txJ_past (by rw [HLN.out]; omega)]; rfl
          have HNX2 := hideB (next_no HS.out.br (by omega))
          go_wp2_with fail
          refine HNX2.out.mono ?_
          rintro e w2 ⟨rfl, _, hb2⟩
          have HBT3 := hideB (HBT.out.trans hb2)
          clear hb2
          unfold gup
          go_wp2_with fail
          exact ⟨rfl, .inr ⟨.inr HEQ.out, rfl⟩, HBT3.out⟩
    · have q1 : ((c : Int) != 34) = true := by simp; omega
      have q1' : ¬ (c : Int) = 34 := by omega
      have HIS : Hid (isAt s.data.toList p 34 = false) := isAt_no.2 (fun e => c1 (by rw [← HC.out]; exact e.2))
      go_enter Tryz.func185, Tryz.ntmps185
      go_wp2_with fail
      refine HNX.out.mono ?_
      rintro e w1 ⟨rfl, hr1, hb1⟩
      have HB1 := hideB hb1
      clear hr1 hb1
      go_wp2_with fail
      exact ⟨rfl, .inr ⟨.inl HIS.out, rfl⟩, HB1.out⟩
  · obtain rfl : p = s.size := by omega
    have HIS : Hid (isAt s.data.toList s.size 34 = false) := isAt_no.2 (fun e => by have := e.1; rw [HLN.out] at this; omega)
    have HNX := hideB (next_no H.out.br (by omega))
    go_enter Tryz.func185, Tryz.ntmps185
    go_wp2_with fail
    refine HNX.out.mono ?_
    rintro e w1 ⟨rfl, _, hb1⟩
    have HB1 := hideB hb1
    clear hb1
    unfold gup
    go_wp2_with fail
    exact ⟨rfl, .inr ⟨.inl HIS.out, rfl⟩, HB1.out⟩

end Go.Proofs.YtiamkmkbkehldaaGreatDoor
