/-
  The program's YAML: the closure that writes a block.
-/
import Derived.Test.YtiamkmkbkehldaaGreatDoorIYx
namespace Go.Proofs.YtiamkmkbkehldaaGreatDoor
open Go.RowKit
set_option linter.unusedSimpArgs false
set_option linter.unusedVariables false

theorem ft_bldY : FT 52 0 := ⟨by kernel_rfl, by decide⟩
/-- The box that holds the closure itself. -/
def BoxY (w : World) (b wb : Nat) : Prop := wb ≠ b ∧ w.heap[wb]? = some (.cells #[.func (.func 34) #[] #[.pointer (some ⟨b, 0, none⟩), .pointer (some ⟨wb, 0, none⟩)]] 53 (0, 0))
theorem BoxY.lt {w : World} {b wb : Nat} (h : BoxY w b wb) : wb < w.heap.size := lt_heap h.2
theorem BoxY.cell {w : World} {b wb : Nat} (h : BoxY w b wb) : w.cell? ⟨wb, 0, none⟩ = some (.func (.func 34) #[] #[.pointer (some ⟨b, 0, none⟩), .pointer (some ⟨wb, 0, none⟩)]) := cellAt h.2 rfl
theorem BoxY.beside {w w' : World} {b wb : Nat} (h : BoxY w b wb) (k : Beside b w w') : BoxY w' b wb := by
  refine ⟨h.1, ?_⟩
  rw [k.2 wb h.lt h.1 (fun cs z e => ?_)]
  · exact h.2
  · rw [h.2] at e; injection e with e; injection e with _ e2; revert e2; decide
def JyAll (B b wb : Nat) (f : Nat) : Prop := ∀ (pad : Nat) (t : VT) (v : Value) (l : List UInt8) (w : World), FB 52 B b [] l w → BoxY w b wb → TreeAt B w f t v → TFit f t → TabB B w → B ≤ w.heap.size → pad + 2 * f ≤ 700 → (kidsY t).length ≠ 0 → (l ++ blockY f pad t).length ≤ 100000000 →
  Calls Tryz.prog 34 #[v, .int .i64 pad, .pointer (some ⟨b, 0, none⟩), .pointer (some ⟨wb, 0, none⟩)] w fun e w' => e = .returned (.tuple #[]) ∧ FB 52 B b [] (l ++ blockY f pad t) w' ∧ Below B w w' ∧ Beside b w w'
theorem rep_pad (pad : Nat) : (⟨(Lib.repeatL (ByteArray.mk #[32]).data.toList pad).toArray⟩ : ByteArray) = txt (List.replicate pad 32) := by
  have : Lib.repeatL [32] pad = List.replicate pad (32 : UInt8) := by
    induction pad with
    | zero => rfl
    | succ p ih => rw [Lib.repeatL, ih]; rfl
  show txt (Lib.repeatL [32] pad) = _
  rw [this]
theorem FB.belowY {T : TypeId} {B b : Nat} {rest : List Value} {l : List UInt8} {X Y : World} (h : FB T B b rest l X) (hk : Below X.heap.size X Y) : FB T B b rest l Y := h.keep hk

set_option maxRecDepth 100000 in
set_option maxHeartbeats 12800000 in
theorem jyWrite_any (B b wb : Nat) : ∀ f, JyAll B b wb f := by
  intro f
  induction f with
  | zero => intro pad t v l w _ _ h; exact h.elim
  | succ f ih =>
    intro pad t v l w hfb hbx h hft htab hBw hpf h0 hlen
    obtain ⟨kind, n, s, keys, kids⟩ := t
    obtain ⟨g2, g3, g4, g80, g6, gk⟩ := hft
    have HFB := hideIt hfb
    have HBX := hideIt hbx
    have IH := hideIt ih
    have HTAB := hideIt htab
    have HGK := hideIt gk
    have h00 : kids.length ≠ 0 := h0
    obtain ⟨PD, hPD⟩ : ∃ PD, txt (List.replicate pad 32) = PD := ⟨_, rfl⟩
    have HREP : Hid (∀ w, Calls Tryz.prog 36 #[.string ⟨#[32]⟩, .int .i64 pad] w fun e w' => e = .returned (.string PD) ∧ Below w.heap.size w w') := fun w => (repeat_any ⟨#[32]⟩ pad w (by show 1 * pad ≤ _; omega) (by omega)).mono (by
      rintro e w' ⟨rfl, hb⟩
      exact ⟨by rw [← hPD, ← rep_pad], hb⟩)
    have HPD : Hid (PD.data.toList = List.replicate pad 32) := by rw [Hid, ← hPD, bytes_txt]
    have hPz : PD.size = pad := by rw [← hPD, txt_size]; simp
    have HPZ := hideIt hPz
    clear hfb hbx ih htab gk h0 hPD hPz
    rcases h with ⟨_, _, _, _, rfl, _⟩ | ⟨_, _, _, rfl, _⟩ | ⟨_, _, _, rfl, _⟩ | ⟨_, _, _, rfl, _⟩ | ⟨rfl, rfl, rfl, rfl, it, rfl, hi⟩ | ⟨rfl, rfl, rfl, ks, it, rfl, hks, hi⟩
    · exact absurd rfl h00
    · exact absurd rfl h00
    · exact absurd rfl h00
    · exact absurd rfl h00
    · obtain ⟨hm0, ai, ci, rfl, hx⟩ := hi
      have HX := hideIt hx
      obtain ⟨M, hM⟩ : ∃ M, kids.length = M := ⟨_, rfl⟩
      have HBY : Hid (blockY (f + 1) pad (.mk 5 0 ByteArray.empty [] kids) = blkY (blockY f (pad + 2)) false pad [] kids M) := by rw [Hid, blockY, hM]; rfl
      rw [HBY.out] at hlen ⊢
      rw [hM] at HX hm0 h00 g80 HGK ⊢
      have HLM : Hid (∀ k, k ≤ M → (l ++ blkY (blockY f (pad + 2)) false pad [] kids k).length ≤ 100000000) := fun k hk => by
        have h2 := blkY_mono (blockY f (pad + 2)) false pad [] kids hk
        simp only [List.length_append] at hlen ⊢
        omega
      clear hx hM hlen HBY g2 g3 g4 g6
      go_enter Tryz.func34, Tryz.ntmps34
      go_wp2_with fail
      refine (parts5_any _ _ _ _).mono ?_
      rintro e w1 ⟨rfl, hb1⟩
      have HB1 := hideIt (hb1.mono hBw)
      have HK1 := hideIt (Beside.below (b := b) hb1)
      have HF1 := hideIt (HFB.out.belowY hb1)
      have zz1 := hb1.size
      clear hb1
      go_wp2_with fail
      go_loopw [6, 7, 11] (fun _ _ i wr => ∃ k : Nat, k ≤ M ∧ i = .int .i64 k ∧ FB 52 B b [] (l ++ blkY (blockY f (pad + 2)) false pad [] kids k) wr ∧ Below B w wr ∧ Beside b w wr) (fun _ _ i _ => M - (intOf i).toNat)
      case atStart => exact ⟨0, Nat.zero_le _, rfl, by rw [blkY, List.append_nil]; exact HF1.out, HB1.out, HK1.out⟩
      case round =>
        obtain ⟨k, hk, rfl, hf, hb, hkk⟩ := hrel
        have HF := hideIt hf
        have HB := hideIt hb
        have HK := hideIt hkk
        have zr := hb.size
        clear hf hb hkk
        by_cases hlt : k < M
        · have hlt' : (k : Int) < (M : Int) := by omega
          obtain ⟨bi, rfl, hbi, hc⟩ := HX.out (by omega)
          obtain ⟨tt, xx, hck, htr⟩ := hc k hlt
          have ck := (below_cell HB.out hbi).trans hck
          have HTR := hideIt htr
          have hlm := HLM.out (k + 1) (by omega)
          have HPJ : Hid (blkY (blockY f (pad + 2)) false pad [] kids (k + 1) = blkY (blockY f (pad + 2)) false pad [] kids k ++ (List.replicate pad 32 ++ (headY false (keyAt [] k) ++ tailY (blockY f (pad + 2)) (kidT kids k)))) := rfl
          rw [HPJ.out] at hlm
          obtain ⟨D, hD⟩ : ∃ D, l ++ blkY (blockY f (pad + 2)) false pad [] kids k = D := ⟨_, rfl⟩
          have HD : Hid (l ++ blkY (blockY f (pad + 2)) false pad [] kids (k + 1) = D ++ PD.data.toList ++ headY false (keyAt [] k) ++ tailY (blockY f (pad + 2)) (kidT kids k)) := by
            rw [Hid, HPJ.out, ← hD, HPD.out]; simp only [List.append_assoc]
          have hlm2 : D.length + pad + (headY false (keyAt [] k)).length + (tailY (blockY f (pad + 2)) (kidT kids k)).length ≤ 100000000 := by
            rw [← hD]; simp only [List.length_append, List.length_replicate] at hlm ⊢; omega
          rw [hD] at HF
          have hpz := HPZ.out
          clear hc hck htr hD HPJ hlm
          obtain ⟨key, hkey⟩ : ∃ key, keyAt ([] : List ByteArray) k = key := ⟨_, rfl⟩
          rw [hkey] at HD hlm2
          clear hkey
          go_wp2_with fail
          refine (HREP.out _).mono ?_
          rintro e w2 ⟨rfl, hb2⟩
          have HF2 := hideIt (HF.out.belowY hb2)
          have HB2 := hideIt (HB.out.trans (hb2.mono (Nat.le_trans hBw zr)))
          have HK2 := hideIt (HK.out.trans (Beside.below hb2))
          have z2 := HB2.out.size
          clear hb2
          go_wp2_with fail
          refine (fb_text ft_bldY HF2.out PD (by omega) (by omega)).mono ?_
          rintro e w3 ⟨rfl, f3, b3, k3⟩
          have HF3 := hideIt f3
          have HB3 := hideIt (HB2.out.trans b3)
          have HK3 := hideIt (HK2.out.trans k3)
          have z3 := HB3.out.size
          clear f3 b3 k3
          have HLH := hideIt (lineHead_list (.agg #[.slice (some ⟨bi, 0, none⟩) M ci]) (k : Int) w3)
          obtain ⟨HT, hHT⟩ : ∃ HT, txt (headY false ByteArray.empty) = HT := ⟨_, rfl⟩
          have HHT : Hid (HT.data.toList = headY false key) := by rw [Hid, ← hHT, bytes_txt]; rfl
          have hhz : HT.size = (headY false key).length := by rw [← HHT.out, len_is]
          simp only [hHT] at HLH
          clear hHT
          go_wp2_with fail
          refine HLH.out.mono ?_
          rintro e w4 ⟨rfl, hb4⟩
          have HF4 := hideIt (HF3.out.belowY hb4)
          have HB4 := hideIt (HB3.out.trans (hb4.mono (by omega)))
          have HK4 := hideIt (HK3.out.trans (Beside.below hb4))
          have z4 := HB4.out.size
          clear hb4 HLH
          go_wp2_with fail
          refine (fb_text ft_bldY HF4.out HT (by rw [List.length_append, len_is]; omega) (by omega)).mono ?_
          rintro e w5 ⟨rfl, f5, b5, k5⟩
          rw [HHT.out] at f5
          have HF5 := hideIt f5
          have HB5 := hideIt (HB4.out.trans b5)
          have HK5 := hideIt (HK4.out.trans k5)
          have z5 := HB5.out.size
          clear f5 b5 k5
          have hf1 : 1 ≤ f := by
            rcases Nat.eq_zero_or_pos f with e | e
            · subst e; exact HTR.out.elim
            · exact e
          obtain ⟨g, hg⟩ : ∃ g, f = g + 1 := ⟨f - 1, by omega⟩
          have HT5 : Hid (TreeAt B w5 f (kidT kids k) (.iface tt xx)) := TreeAt.keep (fun c hc2 => HB5.out.block c hc2) (Nat.le_refl _) HTR.out
          have HIS := hideIt (isShort_any B g (kidT kids k) (.iface tt xx) w5 (by rw [← hg]; exact HT5.out))
          obtain ⟨Q, hQ⟩ : ∃ Q, (kidsY (kidT kids k)).length = Q := ⟨_, rfl⟩
          rw [hQ] at HIS
          have HQ := hideIt hQ
          clear hQ
          go_wp2_with fail
          refine HIS.out.mono ?_
          rintro e w6 ⟨rfl, hb6⟩
          have HF6 := hideIt (HF5.out.belowY hb6)
          have HB6 := hideIt (HB5.out.trans (hb6.mono (by omega)))
          have HK6 := hideIt (HK5.out.trans (Beside.below hb6))
          have z6 := HB6.out.size
          have HT6 : Hid (TreeAt B w6 f (kidT kids k) (.iface tt xx)) := TreeAt.keep (fun c hc2 => HB6.out.block c hc2) (Nat.le_refl _) HTR.out
          clear hb6 HIS
          by_cases hz : Q = 0
          · subst hz
            have HTL : Hid (tailY (blockY f (pad + 2)) (kidT kids k) = 32 :: (flatY (kidT kids k) ++ [10])) := by rw [Hid]; unfold tailY; rw [if_pos HQ.out]
            have HSL := hideIt (shortLine_any B g (kidT kids k) (.iface tt xx) w6 (by rw [← hg]; exact HT6.out) (by rw [← hg]; exact HGK.out k hlt) (HTAB.out.next HB6.out) (by omega) (by omega) HQ.out)
            rw [HTL.out] at HD hlm2
            obtain ⟨FL, hFL⟩ : ∃ FL, flatY (kidT kids k) = FL := ⟨_, rfl⟩
            rw [hFL] at HSL HD hlm2
            clear hFL hg
            simp only [List.length_cons, List.length_append, List.length_nil] at hlm2
            have hfz : (txt FL).size = FL.length := txt_size FL
            obtain ⟨LN, hLN⟩ : ∃ LN, (ByteArray.mk #[32] ++ txt FL) ++ ByteArray.mk #[10] = LN := ⟨_, rfl⟩
            have HLN : Hid (LN.data.toList = 32 :: (FL ++ [10])) := by rw [Hid, ← hLN]; simp [ByteArray.data_append, txt]
            have hlz : LN.size = FL.length + 2 := by rw [← len_is LN, HLN.out]; simp
            have h1z : (ByteArray.mk #[32] ++ txt FL).size = FL.length + 1 := by rw [ByteArray.size_append, hfz]; show 1 + _ = _; omega
            go_wp2_with fail
            refine HSL.out.mono ?_
            rintro e w7 ⟨rfl, hb7⟩
            have HF7 := hideIt (HF6.out.belowY hb7)
            have HB7 := hideIt (HB6.out.trans (hb7.mono (by omega)))
            have HK7 := hideIt (HK6.out.trans (Beside.below hb7))
            have z7 := HB7.out.size
            clear hb7 HSL
            go_wp2_with fail
            refine (fb_text ft_bldY HF7.out LN (by rw [List.length_append, List.length_append, len_is]; omega) (by omega)).mono ?_
            rintro e w8 ⟨rfl, f8, b8, k8⟩
            rw [HLN.out, ← HD.out] at f8
            have HF8 := hideIt f8
            have HB8 := hideIt (HB7.out.trans b8)
            have HK8 := hideIt (HK7.out.trans k8)
            clear f8 b8 k8
            go_wp2_with fail
            exact ⟨⟨k + 1, by omega, by go_num, HF8.out, HB8.out, HK8.out⟩, by simp [intOf]; omega⟩
          · have hz' : decide (Q = 0) = false := by simpa using hz
            have HTL : Hid (tailY (blockY f (pad + 2)) (kidT kids k) = 10 :: blockY f (pad + 2) (kidT kids k)) := by rw [Hid]; unfold tailY; rw [if_neg (by rw [HQ.out]; exact hz)]
            rw [HTL.out] at HD hlm2
            rw [List.length_cons] at hlm2
            rw [hz']
            clear hg
            go_wp2_with fail
            refine (fb_byte ft_bldY HF6.out 10 (by rw [List.length_append, List.length_append, len_is]; omega) (by omega)).mono ?_
            rintro e w7 ⟨rfl, f7, b7, k7⟩
            have HF7 := hideIt f7
            have HB7 := hideIt (HB6.out.trans b7)
            have HK7 := hideIt (HK6.out.trans k7)
            have z7 := HB7.out.size
            clear f7 b7 k7
            have HX7 := hideIt (HBX.out.beside HK7.out)
            have cx := HX7.out.cell
            have HIHC := hideIt (IH.out (pad + 2) (kidT kids k) (.iface tt xx) _ w7 HF7.out HX7.out (TreeAt.keep (fun c hc2 => HB7.out.block c hc2) (Nat.le_refl _) HTR.out) (HGK.out k hlt) (HTAB.out.next HB7.out) (by omega) (by omega) (by rw [HQ.out]; exact hz) (by simp only [List.length_append, len_is, List.length_cons, List.length_nil]; omega))
            have e2 : ((pad + 2 : Nat) : Int) = (pad : Int) + 2 := by omega
            rw [e2] at HIHC
            clear e2
            go_wp2_with fail
            refine HIHC.out.mono ?_
            rintro e w8 ⟨rfl, f8, b8, k8⟩
            have HF8 : Hid (FB 52 B b [] (l ++ blkY (blockY f (pad + 2)) false pad [] kids (k + 1)) w8) := by rw [Hid, HD.out]; simpa using f8
            have HB8 := hideIt (HB7.out.trans b8)
            have HK8 := hideIt (HK7.out.trans k8)
            clear f8 b8 k8
            go_wp2_with fail
            exact ⟨⟨k + 1, by omega, by go_num, HF8.out, HB8.out, HK8.out⟩, by simp [intOf]; omega⟩
        · obtain rfl : k = M := by omega
          go_wp2_with fail
          go_end0
          exact ⟨rfl, HF.out, HB.out, HK.out⟩
    · obtain ⟨hm0, ai, ci, rfl, hx⟩ := hi
      have HX := hideIt hx
      obtain ⟨q1, q2⟩ := g6 rfl
      obtain ⟨_, _, aK, cK, rfl, hkc⟩ := hks
      have HKC := hideIt hkc
      clear hkc
      obtain ⟨M, hM⟩ : ∃ M, kids.length = M := ⟨_, rfl⟩
      have HBY : Hid (blockY (f + 1) pad (.mk 6 0 ByteArray.empty keys kids) = blkY (blockY f (pad + 2)) true pad keys kids M) := by rw [Hid, blockY, hM]; rfl
      rw [HBY.out] at hlen ⊢
      rw [hM] at HX hm0 h00 g80 HGK q1 ⊢
      have HLM : Hid (∀ k, k ≤ M → (l ++ blkY (blockY f (pad + 2)) true pad keys kids k).length ≤ 100000000) := fun k hk => by
        have h2 := blkY_mono (blockY f (pad + 2)) true pad keys kids hk
        simp only [List.length_append] at hlen ⊢
        omega
      clear hx hM hlen HBY g2 g3 g4 g6
      obtain ⟨MK, hMK⟩ : ∃ MK, keys.length = MK := ⟨_, rfl⟩
      rw [hMK] at HKC q1 q2 ⊢
      have HQ2 := hideIt q2
      clear hMK q2
      subst q1
      go_enter Tryz.func34, Tryz.ntmps34
      go_wp2_with fail
      refine (parts6_any _ _ _ _ _ _ _).mono ?_
      rintro e w1 ⟨rfl, hb1⟩
      have HB1 := hideIt (hb1.mono hBw)
      have HK1 := hideIt (Beside.below (b := b) hb1)
      have HF1 := hideIt (HFB.out.belowY hb1)
      have zz1 := hb1.size
      clear hb1
      go_wp2_with fail
      go_loopw [6, 7, 11] (fun _ _ i wr => ∃ k : Nat, k ≤ MK ∧ i = .int .i64 k ∧ FB 52 B b [] (l ++ blkY (blockY f (pad + 2)) true pad keys kids k) wr ∧ Below B w wr ∧ Beside b w wr) (fun _ _ i _ => MK - (intOf i).toNat)
      case atStart => exact ⟨0, Nat.zero_le _, rfl, by rw [blkY, List.append_nil]; exact HF1.out, HB1.out, HK1.out⟩
      case round =>
        obtain ⟨k, hk, rfl, hf, hb, hkk⟩ := hrel
        have HF := hideIt hf
        have HB := hideIt hb
        have HK := hideIt hkk
        have zr := hb.size
        clear hf hb hkk
        by_cases hlt : k < MK
        · have hlt' : (k : Int) < (MK : Int) := by omega
          obtain ⟨bi, rfl, hbi, hc⟩ := HX.out (by omega)
          obtain ⟨tt, xx, hck, htr⟩ := hc k hlt
          have ck := (below_cell HB.out hbi).trans hck
          have HTR := hideIt htr
          have hlm := HLM.out (k + 1) (by omega)
          have HPJ : Hid (blkY (blockY f (pad + 2)) true pad keys kids (k + 1) = blkY (blockY f (pad + 2)) true pad keys kids k ++ (List.replicate pad 32 ++ (headY true (keyAt keys k) ++ tailY (blockY f (pad + 2)) (kidT kids k)))) := rfl
          rw [HPJ.out] at hlm
          obtain ⟨D, hD⟩ : ∃ D, l ++ blkY (blockY f (pad + 2)) true pad keys kids k = D := ⟨_, rfl⟩
          have HD : Hid (l ++ blkY (blockY f (pad + 2)) true pad keys kids (k + 1) = D ++ PD.data.toList ++ headY true (keyAt keys k) ++ tailY (blockY f (pad + 2)) (kidT kids k)) := by
            rw [Hid, HPJ.out, ← hD, HPD.out]; simp only [List.append_assoc]
          have hlm2 : D.length + pad + (headY true (keyAt keys k)).length + (tailY (blockY f (pad + 2)) (kidT kids k)).length ≤ 100000000 := by
            rw [← hD]; simp only [List.length_append, List.length_replicate] at hlm ⊢; omega
          rw [hD] at HF
          have hpz := HPZ.out
          clear hc hck htr hD HPJ hlm
          obtain ⟨bk, ok, eak, hbk, hcc⟩ := HKC.out (by omega)
          subst eak
          have hkz := HQ2.out k (by omega)
          have CKK : Hid (∀ W, Below B w W → W.cell? ⟨bk, ok + k, none⟩ = some (.string (keyAt keys k))) := fun W hb => (below_cell hb hbk).trans (hcc k (by omega))
          clear hcc
          obtain ⟨key, hkey⟩ : ∃ key, keyAt keys k = key := ⟨_, rfl⟩
          rw [hkey] at hkz CKK HD hlm2
          clear hkey
          go_wp2_with fail
          refine (HREP.out _).mono ?_
          rintro e w2 ⟨rfl, hb2⟩
          have HF2 := hideIt (HF.out.belowY hb2)
          have HB2 := hideIt (HB.out.trans (hb2.mono (Nat.le_trans hBw zr)))
          have HK2 := hideIt (HK.out.trans (Beside.below hb2))
          have z2 := HB2.out.size
          clear hb2
          go_wp2_with fail
          refine (fb_text ft_bldY HF2.out PD (by omega) (by omega)).mono ?_
          rintro e w3 ⟨rfl, f3, b3, k3⟩
          have HF3 := hideIt f3
          have HB3 := hideIt (HB2.out.trans b3)
          have HK3 := hideIt (HK2.out.trans k3)
          have z3 := HB3.out.size
          clear f3 b3 k3
          have HLH := hideIt (lineHead_map bk ok MK cK k (some ⟨bi, 0, none⟩) MK ci key w3 (by omega) (CKK.out w3 HB3.out) (by omega) (by omega) hkz)
          obtain ⟨HT, hHT⟩ : ∃ HT, txt (headY true key) = HT := ⟨_, rfl⟩
          have HHT : Hid (HT.data.toList = headY true key) := by rw [Hid, ← hHT, bytes_txt]
          have hhz : HT.size = (headY true key).length := by rw [← HHT.out, len_is]
          simp only [hHT] at HLH
          clear hHT
          go_wp2_with fail
          refine HLH.out.mono ?_
          rintro e w4 ⟨rfl, hb4⟩
          have HF4 := hideIt (HF3.out.belowY hb4)
          have HB4 := hideIt (HB3.out.trans (hb4.mono (by omega)))
          have HK4 := hideIt (HK3.out.trans (Beside.below hb4))
          have z4 := HB4.out.size
          clear hb4 HLH
          go_wp2_with fail
          refine (fb_text ft_bldY HF4.out HT (by rw [List.length_append, len_is]; omega) (by omega)).mono ?_
          rintro e w5 ⟨rfl, f5, b5, k5⟩
          rw [HHT.out] at f5
          have HF5 := hideIt f5
          have HB5 := hideIt (HB4.out.trans b5)
          have HK5 := hideIt (HK4.out.trans k5)
          have z5 := HB5.out.size
          clear f5 b5 k5
          have hf1 : 1 ≤ f := by
            rcases Nat.eq_zero_or_pos f with e | e
            · subst e; exact HTR.out.elim
            · exact e
          obtain ⟨g, hg⟩ : ∃ g, f = g + 1 := ⟨f - 1, by omega⟩
          have HT5 : Hid (TreeAt B w5 f (kidT kids k) (.iface tt xx)) := TreeAt.keep (fun c hc2 => HB5.out.block c hc2) (Nat.le_refl _) HTR.out
          have HIS := hideIt (isShort_any B g (kidT kids k) (.iface tt xx) w5 (by rw [← hg]; exact HT5.out))
          obtain ⟨Q, hQ⟩ : ∃ Q, (kidsY (kidT kids k)).length = Q := ⟨_, rfl⟩
          rw [hQ] at HIS
          have HQ := hideIt hQ
          clear hQ
          go_wp2_with fail
          refine HIS.out.mono ?_
          rintro e w6 ⟨rfl, hb6⟩
          have HF6 := hideIt (HF5.out.belowY hb6)
          have HB6 := hideIt (HB5.out.trans (hb6.mono (by omega)))
          have HK6 := hideIt (HK5.out.trans (Beside.below hb6))
          have z6 := HB6.out.size
          have HT6 : Hid (TreeAt B w6 f (kidT kids k) (.iface tt xx)) := TreeAt.keep (fun c hc2 => HB6.out.block c hc2) (Nat.le_refl _) HTR.out
          clear hb6 HIS
          by_cases hz : Q = 0
          · subst hz
            have HTL : Hid (tailY (blockY f (pad + 2)) (kidT kids k) = 32 :: (flatY (kidT kids k) ++ [10])) := by rw [Hid]; unfold tailY; rw [if_pos HQ.out]
            have HSL := hideIt (shortLine_any B g (kidT kids k) (.iface tt xx) w6 (by rw [← hg]; exact HT6.out) (by rw [← hg]; exact HGK.out k hlt) (HTAB.out.next HB6.out) (by omega) (by omega) HQ.out)
            rw [HTL.out] at HD hlm2
            obtain ⟨FL, hFL⟩ : ∃ FL, flatY (kidT kids k) = FL := ⟨_, rfl⟩
            rw [hFL] at HSL HD hlm2
            clear hFL hg
            simp only [List.length_cons, List.length_append, List.length_nil] at hlm2
            have hfz : (txt FL).size = FL.length := txt_size FL
            obtain ⟨LN, hLN⟩ : ∃ LN, (ByteArray.mk #[32] ++ txt FL) ++ ByteArray.mk #[10] = LN := ⟨_, rfl⟩
            have HLN : Hid (LN.data.toList = 32 :: (FL ++ [10])) := by rw [Hid, ← hLN]; simp [ByteArray.data_append, txt]
            have hlz : LN.size = FL.length + 2 := by rw [← len_is LN, HLN.out]; simp
            have h1z : (ByteArray.mk #[32] ++ txt FL).size = FL.length + 1 := by rw [ByteArray.size_append, hfz]; show 1 + _ = _; omega
            go_wp2_with fail
            refine HSL.out.mono ?_
            rintro e w7 ⟨rfl, hb7⟩
            have HF7 := hideIt (HF6.out.belowY hb7)
            have HB7 := hideIt (HB6.out.trans (hb7.mono (by omega)))
            have HK7 := hideIt (HK6.out.trans (Beside.below hb7))
            have z7 := HB7.out.size
            clear hb7 HSL
            go_wp2_with fail
            refine (fb_text ft_bldY HF7.out LN (by rw [List.length_append, List.length_append, len_is]; omega) (by omega)).mono ?_
            rintro e w8 ⟨rfl, f8, b8, k8⟩
            rw [HLN.out, ← HD.out] at f8
            have HF8 := hideIt f8
            have HB8 := hideIt (HB7.out.trans b8)
            have HK8 := hideIt (HK7.out.trans k8)
            clear f8 b8 k8
            go_wp2_with fail
            exact ⟨⟨k + 1, by omega, by go_num, HF8.out, HB8.out, HK8.out⟩, by simp [intOf]; omega⟩
          · have hz' : decide (Q = 0) = false := by simpa using hz
            have HTL : Hid (tailY (blockY f (pad + 2)) (kidT kids k) = 10 :: blockY f (pad + 2) (kidT kids k)) := by rw [Hid]; unfold tailY; rw [if_neg (by rw [HQ.out]; exact hz)]
            rw [HTL.out] at HD hlm2
            rw [List.length_cons] at hlm2
            rw [hz']
            clear hg
            go_wp2_with fail
            refine (fb_byte ft_bldY HF6.out 10 (by rw [List.length_append, List.length_append, len_is]; omega) (by omega)).mono ?_
            rintro e w7 ⟨rfl, f7, b7, k7⟩
            have HF7 := hideIt f7
            have HB7 := hideIt (HB6.out.trans b7)
            have HK7 := hideIt (HK6.out.trans k7)
            have z7 := HB7.out.size
            clear f7 b7 k7
            have HX7 := hideIt (HBX.out.beside HK7.out)
            have cx := HX7.out.cell
            have HIHC := hideIt (IH.out (pad + 2) (kidT kids k) (.iface tt xx) _ w7 HF7.out HX7.out (TreeAt.keep (fun c hc2 => HB7.out.block c hc2) (Nat.le_refl _) HTR.out) (HGK.out k hlt) (HTAB.out.next HB7.out) (by omega) (by omega) (by rw [HQ.out]; exact hz) (by simp only [List.length_append, len_is, List.length_cons, List.length_nil]; omega))
            have e2 : ((pad + 2 : Nat) : Int) = (pad : Int) + 2 := by omega
            rw [e2] at HIHC
            clear e2
            go_wp2_with fail
            refine HIHC.out.mono ?_
            rintro e w8 ⟨rfl, f8, b8, k8⟩
            have HF8 : Hid (FB 52 B b [] (l ++ blkY (blockY f (pad + 2)) true pad keys kids (k + 1)) w8) := by rw [Hid, HD.out]; simpa using f8
            have HB8 := hideIt (HB7.out.trans b8)
            have HK8 := hideIt (HK7.out.trans k8)
            clear f8 b8 k8
            go_wp2_with fail
            exact ⟨⟨k + 1, by omega, by go_num, HF8.out, HB8.out, HK8.out⟩, by simp [intOf]; omega⟩
        · obtain rfl : k = MK := by omega
          go_wp2_with fail
          go_end0
          exact ⟨rfl, HF.out, HB.out, HK.out⟩
end Go.Proofs.YtiamkmkbkehldaaGreatDoor
