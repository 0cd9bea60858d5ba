/-
  The specification's l2Rj: what stands behind a \.
-/
import Derived.Test.YtagcgnhpdmhegaaGreatDoorSDig
import Derived.Test.YtagcgnhpdmhegaaGreatDoorJrW
import Derived.Test.YtagcgnhpdmhegaaGreatDoorStlF
import Derived.Test.YtagcgnhpdmhegaaGreatDoorIQuo
import Derived.Laws.Bits128
namespace Go.Proofs.YtagcgnhpdmhegaaGreatDoor
open Go.RowKit
set_option linter.unusedSimpArgs false
set_option linter.unusedVariables false

def escNm : List UInt8 := [34, 92, 47, 98, 102, 110, 114, 116]
def escMn : List UInt8 := [34, 92, 47, 8, 12, 10, 13, 9]
theorem escNm_hit0 : ∀ i : Fin 8, escC (escNm.getD i.val 0).toNat = some (escMn.getD i.val 0).toNat := by decide +kernel
theorem escNm_miss0 : ∀ n : Fin 256, (∀ i : Fin 8, n.val ≠ (escNm.getD i.val 0).toNat) → escC n.val = none := by decide +kernel
theorem esc_hit {L : List UInt8} {p i : Nat} (hi : i < 8) (h : isAt L p (escNm.getD i 0).toNat = true) : escJ L p = some ((escMn.getD i 0).toNat, p + 1) := by
  obtain ⟨h1, h2⟩ := isAt_yes.1 h
  exact escJ_one h1 (by rw [h2]; exact escNm_hit0 ⟨i, hi⟩)
theorem esc_miss {L : List UInt8} {p : Nat} (hp : p < L.length) (h : ∀ i, i < 8 → isAt L p (escNm.getD i 0).toNat = false) : escC (byAt L p) = none :=
  escNm_miss0 ⟨byAt L p, byAt_lt L p⟩ (fun i e => by have := h i.val i.isLt; rw [isAt_no] at this; exact this ⟨hp, e⟩)
theorem escNm_at {i : Nat} (h : i < 8) : (ByteArray.mk #[34, 92, 47, 98, 102, 110, 114, 116])[i]'h = escNm.getD i 0 := by
  show escNm[i]'h = escNm.getD i 0
  rw [List.getD, List.getElem?_eq_getElem (show i < escNm.length from h)]; rfl
theorem escMn_at {i : Nat} (h : i < 8) : (ByteArray.mk #[34, 92, 47, 8, 12, 10, 13, 9])[i]'h = escMn.getD i 0 := by
  show escMn[i]'h = escMn.getD i 0
  rw [List.getD, List.getElem?_eq_getElem (show i < escMn.length from h)]; rfl
theorem digI_hex0 : ∀ n : Fin 256, (digI (UInt8.ofNat n.val) < 0 ∧ hexC n.val = none) ∨ (0 ≤ digI (UInt8.ofNat n.val) ∧ hexC n.val = some (digI (UInt8.ofNat n.val)).toNat) := by decide +kernel
theorem digI_hex (c : UInt8) : (digI c < 0 ∧ hexC c.toNat = none) ∨ (0 ≤ digI c ∧ hexC c.toNat = some (digI c).toNat) := by
  have := digI_hex0 ⟨c.toNat, c.toNat_lt⟩
  simp only [UInt8.ofNat_toNat] at this
  exact this
theorem bnd_step {N d : Int} {k : Nat} (h : N.natAbs < 100 ^ k) (h1 : -1 ≤ d) (h2 : d < 16) : (16 * N + d).natAbs < 100 ^ (k + 1) := by
  rw [Nat.pow_succ]; omega
theorem bnd_all {N : Int} {k : Nat} (h : N.natAbs < 100 ^ k) (hk : k ≤ 4) : -100000000 < N ∧ N < 100000000 := by
  have h1 : 100 ^ k ≤ 100 ^ 4 := Nat.pow_le_pow_right (by decide) hk
  have h2 : (100 ^ 4 : Nat) = 100000000 := by decide
  omega

theorem call_is (v u : Value) (w : World) : (callFunc 64 #[v, u]).run Tryz.prog w = .ok (.enter 64 #[v, u]) w := by kernel_rfl
/-- What an escape leaves. -/
def EscOr (rb p c : Nat) (s : ByteArray) (w : World) (e : Ending) (w' : World) : Prop :=
  But rb w w' ∧ ∃ t q b, e = .returned (.string t) ∧ t.size ≤ 1 ∧ SjAt w' rb s q b c ∧ ((∃ x, escJ s.data.toList p = some (x, q) ∧ b = false ∧ t = txt [UInt8.ofNat x]) ∨ (escJ s.data.toList p = none ∧ b = true))

set_option maxRecDepth 100000 in
set_option maxHeartbeats 6400000 in
theorem sjEscape_any {rb p c : Nat} {s : ByteArray} {w : World} (h : SjAt w rb s p false c) (hs : s.size ≤ 4000) :
    Calls Tryz.prog 85 #[.pointer (some ⟨rb, 0, none⟩)] w (EscOr rb p c s w) := by
  have H := hideB h
  have HLN := hideB (len_is s)
  have hle := h.le
  clear h
  go_enter Tryz.func85, Tryz.ntmps85
  go_wp2_with fail
  go_loopw [5] (fun i wr => ∃ k : Nat, k ≤ 8 ∧ i = .int .i64 k ∧ SjAt wr rb s p false c ∧ But rb w wr ∧ Hid (∀ j, j < k → isAt s.data.toList p (escNm.getD j 0).toNat = false)) (fun i _ => 8 - (intOf i).toNat)
  case atStart => exact ⟨0, by omega, rfl, H.out, But.refl _ _, fun j hj => by omega⟩
  case round =>
    obtain ⟨k, hk, rfl, hsc, hbt, HM⟩ := hrel
    have HS := hideB hsc
    have HB := hideB hbt
    clear hsc hbt
    by_cases hlt : k < 8
    · have hlt' : (k : Int) < 8 := by omega
      have x1 := run_one (P := Tryz.prog) (t := 9) (s := ByteArray.mk #[34, 92, 47, 98, 102, 110, 114, 116]) Tryz.underlying9 hlt (escNm_at hlt)
      have x2 := run_one (P := Tryz.prog) (t := 9) (s := ByteArray.mk #[34, 92, 47, 8, 12, 10, 13, 9]) Tryz.underlying9 hlt (escMn_at hlt)
      cases hat : isAt s.data.toList p (escNm.getD k 0).toNat
      · have HC := hideB (sjIs_no (u := txt [escNm.getD k 0]) HS.out hs (by rw [txt_size]; simp) (.inr (by rw [bytes_txt, wordAt_one]; exact hat)))
        have HM' : Hid (∀ j, j < k + 1 → isAt s.data.toList p (escNm.getD j 0).toNat = false) := fun j hj => by
          by_cases e : j = k
          · rw [e]; exact hat
          · exact HM.out j (by omega)
        clear hat
        go_wp2_with fail
        refine HC.out.mono ?_
        rintro e w1 ⟨rfl, hsc, hb1⟩
        have HS1 := hideB hsc
        have HB1 := hideB (HB.out.trans hb1)
        clear hsc hb1
        go_wp2_with fail
        go_roundw
        case rel => exact ⟨k + 1, by omega, by go_num, HS1.out, HB1.out, HM'⟩
        case measure => simp [intOf]; omega
      · have HC := hideB (sjIs_yes (u := txt [escNm.getD k 0]) HS.out hs (by rw [txt_size]; simp) (by rw [bytes_txt]; simp) (by rw [bytes_txt, wordAt_one]; exact hat))
        have HE := hideB (esc_hit hlt hat)
        clear hat
        go_wp2_with fail
        refine HC.out.mono ?_
        rintro e w1 ⟨rfl, hsc, hb1⟩
        have HS1 := hideB hsc
        have HB1 := hideB (HB.out.trans hb1)
        clear hsc hb1
        go_wp2_with fail
        go_ret
        refine ⟨HB1.out, _, p + 1, false, rfl, by rw [txt_size]; simp, by have := HS1.out; rw [txt_size] at this; exact this, .inl ⟨_, HE.out, rfl, by simp⟩⟩
    · obtain rfl : k = 8 := by omega
      have hlt' : ¬ ((8 : Nat) : Int) < 8 := by omega
      have HD0 := hideB ((Below.refl wr.heap.size wr).drew)
      have HS0 := hideB (HS.out.below HD0.out)
      have HB0 := hideB (HB.out.trans (But.of_below HD0.out))
      by_cases hu : isAt s.data.toList p 117 = true
      · have HC := hideB (sjIs_yes (u := ⟨#[117]⟩) HS0.out hs (by show (1 : Nat) ≤ 1000; omega) (by simp) (by show wordAt _ _ [117] = true; rw [wordAt_one]; exact hu))
        obtain ⟨hp1, hp2⟩ := isAt_yes.1 hu
        have HE : Hid (escJ s.data.toList p = codeJ s.data.toList (p + 1)) := escJ_code hp1 hp2
        clear hp1 hp2 hu
        obtain ⟨P, hP⟩ : ∃ P, p + 1 = P := ⟨_, rfl⟩
        have e5 : p + (ByteArray.mk #[117]).size = P := hP
        rw [e5] at HC
        rw [hP] at HE
        have hPle : P ≤ p + 1 := by omega
        clear hP e5
        by_cases h4 : s.size < P + 4
        · have h4' : (s.size : Int) < (P : Int) + 4 := by omega
          have d4 : decide ((s.size : Int) < (P : Int) + 4) = true := by simpa using h4'
          have HN : Hid (codeJ s.data.toList P = none) := codeJ_short (by rw [HLN.out]; exact h4)
          go_wp2_with fail
          refine wp_region_any (by kernel_rfl) ?_
          change wpAny _ _ _ _ _ _ _ (World.drew _)
          refine wpAny_ready (rs := [0]) (by kernel_rfl) (by simp) ?_
          refine AllReady.cons rfl (fun K hK => ?_) AllReady.nil
          go_simp
          refine hK _ _ ?_
          clear K hK
          refine wpAny_ready (rs := [1]) (by kernel_rfl) (by simp) ?_
          refine AllReady.cons rfl (fun K hK => ?_) AllReady.nil
          refine step_call2 (by kernel_rfl) 64 (.tmp 27) (.const (.string ⟨#[117]⟩)) 60 9 (by kernel_rfl) (.pointer (some ⟨rb, 0, none⟩)) (.string ⟨#[117]⟩) (by kernel_rfl) (by kernel_rfl) (call_is _ _) HC.out ?_
          rintro e w1 ⟨rfl, hsc, hb1⟩
          refine ⟨_, rfl, ?_⟩
          go_simp
          refine hK _ _ ?_
          clear K hK
          have HS1 := hideB hsc
          have HB1 := hideB (HB0.out.trans hb1)
          have g0 := hsc.cells.1
          have g1 := hsc.cells.2.1
          clear hsc hb1 HC
          refine wpAny_quiet_from 2 rfl (by kernel_rfl) (by kernel_rfl) ?_
          simp only [List.drop]
          repeat (go_big_quiet_step (fail))
          refine wpQuiet_nil ?_
          intro _ hw'
          obtain ⟨nq, hw''⟩ := hw'
          subst hw''
          have HD2 := hideB (below_drewB (w := w1) nq)
          have HS2 := hideB (HS1.out.below HD2.out)
          have HB2 := hideB (HB1.out.trans (But.of_below HD2.out))
          obtain ⟨k0, k1, k2, k3⟩ := HS2.out.cells
          have f1 := HS2.out.free 1
          have f2 := HS2.out.free 2
          generalize w1.drewN nq = W2 at HS2 HB2 HD2 k0 k1 k2 k3 f1 f2 ⊢
          clear nq g0 g1
          go_wp2_with fail
          go_ret
          exact ⟨HB2.out.trans (But.of_set _ _), _, P, true, rfl, Nat.zero_le _, HS2.out.setB true, .inr ⟨by rw [HE.out]; exact HN.out, rfl⟩⟩
        have h4' : ¬ (s.size : Int) < (P : Int) + 4 := by omega
        have d4 : decide ((s.size : Int) < (P : Int) + 4) = false := by simpa using h4'
        go_wp2_with fail
        refine wp_region_any (by kernel_rfl) ?_
        change wpAny _ _ _ _ _ _ _ (World.drew _)
        refine wpAny_ready (rs := [0]) (by kernel_rfl) (by simp) ?_
        refine AllReady.cons rfl (fun K hK => ?_) AllReady.nil
        go_simp
        refine hK _ _ ?_
        clear K hK
        refine wpAny_ready (rs := [1]) (by kernel_rfl) (by simp) ?_
        refine AllReady.cons rfl (fun K hK => ?_) AllReady.nil
        refine step_call2 (by kernel_rfl) 64 (.tmp 27) (.const (.string ⟨#[117]⟩)) 60 9 (by kernel_rfl) (.pointer (some ⟨rb, 0, none⟩)) (.string ⟨#[117]⟩) (by kernel_rfl) (by kernel_rfl) (call_is _ _) HC.out ?_
        rintro e w1 ⟨rfl, hsc, hb1⟩
        refine ⟨_, rfl, ?_⟩
        go_simp
        refine hK _ _ ?_
        clear K hK
        have HS1 := hideB hsc
        have HB1 := hideB (HB0.out.trans hb1)
        have g0 := hsc.cells.1
        have g1 := hsc.cells.2.1
        clear hsc hb1 HC
        refine wpAny_quiet_from 2 rfl (by kernel_rfl) (by kernel_rfl) ?_
        simp only [List.drop]
        repeat (go_big_quiet_step (fail))
        refine wpQuiet_nil ?_
        intro _ hw'
        obtain ⟨nq, hw''⟩ := hw'
        subst hw''
        have HD2 := hideB (below_drewB (w := w1) nq)
        have HS2 := hideB (HS1.out.below HD2.out)
        have HB2 := hideB (HB1.out.trans (But.of_below HD2.out))
        obtain ⟨k0, k1, k2, k3⟩ := HS2.out.cells
        have f1 := HS2.out.free 1
        have f2 := HS2.out.free 2
        generalize w1.drewN nq = W2 at HS2 HB2 HD2 k0 k1 k2 k3 f1 f2 ⊢
        clear nq g0 g1
        go_wp2_with fail
        have HGB : Hid (∀ k (h : k < s.size), byAt s.data.toList k = s[k].toNat) := fun k h => getB h
        clear k0 k1 k2 k3 f1 f2
        go_loopw [6, 7, 8] (fun n i _ wr => ∃ (k : Nat) (N : Int) (bb : Bool), k ≤ 4 ∧ i = .int .i64 k ∧ n = .int .i64 N ∧ N.natAbs < 100 ^ k ∧ SjAt wr rb s P bb c ∧ But rb w wr ∧ Hid ((bb = false ∧ 0 ≤ N ∧ hexF s.data.toList P k = some N.toNat) ∨ (bb = true ∧ hexF s.data.toList P k = none))) (fun _ i _ _ => 4 - (intOf i).toNat)
        case atStart => exact ⟨0, 0, false, by omega, rfl, rfl, by decide, HS2.out, HB2.out, .inl ⟨rfl, by omega, rfl⟩⟩
        case round =>
          obtain ⟨k, N, bb, hk, rfl, rfl, hN, hsc, hbt, HX⟩ := hrel
          have HS3 := hideB hsc
          have HB3 := hideB hbt
          obtain ⟨k0, k1, k2, k3⟩ := hsc.cells
          have f2 := hsc.free 2
          have f1 := hsc.free 1
          obtain ⟨n1, n2⟩ := bnd_all hN (by omega)
          clear hsc hbt
          by_cases hlt : k < 4
          · have hlt' : (k : Int) < 4 := by omega
            have hpk : P + k < s.size := by omega
            have hpk' : (P : Int) + (k : Int) < (s.size : Int) := by omega
            have e1 : ((P : Int) + (k : Int)).toNat = P + k := by omega
            have HY := hideB (HGB.out (P + k) hpk)
            obtain ⟨y, hy⟩ : ∃ y, s[P + k] = y := ⟨_, rfl⟩
            rw [hy] at HY
            have HQ := hideB (digI_hex y)
            have HDL := hideB (fun W : World => l2Digit_any y W)
            have d1 := digI_lt y
            have d2 := digI_ge y
            obtain ⟨d, hd⟩ : ∃ d, digI y = d := ⟨_, rfl⟩
            rw [hd] at HDL HQ d1 d2
            clear hd
            have HN' := hideB (bnd_step hN d2 d1)
            clear hN
            by_cases hdn : d < 0
            focus
              have HXN : Hid ((true = false ∧ 0 ≤ 16 * N + d ∧ hexF s.data.toList P (k + 1) = some (16 * N + d).toNat) ∨ (true = true ∧ hexF s.data.toList P (k + 1) = none)) := by
                refine .inr ⟨rfl, ?_⟩
                rcases HX.out with ⟨_, _, hx⟩ | ⟨_, hx⟩
                · rcases HQ.out with ⟨_, hq⟩ | ⟨hq, _⟩
                  · exact hexF_stop hx (by rw [HY.out]; exact hq) (by omega)
                  · omega
                · exact hexF_none hx _ (by omega)
              clear HX
              go_wp2_with fail
              go_quiet ((go_at_call 101; exact Calls.quiet_of_same (HDL.out _)))
              have HD4 := hideB (below_drewB (w := wr) nq)
              have HS4 := hideB (HS3.out.below HD4.out)
              have HB4 := hideB ((HB3.out.trans (But.of_below HD4.out)).trans (But.of_set 2 (.bool true)))
              have l2 := HS4.out.cells.2.2.1
              have m2 := HS4.out.free 2
              generalize wr.drewN nq = W4 at HS4 HB4 HD4 l2 m2 ⊢
              clear nq k0 k1 k2 k3 f1 f2
              go_wp2_with fail
              go_roundw
              case rel => exact ⟨k + 1, 16 * N + d, true, by omega, by go_num, rfl, HN'.out, HS4.out.setB true, HB4.out, (by rcases HXN.out with h | h; exact .inl h; exact .inr ⟨rfl, h.2⟩)⟩
              case measure => simp [intOf]; omega
            rotate_left
            focus
              have HXN : Hid ((bb = false ∧ 0 ≤ 16 * N + d ∧ hexF s.data.toList P (k + 1) = some (16 * N + d).toNat) ∨ (bb = true ∧ hexF s.data.toList P (k + 1) = none)) := by
                rcases HX.out with ⟨hb, h0, hx⟩ | ⟨hb, hx⟩
                · rcases HQ.out with ⟨hq, _⟩ | ⟨_, hq⟩
                  · omega
                  · refine .inl ⟨hb, by omega, ?_⟩
                    rw [hexF_step hx (by rw [HY.out]; exact hq)]
                    congr 1
                    omega
                · exact .inr ⟨hb, hexF_none hx _ (by omega)⟩
              clear HX
              go_wp2_with fail
              go_quiet ((go_at_call 101; exact Calls.quiet_of_same (HDL.out _)))
              have HD4 := hideB (below_drewB (w := wr) nq)
              have HS4 := hideB (HS3.out.below HD4.out)
              have HB4 := hideB (HB3.out.trans (But.of_below HD4.out))
              generalize wr.drewN nq = W4 at HS4 HB4 HD4 ⊢
              clear nq k0 k1 k2 k3 f1 f2
              go_wp2_with fail
              go_roundw
              case rel => exact ⟨k + 1, 16 * N + d, bb, by omega, by go_num, rfl, HN'.out, HS4.out, HB4.out, HXN⟩
              case measure => simp [intOf]; omega
          · obtain rfl : k = 4 := by omega
            have hlt' : ¬ ((4 : Nat) : Int) < 4 := by omega
            have e1 : ((P + 4 : Nat) : Int) = (P : Int) + 4 := by omega
            obtain ⟨x, hx⟩ : ∃ x : UInt8, (x.toNat : Int) = N % 128 := ⟨UInt8.ofNat (N % 128).toNat, by rw [UInt8.toNat_ofNat']; omega⟩
            have HXX := hideB hx
            have hx2 : bits .and .i64 N 127 % 256 = (x.toNat : Int) := by rw [i64_and127, hx]; omega
            clear hx
            obtain ⟨W3, hW3⟩ : ∃ W3, wr.setCell ⟨rb, 1, none⟩ (.int .i64 ((P : Int) + 4)) = W3 := ⟨_, rfl⟩
            have HSP : Hid (SjAt W3 rb s (P + 4) bb c) := by rw [Hid, ← hW3, ← e1]; exact HS3.out.setP (by omega)
            have HBP : Hid (But rb w W3) := by rw [Hid, ← hW3]; exact HB3.out.trans (But.of_set _ _)
            clear e1
            by_cases hbig : 127 < N
            · have HNO : Hid (escJ s.data.toList p = none) := by
                rw [Hid, HE.out]
                rcases HX.out with ⟨_, h0, hx⟩ | ⟨_, hx⟩
                · exact codeJ_big hx (by omega)
                · exact codeJ_no hx
              obtain ⟨W4, hW4⟩ : ∃ W4, W3.setCell ⟨rb, 2, none⟩ (.bool true) = W4 := ⟨_, rfl⟩
              have HSQ : Hid (SjAt W4 rb s (P + 4) true c) := by rw [Hid, ← hW4]; exact HSP.out.setB true
              have HBQ : Hid (But rb w W4) := by rw [Hid, ← hW4]; exact HBP.out.trans (But.of_set _ _)
              have l2 := HSP.out.cells.2.2.1
              have m2 := HSP.out.free 2
              have hc := one_byte x W4
              clear HX HS3 HB3
              go_wp2_with fail
              go_ret
              have HBW := hideB ((Below.refl W4.heap.size W4).alloc (Nat.le_refl _) (.cells #[.int .u8 (x.toNat : Int)] 5))
              exact ⟨HBQ.out.trans (But.of_below HBW.out), _, P + 4, true, rfl, Nat.le_refl 1, HSQ.out.below HBW.out, .inr ⟨HNO.out, rfl⟩⟩
            · have hc := one_byte x W3
              have HYE : Hid ((∃ y, escJ s.data.toList p = some (y, P + 4) ∧ bb = false ∧ ByteArray.mk #[x] = txt [UInt8.ofNat y]) ∨ (escJ s.data.toList p = none ∧ bb = true)) := by
                rcases HX.out with ⟨hb, h0, hx⟩ | ⟨hb, hx⟩
                · refine .inl ⟨N.toNat, ?_, hb, ?_⟩
                  · rw [HE.out]; exact codeJ_yes (by rw [HLN.out]; omega) hx (by omega)
                  · have : x = UInt8.ofNat N.toNat := UInt8.toNat_inj.1 (by rw [UInt8.toNat_ofNat']; have := HXX.out; omega)
                    rw [← this]; rfl
                · refine .inr ⟨?_, hb⟩
                  rw [HE.out]; exact codeJ_no hx
              clear HX HS3 HB3
              go_wp2_with fail
              go_ret
              have HBW := hideB ((Below.refl W3.heap.size W3).alloc (Nat.le_refl _) (.cells #[.int .u8 (x.toNat : Int)] 5))
              exact ⟨HBP.out.trans (But.of_below HBW.out), _, P + 4, bb, rfl, Nat.le_refl 1, HSP.out.below HBW.out, HYE.out⟩
      · have HC := hideB (sjIs_no (u := ⟨#[117]⟩) HS0.out hs (by show (1 : Nat) ≤ 1000; omega) (.inr (by show wordAt _ _ [117] = false; rw [wordAt_one]; simpa using hu)))
        have HE : Hid (escJ s.data.toList p = none) := by
          by_cases hp : p < s.data.toList.length
          · exact escJ_none hp (esc_miss hp HM.out) (fun e => hu (isAt_yes.2 ⟨hp, e⟩))
          · exact escJ_past (by omega)
        clear hu
        go_wp2_with fail
        refine wp_region_any (by kernel_rfl) ?_
        change wpAny _ _ _ _ _ _ _ (World.drew _)
        refine wpAny_ready (rs := [0]) (by kernel_rfl) (by simp) ?_
        refine AllReady.cons rfl (fun K hK => ?_) AllReady.nil
        go_simp
        refine hK _ _ ?_
        clear K hK
        refine wpAny_ready (rs := [1]) (by kernel_rfl) (by simp) ?_
        refine AllReady.cons rfl (fun K hK => ?_) AllReady.nil
        refine step_call2 (by kernel_rfl) 64 (.tmp 27) (.const (.string ⟨#[117]⟩)) 60 9 (by kernel_rfl) (.pointer (some ⟨rb, 0, none⟩)) (.string ⟨#[117]⟩) (by kernel_rfl) (by kernel_rfl) (call_is _ _) HC.out ?_
        rintro e w1 ⟨rfl, hsc, hb1⟩
        refine ⟨_, rfl, ?_⟩
        go_simp
        refine hK _ _ ?_
        clear K hK
        have HS1 := hideB hsc
        have HB1 := hideB (HB0.out.trans hb1)
        have g0 := hsc.cells.1
        have g1 := hsc.cells.2.1
        clear hsc hb1 HC
        refine wpAny_quiet_from 2 rfl (by kernel_rfl) (by kernel_rfl) ?_
        simp only [List.drop]
        repeat (go_big_quiet_step (fail))
        refine wpQuiet_nil ?_
        intro _ hw'
        obtain ⟨nq, hw''⟩ := hw'
        subst hw''
        have HD2 := hideB (below_drewB (w := w1) nq)
        have HS2 := hideB (HS1.out.below HD2.out)
        have HB2 := hideB (HB1.out.trans (But.of_below HD2.out))
        obtain ⟨k0, k1, k2, k3⟩ := HS2.out.cells
        have f1 := HS2.out.free 1
        have f2 := HS2.out.free 2
        generalize w1.drewN nq = W2 at HS2 HB2 HD2 k0 k1 k2 k3 f1 f2 ⊢
        clear nq g0 g1
        go_wp2_with fail
        go_ret
        exact ⟨HB2.out.trans (But.of_set _ _), _, p, true, rfl, Nat.zero_le _, HS2.out.setB true, .inr ⟨HE.out, rfl⟩⟩
end Go.Proofs.YtagcgnhpdmhegaaGreatDoor
