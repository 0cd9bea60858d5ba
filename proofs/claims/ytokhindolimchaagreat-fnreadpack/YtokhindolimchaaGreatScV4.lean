/-
  The specification's l3Rc: a value of MessagePack, by the fuel.
-/
import Derived.Test.YtokhindolimchaaGreatScVl
namespace Go.Proofs.YtokhindolimchaaGreat
open Go.RowKit
set_option linter.unusedSimpArgs false
set_option linter.unusedVariables false

theorem row4_any {rb p c many deep : Nat} {s : ByteArray} {w : World} {named : Bool} {W : Nat → Option (ByteArray × Nat)} {S : Nat → Nat → Option (List VN × Nat × Nat)} (h : ScAt w rb s p false c) (hs : s.size ≤ 4000) (h1 : 1 ≤ c) (hc : c ≤ 80) (hmn : many ≤ 256000000000000255) (hd : deep ≤ 9) (HS : SpOk S) (HW : WOk W)
    (hv : deep ≤ 8 → ∀ w q d, ScAt w rb s q false d → d ≤ 80 → p ≤ q → Calls Tryz.prog 42 #[.pointer (some ⟨rb, 0, none⟩), .int .i64 deep] w (ValOr rb s (S q d) w))
    (hbad : deep ≤ 8 → ∀ w q d, ScAt w rb s q true d → d ≤ 80 → Calls Tryz.prog 42 #[.pointer (some ⟨rb, 0, none⟩), .int .i64 deep] w (ValOr rb s none w))
    (hw : ∀ w q d, ScAt w rb s q false d → d ≤ 80 → p ≤ q → Calls Tryz.prog 83 #[.pointer (some ⟨rb, 0, none⟩)] w (TxtOr rb d s (W q) w)) :
    Calls Tryz.prog 84 #[.pointer (some ⟨rb, 0, none⟩), .int .i64 many, .bool named, .int .i64 deep] w (ValOr rb s (spRow W S named many deep p c) w) := by
  by_cases ho : 80 < many ∨ 8 < deep
  · refine (row4_over h (by omega) hmn hd ho).mono ?_
    rintro e w' ⟨a, n, k, rfl, hb, hsp⟩
    refine ⟨a, n, k, rfl, hb, .inr ⟨?_, c, by omega, hsp⟩⟩
    unfold spRow
    rw [if_pos ho]
  · cases named
    · exact row4_list h h1 hc (by omega) (by omega) HS (hv (by omega))
    · exact row4_map h hs h1 hc (by omega) (by omega) HS HW (hv (by omega)) (hbad (by omega)) hw

set_option maxRecDepth 100000 in
set_option maxHeartbeats 25600000 in
theorem value4_any {rb : Nat} {s : ByteArray} (hs : s.size ≤ 4000) : ∀ (f deep p c : Nat) (w : World), ScAt w rb s p false c → c ≤ 80 → deep ≤ 8 → s.size + 1 ≤ p + f →
    Calls Tryz.prog 42 #[.pointer (some ⟨rb, 0, none⟩), .int .i64 deep] w (ValOr rb s (spP s.data.toList f deep p c) w) := by
  intro f
  induction f with
  | zero => intro deep p c w h hc hd hf; have := h.le; omega
  | succ f ih =>
    intro deep p c w h hc hd hf
    have HLN := hideB (len_is s)
    by_cases g : 80 < c + 1 ∨ s.size ≤ p
    · have hno : spP s.data.toList (f + 1) deep p c = none := by rw [spP, if_pos (by rw [HLN.out]; exact g)]
      rw [hno]
      exact value4_bad h hs hc hd (.inr g)
    have hrb := h.lt
    have hle := h.le
    obtain ⟨c0, c1, c2, c3⟩ := h.cells
    have f3 := h.free 3
    have HS1 := hideB (h.setN (d := c + 1) (by omega))
    have e1 : ((c + 1 : Nat) : Int) = (c : Int) + 1 := by omega
    rw [e1] at HS1
    have HB1 := hideB (But.of_set (rb := rb) (a := w) 3 (.int .i64 ((c : Int) + 1)))
    have HIH := hideB ih
    have hp : p < s.size := by omega
    have hspe := Eq.refl (spP s.data.toList (f + 1) deep p c)
    conv at hspe => rhs; rw [spP, if_neg (by rw [HLN.out]; exact g)]
    have HSPE := hideB hspe
    clear hspe
    have HGB : Hid (byAt s.data.toList p = s[p].toNat) := getB hp
    obtain ⟨b, hb⟩ : ∃ b, byAt s.data.toList p = b := ⟨_, rfl⟩
    rw [hb] at HSPE HGB
    obtain ⟨y, hy⟩ : ∃ y, s[p] = y := ⟨_, rfl⟩
    rw [hy] at HGB
    have hyl : y.toNat < 256 := y.toNat_lt
    have hby : b = y.toNat := HGB.out
    have HHB := hideB hb
    clear h ih hb
    go_enter Tryz.func42, Tryz.ntmps42
    go_wp2_with fail
    generalize w.setCell ⟨rb, 3, none⟩ (.int .i64 ((c : Int) + 1)) = W1 at HS1 HB1 ⊢
    clear c0 c1 c2 c3 f3
    obtain ⟨c0, c1, c2, c3⟩ := HS1.out.cells
    rw [e1] at c3
    have g1' : decide ((80 : Int) < (c : Int) + 1) = false := by simp; omega
    have g2' : decide ((s.size : Int) ≤ (p : Int)) = false := by simp; omega
    go_quiet (fail)
    have HD2 := hideB (below_drewB (w := W1) nq)
    have HS2 := hideB (HS1.out.below HD2.out)
    have HB2 := hideB (HB1.out.trans (But.of_below HD2.out))
    generalize W1.drewN nq = W2 at HS2 HD2 HB2 ⊢
    clear nq c0 c1 c2 c3 g1' g2'
    obtain ⟨c0, c1, c2, c3⟩ := HS2.out.cells
    have hp' : (p : Int) < (s.size : Int) := by omega
    have e0 : ((p : Int)).toNat = p := by omega
    go_wp2_with fail
    go_quiet (fail)
    have HD3 := hideB (below_drewB (w := W2) nq)
    have HS3 := hideB (HS2.out.below HD3.out)
    have HB3 := hideB (HB2.out.trans (But.of_below HD3.out))
    generalize W2.drewN nq = W3 at HS3 HD3 HB3 ⊢
    clear nq c0 c1 c2 c3
    obtain ⟨C, hC⟩ : ∃ C, c + 1 = C := ⟨_, rfl⟩
    rw [hC] at HS3 HSPE
    have hC1 : 1 ≤ C := by omega
    have hC80 : C ≤ 80 := by omega
    clear hC e1 HS1 HS2 HB1 HB2
    obtain ⟨k0, k1, k2, k3⟩ := HS3.out.cells
    have l1 := HS3.out.free 1
    have l2 := HS3.out.free 2
    have e5 : ((p + 1 : Nat) : Int) = (p : Int) + 1 := by omega
    have HS5 := hideB (HS3.out.setP (q := p + 1) (by omega))
    rw [e5] at HS5
    have HB5 := hideB (HB3.out.trans (But.of_set (rb := rb) 1 (.int .i64 ((p : Int) + 1))))
    have e9 : ((deep + 1 : Nat) : Int) = (deep : Int) + 1 := by omega
    have HROW := hideB (fun (W : World) (named : Bool) (many q : Nat) (hsc : ScAt W rb s q false C) (hmn : many ≤ 256000000000000255) (hq : p + 1 ≤ q) => row4_any (named := named) (many := many) (deep := deep + 1) hsc hs hC1 hC80 hmn (by omega) (ok_pack s.data.toList f (deep + 1)) (wok_pack s.data.toList f) (fun hd8 w' q' d' x1 x2 x3 => HIH.out (deep + 1) q' d' w' x1 x2 hd8 (by omega)) (fun hd8 w' q' d' x1 x2 => value4_bad x1 hs x2 hd8 (.inl rfl)) (fun w' q' d' x1 x2 x3 => by
      have hq' := x1.le
      obtain ⟨g, rfl⟩ : ∃ g, f = g + 1 := ⟨f - 1, by omega⟩
      exact sword4_any x1 hs g))
    rw [e9] at HROW
    clear e9
    by_cases c0 : (160 ≤ b ∧ b < 192) ∨ (217 ≤ b ∧ b ≤ 219)
    · rw [if_pos c0] at HSPE
      have HWD := hideB (sword4_any HS3.out hs f)
      by_cases cc : b < 192
      focus
        have g0 : (160 : Int) ≤ (y.toNat : Int) := by omega
        have g1 : (y.toNat : Int) < 192 := by omega
        have g2 : ¬ (217 : Int) ≤ (y.toNat : Int) := by omega
        have g3 : (y.toNat : Int) ≤ 219 := by omega
        have g4 : ¬ (y.toNat : Int) < 128 := by omega
        have g5 : ¬ (y.toNat : Int) < 144 := by omega
        have g6 : ¬ (y.toNat : Int) < 160 := by omega
        have g7 : ((y.toNat : Int) == 192) = false := by simp; omega
        have g8 : ((y.toNat : Int) == 194) = false := by simp; omega
        have g9 : ((y.toNat : Int) == 195) = false := by simp; omega
        have g10 : ¬ (204 : Int) ≤ (y.toNat : Int) := by omega
        have g11 : (y.toNat : Int) ≤ 207 := by omega
        have g12 : ¬ (208 : Int) ≤ (y.toNat : Int) := by omega
        have g13 : (y.toNat : Int) ≤ 211 := by omega
        have g14 : ((y.toNat : Int) == 220) = false := by simp; omega
        have g15 : ((y.toNat : Int) == 221) = false := by simp; omega
        have g16 : ((y.toNat : Int) == 222) = false := by simp; omega
        have g17 : ((y.toNat : Int) == 223) = false := by simp; omega
        have g18 : ¬ (224 : Int) ≤ (y.toNat : Int) := by omega
        go_wp2_with fail
      rotate_left
      focus
        have g0 : (160 : Int) ≤ (y.toNat : Int) := by omega
        have g1 : ¬ (y.toNat : Int) < 192 := by omega
        have g2 : (217 : Int) ≤ (y.toNat : Int) := by omega
        have g3 : (y.toNat : Int) ≤ 219 := by omega
        have g4 : ¬ (y.toNat : Int) < 128 := by omega
        have g5 : ¬ (y.toNat : Int) < 144 := by omega
        have g6 : ¬ (y.toNat : Int) < 160 := by omega
        have g7 : ((y.toNat : Int) == 192) = false := by simp; omega
        have g8 : ((y.toNat : Int) == 194) = false := by simp; omega
        have g9 : ((y.toNat : Int) == 195) = false := by simp; omega
        have g10 : (204 : Int) ≤ (y.toNat : Int) := by omega
        have g11 : ¬ (y.toNat : Int) ≤ 207 := by omega
        have g12 : (208 : Int) ≤ (y.toNat : Int) := by omega
        have g13 : ¬ (y.toNat : Int) ≤ 211 := by omega
        have g14 : ((y.toNat : Int) == 220) = false := by simp; omega
        have g15 : ((y.toNat : Int) == 221) = false := by simp; omega
        have g16 : ((y.toNat : Int) == 222) = false := by simp; omega
        have g17 : ((y.toNat : Int) == 223) = false := by simp; omega
        have g18 : ¬ (224 : Int) ≤ (y.toNat : Int) := by omega
        go_wp2_with fail
      all_goals
        refine HWD.out.mono ?_
        rintro e w6 ⟨key, q6, b6, rfl, hb6, hsc6, hko⟩
        have HB6 := hideB (HB3.out.trans hb6)
        have HS6 := hideB hsc6
        have HKO := hideB hko
        have HN := hideB (sWord_any key w6)
        clear hb6 hsc6 hko
        go_wp2_with fail
        refine HN.out.mono ?_
        rintro e w7 ⟨rfl, hn7, hb7⟩
        have HN7 := hideB hn7
        have HB7 := hideB hb7
        clear hn7 hb7
        go_wp2_with fail
        go_ret
        rcases HKO.out with ⟨x1, x2⟩ | ⟨x1, x2⟩
        · subst x1
          exact leaf_or HB6.out HS6.out HN7.out HB7.out (by rw [HSPE.out, wordV, x2])
        · subst x1
          exact ⟨_, _, _, rfl, HB6.out.trans (But.of_below HB7.out), .inr ⟨by rw [HSPE.out, wordV, x2], C, by omega, _, HS6.out.below HB7.out⟩⟩
    rw [if_neg c0] at HSPE
    have HNW := hideB c0
    clear c0
    by_cases c1 : b < 128
    · rw [if_pos c1] at HSPE
      have g0 : ¬ (160 : Int) ≤ (y.toNat : Int) := by omega
      have g1 : (y.toNat : Int) < 192 := by omega
      have g2 : ¬ (217 : Int) ≤ (y.toNat : Int) := by omega
      have g3 : (y.toNat : Int) ≤ 219 := by omega
      have g4 : (y.toNat : Int) < 128 := by omega
      have g5 : (y.toNat : Int) < 144 := by omega
      have g6 : (y.toNat : Int) < 160 := by omega
      have g7 : ((y.toNat : Int) == 192) = false := by simp; omega
      have g8 : ((y.toNat : Int) == 194) = false := by simp; omega
      have g9 : ((y.toNat : Int) == 195) = false := by simp; omega
      have g10 : ¬ (204 : Int) ≤ (y.toNat : Int) := by omega
      have g11 : (y.toNat : Int) ≤ 207 := by omega
      have g12 : ¬ (208 : Int) ≤ (y.toNat : Int) := by omega
      have g13 : (y.toNat : Int) ≤ 211 := by omega
      have g14 : ((y.toNat : Int) == 220) = false := by simp; omega
      have g15 : ((y.toNat : Int) == 221) = false := by simp; omega
      have g16 : ((y.toNat : Int) == 222) = false := by simp; omega
      have g17 : ((y.toNat : Int) == 223) = false := by simp; omega
      have g18 : ¬ (224 : Int) ≤ (y.toNat : Int) := by omega
      have HN := hideB (sNumber_any (y.toNat : Int) (W3.setCell ⟨rb, 1, none⟩ (.int .i64 ((p : Int) + 1))))
      go_wp2_with fail
      generalize W3.setCell ⟨rb, 1, none⟩ (.int .i64 ((p : Int) + 1)) = W5 at HS5 HB5 HN ⊢
      refine HN.out.mono ?_
      rintro e w7 ⟨rfl, hn7, hb7⟩
      have HN7 := hideB hn7
      have HB7 := hideB hb7
      clear hn7 hb7
      go_wp2_with fail
      go_ret
      exact leaf_or HB5.out HS5.out HN7.out HB7.out (by rw [HSPE.out, hby])
    rw [if_neg c1] at HSPE
    by_cases c2 : b < 144
    · rw [if_pos c2] at HSPE
      have g0 : ¬ (160 : Int) ≤ (y.toNat : Int) := by omega
      have g1 : (y.toNat : Int) < 192 := by omega
      have g2 : ¬ (217 : Int) ≤ (y.toNat : Int) := by omega
      have g3 : (y.toNat : Int) ≤ 219 := by omega
      have g4 : ¬ (y.toNat : Int) < 128 := by omega
      have g5 : (y.toNat : Int) < 144 := by omega
      have g6 : (y.toNat : Int) < 160 := by omega
      have g7 : ((y.toNat : Int) == 192) = false := by simp; omega
      have g8 : ((y.toNat : Int) == 194) = false := by simp; omega
      have g9 : ((y.toNat : Int) == 195) = false := by simp; omega
      have g10 : ¬ (204 : Int) ≤ (y.toNat : Int) := by omega
      have g11 : (y.toNat : Int) ≤ 207 := by omega
      have g12 : ¬ (208 : Int) ≤ (y.toNat : Int) := by omega
      have g13 : (y.toNat : Int) ≤ 211 := by omega
      have g14 : ((y.toNat : Int) == 220) = false := by simp; omega
      have g15 : ((y.toNat : Int) == 221) = false := by simp; omega
      have g16 : ((y.toNat : Int) == 222) = false := by simp; omega
      have g17 : ((y.toNat : Int) == 223) = false := by simp; omega
      have g18 : ¬ (224 : Int) ≤ (y.toNat : Int) := by omega
      have HRR := hideB (HROW.out _ true (b - 128) (p + 1) HS5.out (by omega) (Nat.le_refl _))
      have e7 : ((b - 128 : Nat) : Int) = (y.toNat : Int) - 128 := by omega
      rw [e7] at HRR
      go_wp2_with fail
      refine HRR.out.mono ?_
      rintro e w6 hvo
      have HVO := hideB (hvo.back HB5.out)
      obtain ⟨a6, n6, c6, rfl, _, _⟩ := hvo
      go_wp2_with fail
      go_ret
      rw [HSPE.out]
      exact HVO.out
    rw [if_neg c2] at HSPE
    have c3' : b < 160 ∨ 192 ≤ b := by have := HNW.out; omega
    by_cases c3 : b < 160
    · rw [if_pos c3] at HSPE
      have g0 : ¬ (160 : Int) ≤ (y.toNat : Int) := by omega
      have g1 : (y.toNat : Int) < 192 := by omega
      have g2 : ¬ (217 : Int) ≤ (y.toNat : Int) := by omega
      have g3 : (y.toNat : Int) ≤ 219 := by omega
      have g4 : ¬ (y.toNat : Int) < 128 := by omega
      have g5 : ¬ (y.toNat : Int) < 144 := by omega
      have g6 : (y.toNat : Int) < 160 := by omega
      have g7 : ((y.toNat : Int) == 192) = false := by simp; omega
      have g8 : ((y.toNat : Int) == 194) = false := by simp; omega
      have g9 : ((y.toNat : Int) == 195) = false := by simp; omega
      have g10 : ¬ (204 : Int) ≤ (y.toNat : Int) := by omega
      have g11 : (y.toNat : Int) ≤ 207 := by omega
      have g12 : ¬ (208 : Int) ≤ (y.toNat : Int) := by omega
      have g13 : (y.toNat : Int) ≤ 211 := by omega
      have g14 : ((y.toNat : Int) == 220) = false := by simp; omega
      have g15 : ((y.toNat : Int) == 221) = false := by simp; omega
      have g16 : ((y.toNat : Int) == 222) = false := by simp; omega
      have g17 : ((y.toNat : Int) == 223) = false := by simp; omega
      have g18 : ¬ (224 : Int) ≤ (y.toNat : Int) := by omega
      have HRR := hideB (HROW.out _ false (b - 144) (p + 1) HS5.out (by omega) (Nat.le_refl _))
      have e7 : ((b - 144 : Nat) : Int) = (y.toNat : Int) - 144 := by omega
      rw [e7] at HRR
      go_wp2_with fail
      refine HRR.out.mono ?_
      rintro e w6 hvo
      have HVO := hideB (hvo.back HB5.out)
      obtain ⟨a6, n6, c6, rfl, _, _⟩ := hvo
      go_wp2_with fail
      go_ret
      rw [HSPE.out]
      exact HVO.out
    rw [if_neg c3] at HSPE
    have c3'' : 192 ≤ b := by omega
    clear c3'
    by_cases c4 : b = 192
    · rw [if_pos c4] at HSPE
      have g0 : (160 : Int) ≤ (y.toNat : Int) := by omega
      have g1 : ¬ (y.toNat : Int) < 192 := by omega
      have g2 : ¬ (217 : Int) ≤ (y.toNat : Int) := by omega
      have g3 : (y.toNat : Int) ≤ 219 := by omega
      have g4 : ¬ (y.toNat : Int) < 128 := by omega
      have g5 : ¬ (y.toNat : Int) < 144 := by omega
      have g6 : ¬ (y.toNat : Int) < 160 := by omega
      have g7 : ((y.toNat : Int) == 192) = true := by simp; omega
      have g8 : ((y.toNat : Int) == 194) = false := by simp; omega
      have g9 : ((y.toNat : Int) == 195) = false := by simp; omega
      have g10 : ¬ (204 : Int) ≤ (y.toNat : Int) := by omega
      have g11 : (y.toNat : Int) ≤ 207 := by omega
      have g12 : ¬ (208 : Int) ≤ (y.toNat : Int) := by omega
      have g13 : (y.toNat : Int) ≤ 211 := by omega
      have g14 : ((y.toNat : Int) == 220) = false := by simp; omega
      have g15 : ((y.toNat : Int) == 221) = false := by simp; omega
      have g16 : ((y.toNat : Int) == 222) = false := by simp; omega
      have g17 : ((y.toNat : Int) == 223) = false := by simp; omega
      have g18 : ¬ (224 : Int) ≤ (y.toNat : Int) := by omega
      have HN := hideB (sNull_any (W3.setCell ⟨rb, 1, none⟩ (.int .i64 ((p : Int) + 1))))
      go_wp2_with fail
      generalize W3.setCell ⟨rb, 1, none⟩ (.int .i64 ((p : Int) + 1)) = W5 at HS5 HB5 HN ⊢
      refine HN.out.mono ?_
      rintro e w7 ⟨rfl, hn7, hb7⟩
      have HN7 := hideB hn7
      have HB7 := hideB hb7
      clear hn7 hb7
      go_wp2_with fail
      go_ret
      exact leaf_or HB5.out HS5.out HN7.out HB7.out HSPE.out
    rw [if_neg c4] at HSPE
    by_cases c5 : b = 194
    · rw [if_pos c5] at HSPE
      have g0 : (160 : Int) ≤ (y.toNat : Int) := by omega
      have g1 : ¬ (y.toNat : Int) < 192 := by omega
      have g2 : ¬ (217 : Int) ≤ (y.toNat : Int) := by omega
      have g3 : (y.toNat : Int) ≤ 219 := by omega
      have g4 : ¬ (y.toNat : Int) < 128 := by omega
      have g5 : ¬ (y.toNat : Int) < 144 := by omega
      have g6 : ¬ (y.toNat : Int) < 160 := by omega
      have g7 : ((y.toNat : Int) == 192) = false := by simp; omega
      have g8 : ((y.toNat : Int) == 194) = true := by simp; omega
      have g9 : ((y.toNat : Int) == 195) = false := by simp; omega
      have g10 : ¬ (204 : Int) ≤ (y.toNat : Int) := by omega
      have g11 : (y.toNat : Int) ≤ 207 := by omega
      have g12 : ¬ (208 : Int) ≤ (y.toNat : Int) := by omega
      have g13 : (y.toNat : Int) ≤ 211 := by omega
      have g14 : ((y.toNat : Int) == 220) = false := by simp; omega
      have g15 : ((y.toNat : Int) == 221) = false := by simp; omega
      have g16 : ((y.toNat : Int) == 222) = false := by simp; omega
      have g17 : ((y.toNat : Int) == 223) = false := by simp; omega
      have g18 : ¬ (224 : Int) ≤ (y.toNat : Int) := by omega
      have HN := hideB (sBool_any false (W3.setCell ⟨rb, 1, none⟩ (.int .i64 ((p : Int) + 1))))
      go_wp2_with fail
      generalize W3.setCell ⟨rb, 1, none⟩ (.int .i64 ((p : Int) + 1)) = W5 at HS5 HB5 HN ⊢
      refine HN.out.mono ?_
      rintro e w7 ⟨rfl, hn7, hb7⟩
      have HN7 := hideB hn7
      have HB7 := hideB hb7
      clear hn7 hb7
      go_wp2_with fail
      go_ret
      exact leaf_or HB5.out HS5.out HN7.out HB7.out HSPE.out
    rw [if_neg c5] at HSPE
    by_cases c6 : b = 195
    · rw [if_pos c6] at HSPE
      have g0 : (160 : Int) ≤ (y.toNat : Int) := by omega
      have g1 : ¬ (y.toNat : Int) < 192 := by omega
      have g2 : ¬ (217 : Int) ≤ (y.toNat : Int) := by omega
      have g3 : (y.toNat : Int) ≤ 219 := by omega
      have g4 : ¬ (y.toNat : Int) < 128 := by omega
      have g5 : ¬ (y.toNat : Int) < 144 := by omega
      have g6 : ¬ (y.toNat : Int) < 160 := by omega
      have g7 : ((y.toNat : Int) == 192) = false := by simp; omega
      have g8 : ((y.toNat : Int) == 194) = false := by simp; omega
      have g9 : ((y.toNat : Int) == 195) = true := by simp; omega
      have g10 : ¬ (204 : Int) ≤ (y.toNat : Int) := by omega
      have g11 : (y.toNat : Int) ≤ 207 := by omega
      have g12 : ¬ (208 : Int) ≤ (y.toNat : Int) := by omega
      have g13 : (y.toNat : Int) ≤ 211 := by omega
      have g14 : ((y.toNat : Int) == 220) = false := by simp; omega
      have g15 : ((y.toNat : Int) == 221) = false := by simp; omega
      have g16 : ((y.toNat : Int) == 222) = false := by simp; omega
      have g17 : ((y.toNat : Int) == 223) = false := by simp; omega
      have g18 : ¬ (224 : Int) ≤ (y.toNat : Int) := by omega
      have HN := hideB (sBool_any true (W3.setCell ⟨rb, 1, none⟩ (.int .i64 ((p : Int) + 1))))
      go_wp2_with fail
      generalize W3.setCell ⟨rb, 1, none⟩ (.int .i64 ((p : Int) + 1)) = W5 at HS5 HB5 HN ⊢
      refine HN.out.mono ?_
      rintro e w7 ⟨rfl, hn7, hb7⟩
      have HN7 := hideB hn7
      have HB7 := hideB hb7
      clear hn7 hb7
      go_wp2_with fail
      go_ret
      exact leaf_or HB5.out HS5.out HN7.out HB7.out HSPE.out
    rw [if_neg c6] at HSPE
    by_cases c7 : 204 ≤ b ∧ b ≤ 207
    · rw [if_pos c7] at HSPE
      have g0 : (160 : Int) ≤ (y.toNat : Int) := by omega
      have g1 : ¬ (y.toNat : Int) < 192 := by omega
      have g2 : ¬ (217 : Int) ≤ (y.toNat : Int) := by omega
      have g3 : (y.toNat : Int) ≤ 219 := by omega
      have g4 : ¬ (y.toNat : Int) < 128 := by omega
      have g5 : ¬ (y.toNat : Int) < 144 := by omega
      have g6 : ¬ (y.toNat : Int) < 160 := by omega
      have g7 : ((y.toNat : Int) == 192) = false := by simp; omega
      have g8 : ((y.toNat : Int) == 194) = false := by simp; omega
      have g9 : ((y.toNat : Int) == 195) = false := by simp; omega
      have g10 : (204 : Int) ≤ (y.toNat : Int) := by omega
      have g11 : (y.toNat : Int) ≤ 207 := by omega
      have g12 : ¬ (208 : Int) ≤ (y.toNat : Int) := by omega
      have g13 : (y.toNat : Int) ≤ 211 := by omega
      have g14 : ((y.toNat : Int) == 220) = false := by simp; omega
      have g15 : ((y.toNat : Int) == 221) = false := by simp; omega
      have g16 : ((y.toNat : Int) == 222) = false := by simp; omega
      have g17 : ((y.toNat : Int) == 223) = false := by simp; omega
      have g18 : ¬ (224 : Int) ≤ (y.toNat : Int) := by omega
      have hpw : wrap64 (2 ^ (y.toNat - 204)) = ((2 ^ (y.toNat - 204) : Nat) : Int) ∧ 1 ≤ 2 ^ (y.toNat - 204) ∧ 2 ^ (y.toNat - 204) ≤ 8 := by
        rcases (show y.toNat - 204 = 0 ∨ y.toNat - 204 = 1 ∨ y.toNat - 204 = 2 ∨ y.toNat - 204 = 3 by omega) with h | h | h | h <;> rw [h] <;> exact ⟨by first | decide | simp [wrap64], by decide, by decide⟩
      have HPW := hideB hpw
      have HCB := hideB (scBig_any HS5.out hs _ hpw.2.1 hpw.2.2)
      clear hpw
      rw [hby] at HSPE
      go_wp2_with fail
      rw [HPW.out.1]
      refine HCB.out.mono ?_
      rintro e w6 ⟨b6, ⟨n, q, hr, rfl, hsc6, hn⟩ | ⟨hr, rfl, p6, hsc6⟩⟩
      · have HSP' : Hid (spP s.data.toList (f + 1) deep p c = some (leafN 3 n ByteArray.empty, q, C)) := by rw [Hid, HSPE.out, bigV, hr]
        have HB6 := hideB (HB5.out.trans b6)
        have HS6 := hideB hsc6
        have HN := hideB (sNumber_any (n : Int) w6)
        clear b6 hsc6 hr
        go_wp2_with fail
        refine HN.out.mono ?_
        rintro e w7 ⟨rfl, hn7, hb7⟩
        have HN7 := hideB hn7
        have HB7 := hideB hb7
        clear hn7 hb7
        go_wp2_with fail
        go_ret
        exact leaf_or HB6.out HS6.out HN7.out HB7.out HSP'.out
      · have HSP' : Hid (spP s.data.toList (f + 1) deep p c = none) := by rw [Hid, HSPE.out, bigV, hr]
        have HB6 := hideB (HB5.out.trans b6)
        have HS6 := hideB hsc6
        have HN := hideB (sNumber_any (-1 : Int) w6)
        clear b6 hsc6 hr
        go_wp2_with fail
        refine HN.out.mono ?_
        rintro e w7 ⟨rfl, hn7, hb7⟩
        have HB7 := hideB hb7
        clear hn7 hb7
        go_wp2_with fail
        go_ret
        exact ⟨_, _, _, rfl, HB6.out.trans (But.of_below HB7.out), .inr ⟨HSP'.out, C, by omega, _, HS6.out.below HB7.out⟩⟩
    rw [if_neg c7] at HSPE
    by_cases c8 : 208 ≤ b ∧ b ≤ 211
    · rw [if_pos c8] at HSPE
      have g0 : (160 : Int) ≤ (y.toNat : Int) := by omega
      have g1 : ¬ (y.toNat : Int) < 192 := by omega
      have g2 : ¬ (217 : Int) ≤ (y.toNat : Int) := by omega
      have g3 : (y.toNat : Int) ≤ 219 := by omega
      have g4 : ¬ (y.toNat : Int) < 128 := by omega
      have g5 : ¬ (y.toNat : Int) < 144 := by omega
      have g6 : ¬ (y.toNat : Int) < 160 := by omega
      have g7 : ((y.toNat : Int) == 192) = false := by simp; omega
      have g8 : ((y.toNat : Int) == 194) = false := by simp; omega
      have g9 : ((y.toNat : Int) == 195) = false := by simp; omega
      have g10 : (204 : Int) ≤ (y.toNat : Int) := by omega
      have g11 : ¬ (y.toNat : Int) ≤ 207 := by omega
      have g12 : (208 : Int) ≤ (y.toNat : Int) := by omega
      have g13 : (y.toNat : Int) ≤ 211 := by omega
      have g14 : ((y.toNat : Int) == 220) = false := by simp; omega
      have g15 : ((y.toNat : Int) == 221) = false := by simp; omega
      have g16 : ((y.toNat : Int) == 222) = false := by simp; omega
      have g17 : ((y.toNat : Int) == 223) = false := by simp; omega
      have g18 : ¬ (224 : Int) ≤ (y.toNat : Int) := by omega
      have hpw : wrap64 (2 ^ (y.toNat - 208)) = ((2 ^ (y.toNat - 208) : Nat) : Int) ∧ 1 ≤ 2 ^ (y.toNat - 208) ∧ 2 ^ (y.toNat - 208) ≤ 8 := by
        rcases (show y.toNat - 208 = 0 ∨ y.toNat - 208 = 1 ∨ y.toNat - 208 = 2 ∨ y.toNat - 208 = 3 by omega) with h | h | h | h <;> rw [h] <;> exact ⟨by first | decide | simp [wrap64], by decide, by decide⟩
      have HPW := hideB hpw
      have HCB := hideB (signed4_any HS5.out hs _ hpw.2.1 hpw.2.2)
      clear hpw
      rw [hby] at HSPE
      go_wp2_with fail
      rw [HPW.out.1]
      refine HCB.out.mono ?_
      rintro e w6 ⟨b6, n, rfl, hor⟩
      have HB6 := hideB (HB5.out.trans b6)
      have HOR := hideB hor
      have HN := hideB (sNumber_any n w6)
      clear b6 hor
      go_wp2_with fail
      refine HN.out.mono ?_
      rintro e w7 ⟨rfl, hn7, hb7⟩
      have HN7 := hideB hn7
      have HB7 := hideB hb7
      clear hn7 hb7
      go_wp2_with fail
      go_ret
      rcases HOR.out with ⟨x1, x2⟩ | ⟨x1, p6, x2⟩
      · exact leaf_or HB6.out x2 HN7.out HB7.out (HSPE.out.trans x1)
      · exact ⟨_, _, _, rfl, HB6.out.trans (But.of_below HB7.out), .inr ⟨HSPE.out.trans x1, C, by omega, _, x2.below HB7.out⟩⟩
    rw [if_neg c8] at HSPE
    by_cases d0 : b = 220 ∨ b = 221
    · rw [if_pos d0] at HSPE
      have hpw : wrap64 (2 * 2 ^ (y.toNat - 220)) = ((2 * 2 ^ (y.toNat - 220) : Nat) : Int) ∧ 1 ≤ 2 * 2 ^ (y.toNat - 220) ∧ 2 * 2 ^ (y.toNat - 220) ≤ 8 := by
        rcases (show y.toNat - 220 = 0 ∨ y.toNat - 220 = 1 by omega) with h | h <;> rw [h] <;> exact ⟨by first | decide | simp [wrap64], by decide, by decide⟩
      have HPW := hideB hpw
      have HCB := hideB (scBig_any HS5.out hs _ hpw.2.1 hpw.2.2)
      clear hpw
      rw [hby] at HSPE
      have e9 : ((deep + 1 : Nat) : Int) = (deep : Int) + 1 := by omega
      rcases d0 with c9 | c9
      focus
        have g0 : (160 : Int) ≤ (y.toNat : Int) := by omega
        have g1 : ¬ (y.toNat : Int) < 192 := by omega
        have g2 : (217 : Int) ≤ (y.toNat : Int) := by omega
        have g3 : ¬ (y.toNat : Int) ≤ 219 := by omega
        have g4 : ¬ (y.toNat : Int) < 128 := by omega
        have g5 : ¬ (y.toNat : Int) < 144 := by omega
        have g6 : ¬ (y.toNat : Int) < 160 := by omega
        have g7 : ((y.toNat : Int) == 192) = false := by simp; omega
        have g8 : ((y.toNat : Int) == 194) = false := by simp; omega
        have g9 : ((y.toNat : Int) == 195) = false := by simp; omega
        have g10 : (204 : Int) ≤ (y.toNat : Int) := by omega
        have g11 : ¬ (y.toNat : Int) ≤ 207 := by omega
        have g12 : (208 : Int) ≤ (y.toNat : Int) := by omega
        have g13 : ¬ (y.toNat : Int) ≤ 211 := by omega
        have g14 : ((y.toNat : Int) == 220) = true := by simp; omega
        have g15 : ((y.toNat : Int) == 221) = false := by simp; omega
        have g16 : ((y.toNat : Int) == 222) = false := by simp; omega
        have g17 : ((y.toNat : Int) == 223) = false := by simp; omega
        have g18 : ¬ (224 : Int) ≤ (y.toNat : Int) := by omega
        go_wp2_with fail
      rotate_left
      focus
        have g0 : (160 : Int) ≤ (y.toNat : Int) := by omega
        have g1 : ¬ (y.toNat : Int) < 192 := by omega
        have g2 : (217 : Int) ≤ (y.toNat : Int) := by omega
        have g3 : ¬ (y.toNat : Int) ≤ 219 := by omega
        have g4 : ¬ (y.toNat : Int) < 128 := by omega
        have g5 : ¬ (y.toNat : Int) < 144 := by omega
        have g6 : ¬ (y.toNat : Int) < 160 := by omega
        have g7 : ((y.toNat : Int) == 192) = false := by simp; omega
        have g8 : ((y.toNat : Int) == 194) = false := by simp; omega
        have g9 : ((y.toNat : Int) == 195) = false := by simp; omega
        have g10 : (204 : Int) ≤ (y.toNat : Int) := by omega
        have g11 : ¬ (y.toNat : Int) ≤ 207 := by omega
        have g12 : (208 : Int) ≤ (y.toNat : Int) := by omega
        have g13 : ¬ (y.toNat : Int) ≤ 211 := by omega
        have g14 : ((y.toNat : Int) == 220) = false := by simp; omega
        have g15 : ((y.toNat : Int) == 221) = true := by simp; omega
        have g16 : ((y.toNat : Int) == 222) = false := by simp; omega
        have g17 : ((y.toNat : Int) == 223) = false := by simp; omega
        have g18 : ¬ (224 : Int) ≤ (y.toNat : Int) := by omega
        go_wp2_with fail
      all_goals
        rw [HPW.out.1]
        refine HCB.out.mono ?_
        rintro e w6 ⟨b6, ⟨n, q, hr, rfl, hsc6, hn⟩ | ⟨hr, rfl, p6, hsc6⟩⟩
        focus
          have hpq := (big_fine hr HPW.out.2.1).2.1
          have HSP' := hideB (HSPE.out.trans (by rw [bigRow, hr]))
          have HB6 := hideB (HB5.out.trans b6)
          have HRR := hideB (HROW.out w6 false n q hsc6 hn (by omega))
          clear b6 hsc6 hr
          go_wp2_with fail
          refine HRR.out.mono ?_
          rintro e w7 hvo
          have HVO := hideB (hvo.back HB6.out)
          obtain ⟨a6, n6, c6, rfl, _, _⟩ := hvo
          go_wp2_with fail
          go_ret
          rw [HSP'.out]
          exact HVO.out
        focus
          have HSP' : Hid (spP s.data.toList (f + 1) deep p c = none) := by rw [Hid, HSPE.out, bigRow, hr]
          have HB6 := hideB (HB5.out.trans b6)
          have HRR := hideB (row4_spoilt (named := false) (deep := deep + 1) hsc6 (by omega))
          rw [e9] at HRR
          clear b6 hsc6 hr
          go_wp2_with fail
          refine HRR.out.mono ?_
          rintro e w7 ⟨a7, n7, k7, rfl, hb7, hsp7⟩
          have HB7 := hideB (HB6.out.trans hb7)
          have HS7 := hideB hsp7
          clear hb7 hsp7
          go_wp2_with fail
          go_ret
          exact ⟨_, _, _, rfl, HB7.out, .inr ⟨HSP'.out, C, by omega, HS7.out⟩⟩
    rw [if_neg d0] at HSPE
    by_cases d1 : b = 222 ∨ b = 223
    · rw [if_pos d1] at HSPE
      have hpw : wrap64 (2 * 2 ^ (y.toNat - 222)) = ((2 * 2 ^ (y.toNat - 222) : Nat) : Int) ∧ 1 ≤ 2 * 2 ^ (y.toNat - 222) ∧ 2 * 2 ^ (y.toNat - 222) ≤ 8 := by
        rcases (show y.toNat - 222 = 0 ∨ y.toNat - 222 = 1 by omega) with h | h <;> rw [h] <;> exact ⟨by first | decide | simp [wrap64], by decide, by decide⟩
      have HPW := hideB hpw
      have HCB := hideB (scBig_any HS5.out hs _ hpw.2.1 hpw.2.2)
      clear hpw
      rw [hby] at HSPE
      have e9 : ((deep + 1 : Nat) : Int) = (deep : Int) + 1 := by omega
      rcases d1 with c9 | c9
      focus
        have g0 : (160 : Int) ≤ (y.toNat : Int) := by omega
        have g1 : ¬ (y.toNat : Int) < 192 := by omega
        have g2 : (217 : Int) ≤ (y.toNat : Int) := by omega
        have g3 : ¬ (y.toNat : Int) ≤ 219 := by omega
        have g4 : ¬ (y.toNat : Int) < 128 := by omega
        have g5 : ¬ (y.toNat : Int) < 144 := by omega
        have g6 : ¬ (y.toNat : Int) < 160 := by omega
        have g7 : ((y.toNat : Int) == 192) = false := by simp; omega
        have g8 : ((y.toNat : Int) == 194) = false := by simp; omega
        have g9 : ((y.toNat : Int) == 195) = false := by simp; omega
        have g10 : (204 : Int) ≤ (y.toNat : Int) := by omega
        have g11 : ¬ (y.toNat : Int) ≤ 207 := by omega
        have g12 : (208 : Int) ≤ (y.toNat : Int) := by omega
        have g13 : ¬ (y.toNat : Int) ≤ 211 := by omega
        have g14 : ((y.toNat : Int) == 220) = false := by simp; omega
        have g15 : ((y.toNat : Int) == 221) = false := by simp; omega
        have g16 : ((y.toNat : Int) == 222) = true := by simp; omega
        have g17 : ((y.toNat : Int) == 223) = false := by simp; omega
        have g18 : ¬ (224 : Int) ≤ (y.toNat : Int) := by omega
        go_wp2_with fail
      rotate_left
      focus
        have g0 : (160 : Int) ≤ (y.toNat : Int) := by omega
        have g1 : ¬ (y.toNat : Int) < 192 := by omega
        have g2 : (217 : Int) ≤ (y.toNat : Int) := by omega
        have g3 : ¬ (y.toNat : Int) ≤ 219 := by omega
        have g4 : ¬ (y.toNat : Int) < 128 := by omega
        have g5 : ¬ (y.toNat : Int) < 144 := by omega
        have g6 : ¬ (y.toNat : Int) < 160 := by omega
        have g7 : ((y.toNat : Int) == 192) = false := by simp; omega
        have g8 : ((y.toNat : Int) == 194) = false := by simp; omega
        have g9 : ((y.toNat : Int) == 195) = false := by simp; omega
        have g10 : (204 : Int) ≤ (y.toNat : Int) := by omega
        have g11 : ¬ (y.toNat : Int) ≤ 207 := by omega
        have g12 : (208 : Int) ≤ (y.toNat : Int) := by omega
        have g13 : ¬ (y.toNat : Int) ≤ 211 := by omega
        have g14 : ((y.toNat : Int) == 220) = false := by simp; omega
        have g15 : ((y.toNat : Int) == 221) = false := by simp; omega
        have g16 : ((y.toNat : Int) == 222) = false := by simp; omega
        have g17 : ((y.toNat : Int) == 223) = true := by simp; omega
        have g18 : ¬ (224 : Int) ≤ (y.toNat : Int) := by omega
        go_wp2_with fail
      all_goals
        rw [HPW.out.1]
        refine HCB.out.mono ?_
        rintro e w6 ⟨b6, ⟨n, q, hr, rfl, hsc6, hn⟩ | ⟨hr, rfl, p6, hsc6⟩⟩
        focus
          have hpq := (big_fine hr HPW.out.2.1).2.1
          have HSP' := hideB (HSPE.out.trans (by rw [bigRow, hr]))
          have HB6 := hideB (HB5.out.trans b6)
          have HRR := hideB (HROW.out w6 true n q hsc6 hn (by omega))
          clear b6 hsc6 hr
          go_wp2_with fail
          refine HRR.out.mono ?_
          rintro e w7 hvo
          have HVO := hideB (hvo.back HB6.out)
          obtain ⟨a6, n6, c6, rfl, _, _⟩ := hvo
          go_wp2_with fail
          go_ret
          rw [HSP'.out]
          exact HVO.out
        focus
          have HSP' : Hid (spP s.data.toList (f + 1) deep p c = none) := by rw [Hid, HSPE.out, bigRow, hr]
          have HB6 := hideB (HB5.out.trans b6)
          have HRR := hideB (row4_spoilt (named := true) (deep := deep + 1) hsc6 (by omega))
          rw [e9] at HRR
          clear b6 hsc6 hr
          go_wp2_with fail
          refine HRR.out.mono ?_
          rintro e w7 ⟨a7, n7, k7, rfl, hb7, hsp7⟩
          have HB7 := hideB (HB6.out.trans hb7)
          have HS7 := hideB hsp7
          clear hb7 hsp7
          go_wp2_with fail
          go_ret
          exact ⟨_, _, _, rfl, HB7.out, .inr ⟨HSP'.out, C, by omega, HS7.out⟩⟩
    rw [if_neg d1] at HSPE
    by_cases d2 : 224 ≤ b
    · rw [if_pos d2] at HSPE
      have g0 : (160 : Int) ≤ (y.toNat : Int) := by omega
      have g1 : ¬ (y.toNat : Int) < 192 := by omega
      have g2 : (217 : Int) ≤ (y.toNat : Int) := by omega
      have g3 : ¬ (y.toNat : Int) ≤ 219 := by omega
      have g4 : ¬ (y.toNat : Int) < 128 := by omega
      have g5 : ¬ (y.toNat : Int) < 144 := by omega
      have g6 : ¬ (y.toNat : Int) < 160 := by omega
      have g7 : ((y.toNat : Int) == 192) = false := by simp; omega
      have g8 : ((y.toNat : Int) == 194) = false := by simp; omega
      have g9 : ((y.toNat : Int) == 195) = false := by simp; omega
      have g10 : (204 : Int) ≤ (y.toNat : Int) := by omega
      have g11 : ¬ (y.toNat : Int) ≤ 207 := by omega
      have g12 : (208 : Int) ≤ (y.toNat : Int) := by omega
      have g13 : ¬ (y.toNat : Int) ≤ 211 := by omega
      have g14 : ((y.toNat : Int) == 220) = false := by simp; omega
      have g15 : ((y.toNat : Int) == 221) = false := by simp; omega
      have g16 : ((y.toNat : Int) == 222) = false := by simp; omega
      have g17 : ((y.toNat : Int) == 223) = false := by simp; omega
      have g18 : (224 : Int) ≤ (y.toNat : Int) := by omega
      have HN := hideB (sNumber_any ((y.toNat : Int) - 256) (W3.setCell ⟨rb, 1, none⟩ (.int .i64 ((p : Int) + 1))))
      go_wp2_with fail
      generalize W3.setCell ⟨rb, 1, none⟩ (.int .i64 ((p : Int) + 1)) = W5 at HS5 HB5 HN ⊢
      refine HN.out.mono ?_
      rintro e w7 ⟨rfl, hn7, hb7⟩
      have HN7 := hideB hn7
      have HB7 := hideB hb7
      clear hn7 hb7
      go_wp2_with fail
      go_ret
      exact leaf_or HB5.out HS5.out HN7.out HB7.out (by rw [HSPE.out, hby])
    rw [if_neg d2] at HSPE
    have HS6 := hideB (HS5.out.setB true)
    have HB6 := hideB (HB5.out.trans (But.of_set (rb := rb) 2 (.bool true)))
    have l2' := HS5.out.free 2
    have k2' := HS5.out.cells.2.2.1
    have HNN := hideB (show b = 193 ∨ (196 ≤ b ∧ b ≤ 203) ∨ (212 ≤ b ∧ b ≤ 216) by have := HNW.out; omega)
    clear c1 c2 c3 c3'' c4 c5 c6 c7 c8 d0 d1 d2
    rcases HNN.out with q0 | q0 | q0
    focus
      have g0 : (160 : Int) ≤ (y.toNat : Int) := by omega
      have g1 : ¬ (y.toNat : Int) < 192 := by omega
      have g2 : ¬ (217 : Int) ≤ (y.toNat : Int) := by omega
      have g3 : (y.toNat : Int) ≤ 219 := by omega
      have g4 : ¬ (y.toNat : Int) < 128 := by omega
      have g5 : ¬ (y.toNat : Int) < 144 := by omega
      have g6 : ¬ (y.toNat : Int) < 160 := by omega
      have g7 : ((y.toNat : Int) == 192) = false := by simp; omega
      have g8 : ((y.toNat : Int) == 194) = false := by simp; omega
      have g9 : ((y.toNat : Int) == 195) = false := by simp; omega
      have g10 : ¬ (204 : Int) ≤ (y.toNat : Int) := by omega
      have g11 : (y.toNat : Int) ≤ 207 := by omega
      have g12 : ¬ (208 : Int) ≤ (y.toNat : Int) := by omega
      have g13 : (y.toNat : Int) ≤ 211 := by omega
      have g14 : ((y.toNat : Int) == 220) = false := by simp; omega
      have g15 : ((y.toNat : Int) == 221) = false := by simp; omega
      have g16 : ((y.toNat : Int) == 222) = false := by simp; omega
      have g17 : ((y.toNat : Int) == 223) = false := by simp; omega
      have g18 : ¬ (224 : Int) ≤ (y.toNat : Int) := by omega
      go_wp2_with fail
    rotate_left
    focus
      have g0 : (160 : Int) ≤ (y.toNat : Int) := by omega
      have g1 : ¬ (y.toNat : Int) < 192 := by omega
      have g2 : ¬ (217 : Int) ≤ (y.toNat : Int) := by omega
      have g3 : (y.toNat : Int) ≤ 219 := by omega
      have g4 : ¬ (y.toNat : Int) < 128 := by omega
      have g5 : ¬ (y.toNat : Int) < 144 := by omega
      have g6 : ¬ (y.toNat : Int) < 160 := by omega
      have g7 : ((y.toNat : Int) == 192) = false := by simp; omega
      have g8 : ((y.toNat : Int) == 194) = false := by simp; omega
      have g9 : ((y.toNat : Int) == 195) = false := by simp; omega
      have g10 : ¬ (204 : Int) ≤ (y.toNat : Int) := by omega
      have g11 : (y.toNat : Int) ≤ 207 := by omega
      have g12 : ¬ (208 : Int) ≤ (y.toNat : Int) := by omega
      have g13 : (y.toNat : Int) ≤ 211 := by omega
      have g14 : ((y.toNat : Int) == 220) = false := by simp; omega
      have g15 : ((y.toNat : Int) == 221) = false := by simp; omega
      have g16 : ((y.toNat : Int) == 222) = false := by simp; omega
      have g17 : ((y.toNat : Int) == 223) = false := by simp; omega
      have g18 : ¬ (224 : Int) ≤ (y.toNat : Int) := by omega
      go_wp2_with fail
    rotate_left
    focus
      have g0 : (160 : Int) ≤ (y.toNat : Int) := by omega
      have g1 : ¬ (y.toNat : Int) < 192 := by omega
      have g2 : ¬ (217 : Int) ≤ (y.toNat : Int) := by omega
      have g3 : (y.toNat : Int) ≤ 219 := by omega
      have g4 : ¬ (y.toNat : Int) < 128 := by omega
      have g5 : ¬ (y.toNat : Int) < 144 := by omega
      have g6 : ¬ (y.toNat : Int) < 160 := by omega
      have g7 : ((y.toNat : Int) == 192) = false := by simp; omega
      have g8 : ((y.toNat : Int) == 194) = false := by simp; omega
      have g9 : ((y.toNat : Int) == 195) = false := by simp; omega
      have g10 : (204 : Int) ≤ (y.toNat : Int) := by omega
      have g11 : ¬ (y.toNat : Int) ≤ 207 := by omega
      have g12 : (208 : Int) ≤ (y.toNat : Int) := by omega
      have g13 : ¬ (y.toNat : Int) ≤ 211 := by omega
      have g14 : ((y.toNat : Int) == 220) = false := by simp; omega
      have g15 : ((y.toNat : Int) == 221) = false := by simp; omega
      have g16 : ((y.toNat : Int) == 222) = false := by simp; omega
      have g17 : ((y.toNat : Int) == 223) = false := by simp; omega
      have g18 : ¬ (224 : Int) ≤ (y.toNat : Int) := by omega
      go_wp2_with fail
    all_goals
      generalize (W3.setCell ⟨rb, 1, none⟩ (.int .i64 ((p : Int) + 1))).setCell ⟨rb, 2, none⟩ (.bool true) = W6 at HS6 HB6 ⊢
      refine (sNull_any W6).mono ?_
      rintro e w7 ⟨rfl, _, hb7⟩
      have HB7 := hideB hb7
      clear hb7
      go_wp2_with fail
      go_ret
      exact ⟨_, _, _, rfl, HB6.out.trans (But.of_below HB7.out), .inr ⟨HSPE.out, C, by omega, _, HS6.out.below HB7.out⟩⟩
end Go.Proofs.YtokhindolimchaaGreat
