/-
  The specification's l3Rc: a value.
-/
import Derived.Test.YtokhindolimchaaGreatScT
namespace Go.Proofs.YtokhindolimchaaGreat
open Go.RowKit
set_option linter.unusedSimpArgs false
set_option linter.unusedVariables false

set_option maxRecDepth 100000 in
set_option maxHeartbeats 6400000 in
theorem value_spoilt {rb p c deep : Nat} {s : ByteArray} {w : World} (h : ScAt w rb s p true c) (hs : s.size ≤ 4000) (hc : c ≤ 80) (hd : deep ≤ 8) :
    Calls Tryz.prog 29 #[.pointer (some ⟨rb, 0, none⟩), .int .i64 deep] w (ValOr rb s none w) := by
  have hrb := h.lt
  obtain ⟨c0, c1, c2, c3⟩ := h.cells
  have f3 := h.free 3
  have HS1 := hideB (h.setN (d := c + 1) (by omega))
  have e1 : ((c + 1 : Nat) : Int) = (c : Int) + 1 := by omega
  rw [e1] at HS1
  have HB1 := hideB (But.of_set (rb := rb) (a := w) 3 (.int .i64 ((c : Int) + 1)))
  clear h
  go_enter Tryz.func29, Tryz.ntmps29
  by_cases g : c + 1 ≤ 80
  focus
    have g' : ¬ (80 : Int) < (c : Int) + 1 := by omega
    go_wp2_with fail
    have HS2 := hideB HS1.out
    have HB2 := hideB HB1.out
    generalize w.setCell ⟨rb, 3, none⟩ (.int .i64 ((c : Int) + 1)) = W1 at HS1 HB1 HS2 HB2 ⊢
  rotate_left
  focus
    have g' : (80 : Int) < (c : Int) + 1 := by omega
    have HS2 := hideB (HS1.out.setB true)
    have HB2 := hideB (HB1.out.trans (But.of_set (rb := rb) 2 (.bool true)))
    have k2 := HS1.out.cells.2.2.1
    have l2 := HS1.out.free 2
    go_wp2_with fail
    generalize (w.setCell ⟨rb, 3, none⟩ (.int .i64 ((c : Int) + 1))).setCell ⟨rb, 2, none⟩ (.bool true) = W1 at HS2 HB2 ⊢
    clear k2 l2
  all_goals
    clear c0 c1 c2 c3 f3 HS1 HB1
    obtain ⟨c0, c1, c2, c3⟩ := HS2.out.cells
    go_quiet (fail)
    have HD3 := hideB (below_drewB (w := W1) nq)
    have HS3 := hideB (HS2.out.below HD3.out)
    have HB3 := hideB (HB2.out.trans (But.of_below HD3.out))
    generalize W1.drewN nq = W3 at HS3 HD3 HB3 ⊢
    clear nq c0 c1 c2 c3
    have HHD := hideB (shead_bad HS3.out hs)
    go_wp2_with fail
    refine HHD.out.mono ?_
    rintro e w4 ⟨hb4, ⟨a, b, rfl⟩, p4, hsc4⟩
    have HS4 := hideB hsc4
    have HB4 := hideB (HB3.out.trans hb4)
    have k2 := hsc4.cells.2.2.1
    have HN := hideB (sNull_any w4)
    clear hsc4 hb4
    go_wp2_with fail
    refine HN.out.mono ?_
    rintro e w5 ⟨rfl, _, hb⟩
    have HB5 := hideB hb
    clear hb
    go_wp2_with fail
    go_ret
    exact ⟨_, _, _, rfl, HB4.out.trans (But.of_below HB5.out), .inr ⟨rfl, c + 1, by omega, _, HS4.out.below HB5.out⟩⟩
end Go.Proofs.YtokhindolimchaaGreat

/-
  Values of the specification's reading: leaves.
-/
namespace Go.Proofs.YtokhindolimchaaGreat
open Go.RowKit
set_option linter.unusedSimpArgs false
set_option linter.unusedVariables false

theorem leaf_or {rb p c : Nat} {s : ByteArray} {w w1 w2 : World} {k n : Int} {t : ByteArray} {S : Option (List VN × Nat × Nat)} (hb : But rb w w1) (hs : ScAt w1 rb s p false c) (hn : Nest w1.heap.size w2 (.slice (some ⟨w1.heap.size, 0, none⟩) 1 1) (leafN k n t) (fun _ => .slice none 0 0) (fun _ => .slice none 0 0)) (hb2 : Below w1.heap.size w1 w2) (hS : S = some (leafN k n t, p, c)) :
    ValOr rb s S w (.returned (.slice (some ⟨w1.heap.size, 0, none⟩) 1 1)) w2 :=
  ⟨_, _, _, rfl, hb.trans (But.of_below hb2), .inl ⟨_, _, _, _, _, hS, rfl, hn.low hb.size, hs.below hb2⟩⟩

theorem ValOr.back {rb : Nat} {s : ByteArray} {S : Option (List VN × Nat × Nat)} {w w1 w2 : World} {e : Ending} (hb : But rb w w1) (h : ValOr rb s S w1 e w2) : ValOr rb s S w e w2 := by
  obtain ⟨a, n, c, h1, h2, h3⟩ := h
  refine ⟨a, n, c, h1, hb.trans h2, ?_⟩
  rcases h3 with ⟨ns, q, d, KV, IV, x1, x2, x3, x4⟩ | h3
  · exact .inl ⟨ns, q, d, KV, IV, x1, x2, x3.low hb.size, x4⟩
  · exact .inr h3
end Go.Proofs.YtokhindolimchaaGreat

/-
  The specification's l3Rc: a value, by the fuel.
-/
namespace Go.Proofs.YtokhindolimchaaGreat
open Go.RowKit
set_option linter.unusedSimpArgs false
set_option linter.unusedVariables false

theorem row_any {rb p c many deep : Nat} {s : ByteArray} {w : World} {named : Bool} {W : Nat → Option (ByteArray × Nat)} {S : Nat → Nat → Option (List VN × Nat × Nat)} (h : ScAt w rb s p false c) (hs : s.size ≤ 4000) (h1 : 1 ≤ c) (hc : c ≤ 80) (hmn : many ≤ 256000000000000255) (hd : deep ≤ 9) (HS : SpOk S) (HW : WOk W)
    (hv : deep ≤ 8 → ∀ w q d, ScAt w rb s q false d → d ≤ 80 → p ≤ q → Calls Tryz.prog 29 #[.pointer (some ⟨rb, 0, none⟩), .int .i64 deep] w (ValOr rb s (S q d) w))
    (hbad : deep ≤ 8 → ∀ w q d, ScAt w rb s q true d → d ≤ 80 → Calls Tryz.prog 29 #[.pointer (some ⟨rb, 0, none⟩), .int .i64 deep] w (ValOr rb s none w))
    (hw : ∀ q, p ≤ q → q ≤ s.size → W q = if s.size ≤ q then none else match headS s.data.toList q with | none => none | some (n, r) => if byAt s.data.toList q / 32 = 3 then takeS s.data.toList n r else none) :
    Calls Tryz.prog 62 #[.pointer (some ⟨rb, 0, none⟩), .int .i64 many, .bool named, .int .i64 deep] w (ValOr rb s (spRow W S named many deep p c) w) := by
  by_cases ho : 80 < many ∨ 8 < deep
  · refine (row_over h (by omega) hmn hd ho).mono ?_
    rintro e w' ⟨a, n, k, rfl, hb, hsp⟩
    refine ⟨a, n, k, rfl, hb, .inr ⟨?_, c, by omega, hsp⟩⟩
    unfold spRow
    rw [if_pos ho]
  · cases named
    · exact row_list h h1 hc (by omega) (by omega) HS (hv (by omega))
    · exact row_map h hs h1 hc (by omega) (by omega) HS HW (hv (by omega)) (hbad (by omega)) hw
theorem kind_0 {L : List UInt8} {W : Nat → Option (ByteArray × Nat)} {S : Nat → Nat → Option (List VN × Nat × Nat)} {n deep q c : Nat} : kindS L W S 0 n deep q c = some (leafN 3 n ByteArray.empty, q, c) := rfl
theorem kind_1 {L : List UInt8} {W : Nat → Option (ByteArray × Nat)} {S : Nat → Nat → Option (List VN × Nat × Nat)} {n deep q c : Nat} : kindS L W S 1 n deep q c = some (leafN 3 (-1 - (n : Int)) ByteArray.empty, q, c) := rfl
theorem kind_3 {L : List UInt8} {W : Nat → Option (ByteArray × Nat)} {S : Nat → Nat → Option (List VN × Nat × Nat)} {n deep q c : Nat} : kindS L W S 3 n deep q c = wordS L n q c := rfl
theorem kind_4 {L : List UInt8} {W : Nat → Option (ByteArray × Nat)} {S : Nat → Nat → Option (List VN × Nat × Nat)} {n deep q c : Nat} : kindS L W S 4 n deep q c = spRow W S false n deep q c := rfl
theorem kind_5 {L : List UInt8} {W : Nat → Option (ByteArray × Nat)} {S : Nat → Nat → Option (List VN × Nat × Nat)} {n deep q c : Nat} : kindS L W S 5 n deep q c = spRow W S true n deep q c := rfl
theorem kind_x {L : List UInt8} {W : Nat → Option (ByteArray × Nat)} {S : Nat → Nat → Option (List VN × Nat × Nat)} {A n deep q c : Nat} (h0 : A ≠ 0) (h1 : A ≠ 1) (h3 : A ≠ 3) (h4 : A ≠ 4) (h5 : A ≠ 5) : kindS L W S A n deep q c = none := by
  unfold kindS; rw [if_neg h0, if_neg h1, if_neg h3, if_neg h4, if_neg h5]

set_option maxRecDepth 100000 in
set_option maxHeartbeats 12800000 in
theorem value_any {rb : Nat} {s : ByteArray} (hs : s.size ≤ 4000) : ∀ (f deep p c : Nat) (w : World), ScAt w rb s p false c → c ≤ 80 → deep ≤ 8 → s.size + 1 ≤ p + f →
    Calls Tryz.prog 29 #[.pointer (some ⟨rb, 0, none⟩), .int .i64 deep] w (ValOr rb s (spC s.data.toList f deep p c) w) := by
  intro f
  induction f with
  | zero => intro deep p c w h hc hd hf; have := h.le; omega
  | succ f ih =>
    intro deep p c w h hc hd hf
    have hrb := h.lt
    have hle := h.le
    have HLN := hideB (len_is s)
    obtain ⟨c0, c1, c2, c3⟩ := h.cells
    have f3 := h.free 3
    have HS1 := hideB (h.setN (d := c + 1) (by omega))
    have e1 : ((c + 1 : Nat) : Int) = (c : Int) + 1 := by omega
    rw [e1] at HS1
    have HB1 := hideB (But.of_set (rb := rb) (a := w) 3 (.int .i64 ((c : Int) + 1)))
    have HIH := hideB ih
    clear h ih
    go_enter Tryz.func29, Tryz.ntmps29
    by_cases g : c + 1 ≤ 80
    rotate_left
    · have g' : (80 : Int) < (c : Int) + 1 := by omega
      have HNO : Hid (spC s.data.toList (f + 1) deep p c = none) := spC_end (.inl (by omega))
      have HS2 := hideB (HS1.out.setB true)
      have HB2 := hideB (HB1.out.trans (But.of_set (rb := rb) 2 (.bool true)))
      have k2 := HS1.out.cells.2.2.1
      have l2 := HS1.out.free 2
      go_wp2_with fail
      generalize (w.setCell ⟨rb, 3, none⟩ (.int .i64 ((c : Int) + 1))).setCell ⟨rb, 2, none⟩ (.bool true) = W1 at HS2 HB2 ⊢
      clear k2 l2
      clear c0 c1 c2 c3 f3 HS1 HB1
      obtain ⟨c0, c1, c2, c3⟩ := HS2.out.cells
      go_quiet (fail)
      have HD3 := hideB (below_drewB (w := W1) nq)
      have HS3 := hideB (HS2.out.below HD3.out)
      have HB3 := hideB (HB2.out.trans (But.of_below HD3.out))
      generalize W1.drewN nq = W3 at HS3 HD3 HB3 ⊢
      clear nq c0 c1 c2 c3
      have HHD := hideB (shead_bad HS3.out hs)
      go_wp2_with fail
      refine HHD.out.mono ?_
      rintro e w4 ⟨hb4, ⟨a, b, rfl⟩, p4, hsc4⟩
      have HS4 := hideB hsc4
      have HB4 := hideB (HB3.out.trans hb4)
      have k2 := hsc4.cells.2.2.1
      have HN := hideB (sNull_any w4)
      clear hsc4 hb4
      go_wp2_with fail
      refine HN.out.mono ?_
      rintro e w5 ⟨rfl, _, hb⟩
      have HB5 := hideB hb
      clear hb
      go_wp2_with fail
      go_ret
      exact ⟨_, _, _, rfl, HB4.out.trans (But.of_below HB5.out), .inr ⟨HNO.out, c + 1, by omega, _, HS4.out.below HB5.out⟩⟩
    have g' : ¬ (80 : Int) < (c : Int) + 1 := by omega
    go_wp2_with fail
    generalize w.setCell ⟨rb, 3, none⟩ (.int .i64 ((c : Int) + 1)) = W1 at HS1 HB1 ⊢
    clear c0 c1 c2 c3 f3 e1 g'
    obtain ⟨c0, c1, c2, c3⟩ := HS1.out.cells
    obtain ⟨C, hC⟩ : ∃ C, c + 1 = C := ⟨_, rfl⟩
    have HCC := hideB hC
    rw [hC] at HS1 c3 g
    have hC1 : 1 ≤ C := by omega
    clear hC
    by_cases hp : p < s.size
    focus
      have HGB : Hid (byAt s.data.toList p = s[p].toNat) := getB hp
      have hp' : decide ((p : Int) < (s.size : Int)) = true := by simp; omega
      have e1 : ((p : Int)).toNat = p := by omega
      obtain ⟨y, hy⟩ : ∃ y, s[p] = y := ⟨_, rfl⟩
      rw [hy] at HGB
      have hyl : y.toNat < 256 := y.toNat_lt
      by_cases hB : 244 ≤ y.toNat ∧ y.toNat ≤ 246
      focus
        have b1 : decide ((244 : Int) ≤ (y.toNat : Int)) = true := by simp; omega
        have b2 : decide ((y.toNat : Int) ≤ 246) = true := by simp; omega
        have HY : Hid (byAt s.data.toList p = y.toNat) := HGB.out
        have HPL : Hid (p < s.data.toList.length) := by rw [Hid, HLN.out]; exact hp
        go_quiet (fail)
        have HD3 := hideB (below_drewB (w := W1) nq)
        have HS3 := hideB (HS1.out.below HD3.out)
        have HB3 := hideB (HB1.out.trans (But.of_below HD3.out))
        generalize W1.drewN nq = W3 at HS3 HD3 HB3 ⊢
        clear nq c0 c1 c2 c3 b1 b2
        have k1 := HS3.out.cells.2.1
        have l1 := HS3.out.free 1
        have e5 : ((p + 1 : Nat) : Int) = (p : Int) + 1 := by omega
        have HS5 := hideB (HS3.out.setP (q := p + 1) (by omega))
        rw [e5] at HS5
        have HB5 := hideB (HB3.out.trans (But.of_set (rb := rb) 1 (.int .i64 ((p : Int) + 1))))
        go_wp2_with fail
        generalize W3.setCell ⟨rb, 1, none⟩ (.int .i64 ((p : Int) + 1)) = W5 at HS5 HB5 ⊢
        clear k1 l1
        obtain ⟨c0, c1, c2, c3⟩ := HS5.out.cells
        rw [e5] at c1
        have e6 : ((p : Int) + 1 - 1) = (p : Int) := by omega
        go_quiet (fail)
        have HD6 := hideB (below_drewB (w := W5) nq)
        have HS6 := hideB (HS5.out.below HD6.out)
        have HB6 := hideB (HB5.out.trans (But.of_below HD6.out))
        generalize W5.drewN nq = W6 at HS6 HD6 HB6 ⊢
        clear nq c0 c1 c2 c3 e5 e6
        by_cases y6 : y.toNat = 246
        · have y6' : (((y.toNat : Nat) : Int) == 246) = true := by simp; omega
          have HYES : Hid (spC s.data.toList (f + 1) deep p c = some (leafN 1 0 ByteArray.empty, p + 1, C)) := by rw [Hid, ← HCC.out]; exact spC_null HPL.out (by have := HCC.out; omega) (by rw [HY.out, y6])
          have HN := hideB (sNull_any W6)
          clear y6 hB
          go_wp2_with fail
          refine HN.out.mono ?_
          rintro e w7 ⟨rfl, hn, hb⟩
          have HN7 := hideB hn
          have HB7 := hideB hb
          clear hn hb
          go_wp2_with fail
          go_ret
          exact leaf_or HB6.out HS6.out HN7.out HB7.out HYES.out
        have y6' : (((y.toNat : Nat) : Int) == 246) = false := by simp; omega
        by_cases y5 : y.toNat = 245
        · have y5' : (((y.toNat : Nat) : Int) == 245) = true := by simp; omega
          have HYES : Hid (spC s.data.toList (f + 1) deep p c = some (leafN 2 1 ByteArray.empty, p + 1, C)) := by rw [Hid, ← HCC.out]; exact spC_yes HPL.out (by have := HCC.out; omega) (by rw [HY.out, y5])
          have HN := hideB (sBool_any true W6)
          clear y6 y5 hB
          go_wp2_with fail
          refine HN.out.mono ?_
          rintro e w7 ⟨rfl, hn, hb⟩
          have HN7 := hideB hn
          have HB7 := hideB hb
          clear hn hb
          go_wp2_with fail
          go_ret
          exact leaf_or HB6.out HS6.out HN7.out HB7.out HYES.out
        · have y5' : (((y.toNat : Nat) : Int) == 245) = false := by simp; omega
          have HYES : Hid (spC s.data.toList (f + 1) deep p c = some (leafN 2 0 ByteArray.empty, p + 1, C)) := by rw [Hid, ← HCC.out]; exact spC_no HPL.out (by have := HCC.out; omega) (by rw [HY.out]; omega)
          have HN := hideB (sBool_any false W6)
          clear y6 y5 hB
          go_wp2_with fail
          refine HN.out.mono ?_
          rintro e w7 ⟨rfl, hn, hb⟩
          have HN7 := hideB hn
          have HB7 := hideB hb
          clear hn hb
          go_wp2_with fail
          go_ret
          exact leaf_or HB6.out HS6.out HN7.out HB7.out HYES.out
      focus
        have HPL : Hid (p < s.data.toList.length) := by rw [Hid, HLN.out]; exact hp
        have HSPE : Hid (spC s.data.toList (f + 1) deep p c = match headS s.data.toList p with | none => none | some (n, q) => kindS s.data.toList (spWc s.data.toList f) (spC s.data.toList f (deep + 1)) (byAt s.data.toList p / 32) n (deep + 1) q (c + 1)) := spC_head HPL.out (by have := HCC.out; omega) (by rw [HGB.out]; omega)
        have HSPN : Hid ((p < s.size → headS s.data.toList p = none) → spC s.data.toList (f + 1) deep p c = none) := fun hx => by rw [HSPE.out, hx hp]
        have HSPY : Hid (∀ n q, headS s.data.toList p = some (n, q) → p < s.size → spC s.data.toList (f + 1) deep p c = kindS s.data.toList (spWc s.data.toList f) (spC s.data.toList f (deep + 1)) (byAt s.data.toList p / 32) n (deep + 1) q C) := fun n q hx _ => by rw [HSPE.out, hx, ← HCC.out]
        clear HSPE HPL
        by_cases b1 : 244 ≤ y.toNat
        focus
          have b1' : decide ((244 : Int) ≤ (y.toNat : Int)) = true := by simp; omega
          have b2 : decide ((y.toNat : Int) ≤ 246) = false := by simp; omega
          go_quiet (fail)
        rotate_left
        focus
          have b1' : decide ((244 : Int) ≤ (y.toNat : Int)) = false := by simp; omega
          go_quiet (fail)
    rotate_left 2
    focus
      have hp' : decide ((p : Int) < (s.size : Int)) = false := by simp; omega
      have HSPN : Hid ((p < s.size → headS s.data.toList p = none) → spC s.data.toList (f + 1) deep p c = none) := fun hx => spC_end (.inr (by rw [HLN.out]; omega))
      have HSPY : Hid (∀ n q, headS s.data.toList p = some (n, q) → p < s.size → spC s.data.toList (f + 1) deep p c = kindS s.data.toList (spWc s.data.toList f) (spC s.data.toList f (deep + 1)) (byAt s.data.toList p / 32) n (deep + 1) q C) := fun n q _ hx => absurd hx hp
      go_quiet (fail)
      clear hp hp'
    all_goals
      have HD3 := hideB (below_drewB (w := W1) nq)
      have HS3 := hideB (HS1.out.below HD3.out)
      have HB3 := hideB (HB1.out.trans (But.of_below HD3.out))
      generalize W1.drewN nq = W3 at HS3 HD3 HB3 ⊢
      clear nq c0 c1 c2 c3
      have HHD := hideB (shead_any HS3.out hs)
      go_wp2_with fail
      refine HHD.out.mono ?_
      rintro e w4 ⟨b4, hor⟩
      have HB4 := hideB (HB3.out.trans b4)
      clear b4 HHD
      rcases hor with ⟨n, q, hps, hhd, rfl, hsc4, hn⟩ | ⟨hno, ⟨a1, n1, rfl, hn1, hn2⟩, p4, hsc4⟩
      rotate_left
      · have HNO := hideB (HSPN.out hno)
        have HS4 := hideB hsc4
        have k2 := hsc4.cells.2.2.1
        have HN := hideB (sNull_any w4)
        clear hsc4 hno
        go_wp2_with fail
        refine HN.out.mono ?_
        rintro e w5 ⟨rfl, _, hb⟩
        have HB5 := hideB hb
        clear hb
        go_wp2_with fail
        go_ret
        exact ⟨_, _, _, rfl, HB4.out.trans (But.of_below HB5.out), .inr ⟨HNO.out, C, by omega, _, HS4.out.below HB5.out⟩⟩
      have HK := hideB (HSPY.out n q hhd hps)
      have hpq : p < q := (head_fine (by rw [HLN.out]; exact hps) hhd).2.1
      have HS4 := hideB hsc4
      have k2 := hsc4.cells.2.2.1
      have f2 := hsc4.free 2
      have hqs := hsc4.le
      clear hsc4 hhd HSPN HSPY
      obtain ⟨A, hA⟩ : ∃ A, byAt s.data.toList p / 32 = A := ⟨_, rfl⟩
      rw [hA] at HK ⊢
      clear hA
      by_cases A0 : A = 0
      · subst A0
        rw [kind_0] at HK
        have HN := hideB (sNumber_any (n : Int) w4)
        go_wp2_with fail
        refine HN.out.mono ?_
        rintro e w7 ⟨rfl, hn7, hb⟩
        have HN7 := hideB hn7
        have HB7 := hideB hb
        clear hn7 hb
        go_wp2_with fail
        go_ret
        exact leaf_or HB4.out HS4.out HN7.out HB7.out HK.out
      have A0' : (((A : Nat) : Int) == 0) = false := by simp; omega
      by_cases A1 : A = 1
      · subst A1
        rw [kind_1] at HK
        have HN := hideB (sNumber_any (-1 - (n : Int)) w4)
        go_wp2_with fail
        refine HN.out.mono ?_
        rintro e w7 ⟨rfl, hn7, hb⟩
        have HN7 := hideB hn7
        have HB7 := hideB hb
        clear hn7 hb
        go_wp2_with fail
        go_ret
        exact leaf_or HB4.out HS4.out HN7.out HB7.out HK.out
      have A1' : (((A : Nat) : Int) == 1) = false := by simp; omega
      by_cases A3 : A = 3
      · subst A3
        rw [kind_3] at HK
        have HTK := hideB (stake_any (n := (n : Int)) HS4.out hs (by omega) (by omega))
        go_wp2_with fail
        refine HTK.out.mono ?_
        rintro e w5 ⟨key, q5, b5, rfl, hb5, hsc5, _, hall⟩
        have HB5 := hideB (HB4.out.trans hb5)
        have HS5 := hideB hsc5
        have HAL := hideB hall
        have HN := hideB (sWord_any key w5)
        clear hb5 hsc5 hall HTK
        go_wp2_with fail
        refine HN.out.mono ?_
        rintro e w7 ⟨rfl, hn7, hb⟩
        have HN7 := hideB hn7
        have HB7 := hideB hb
        clear hn7 hb
        go_wp2_with fail
        go_ret
        rcases HAL.out n (by first | rfl | trivial) (by first | rfl | trivial) with ⟨x1, x2⟩ | ⟨x1, x2⟩
        · subst x2
          exact leaf_or HB5.out HS5.out HN7.out HB7.out (by rw [HK.out, wordS, x1])
        · subst x2
          exact ⟨_, _, _, rfl, HB5.out.trans (But.of_below HB7.out), .inr ⟨by rw [HK.out, wordS, x1], C, by omega, _, HS5.out.below HB7.out⟩⟩
      have A3' : (((A : Nat) : Int) == 3) = false := by simp; omega
      have e9 : ((deep + 1 : Nat) : Int) = (deep : Int) + 1 := by omega
      have HW : Hid (∀ r, q ≤ r → r ≤ s.size → spWc s.data.toList f r = if s.size ≤ r then none else match headS s.data.toList r with | none => none | some (n, z) => if byAt s.data.toList r / 32 = 3 then takeS s.data.toList n z else none) := fun r h1 h2 => by
        obtain ⟨g, rfl⟩ : ∃ g, f = g + 1 := ⟨f - 1, by omega⟩
        rw [spWc, HLN.out]
        rfl
      have HROW := hideB (fun (named : Bool) => row_any (named := named) (many := n) (deep := deep + 1) HS4.out hs hC1 g hn (by omega) (ok_cbor s.data.toList f (deep + 1)) (wok_cbor s.data.toList f) (fun hd8 w' q' d' x1 x2 x3 => HIH.out (deep + 1) q' d' w' x1 x2 hd8 (by omega)) (fun hd8 w' q' d' x1 x2 => value_spoilt x1 hs x2 hd8) HW.out)
      rw [e9] at HROW
      clear HW e9
      by_cases A4 : A = 4
      · subst A4
        rw [kind_4] at HK
        have HRR := hideB (HROW.out false)
        go_wp2_with fail
        refine HRR.out.mono ?_
        rintro e w5 hvo
        have HVO := hideB (hvo.back HB4.out)
        obtain ⟨a5, n5, c5, rfl, _, _⟩ := hvo
        go_wp2_with fail
        go_ret
        rw [HK.out]
        exact HVO.out
      have A4' : (((A : Nat) : Int) == 4) = false := by simp; omega
      by_cases A5 : A = 5
      · subst A5
        rw [kind_5] at HK
        have HRR := hideB (HROW.out true)
        go_wp2_with fail
        refine HRR.out.mono ?_
        rintro e w5 hvo
        have HVO := hideB (hvo.back HB4.out)
        obtain ⟨a5, n5, c5, rfl, _, _⟩ := hvo
        go_wp2_with fail
        go_ret
        rw [HK.out]
        exact HVO.out
      have A5' : (((A : Nat) : Int) == 5) = false := by simp; omega
      rw [kind_x A0 A1 A3 A4 A5] at HK
      have HS5 := hideB (HS4.out.setB true)
      have HB5 := hideB (HB4.out.trans (But.of_set (rb := rb) 2 (.bool true)))
      clear A0 A1 A3 A4 A5
      go_wp2_with fail
      generalize w4.setCell ⟨rb, 2, none⟩ (.bool true) = W5 at HS5 HB5 ⊢
      refine (sNull_any W5).mono ?_
      rintro e w7 ⟨rfl, _, hb⟩
      have HB7 := hideB hb
      clear hb
      go_wp2_with fail
      go_ret
      exact ⟨_, _, _, rfl, HB5.out.trans (But.of_below HB7.out), .inr ⟨HK.out, C, by omega, _, HS5.out.below HB7.out⟩⟩
end Go.Proofs.YtokhindolimchaaGreat
