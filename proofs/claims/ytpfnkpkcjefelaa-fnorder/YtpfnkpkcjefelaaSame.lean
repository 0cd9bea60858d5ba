/-
  The law's own comparison of two rows of nodes: it says true just where they are the same.
-/
import Derived.Test.YtpfnkpkcjefelaaOrdZ
import Derived.Test.YtpfnkpkcjefelaaProg
import Derived.Deep.QuietTactic
import Derived.BigQuiet
import Derived.WalkSmall
import Derived.Deep.RegionWith
namespace Go.Proofs.Ytpfnkpkcjefelaa
open Go.RowKit
set_option linter.unusedSimpArgs false
set_option linter.unusedVariables false

theorem strs_eq {a b : List ByteArray} (hl : a.length = b.length) (h : ∀ j, j < a.length → keyAt a j = keyAt b j) : a = b := by
  refine List.ext_getElem hl fun i h1 h2 => ?_
  have := h i h1
  simpa [keyAt, h1, h2] using this

theorem ints_eq {a b : List Int} (hl : a.length = b.length) (h : ∀ j, j < a.length → intAt a j = intAt b j) : a = b := by
  refine List.ext_getElem hl fun i h1 h2 => ?_
  have := h i h1
  simpa [intAt, h1, h2] using this

theorem nodes_eq {a b : List VN} (hl : a.length = b.length) (h : ∀ j, j < a.length → nodeAt a j = nodeAt b j) : a = b := by
  refine List.ext_getElem hl fun i h1 h2 => ?_
  have := h i h1
  simpa [nodeAt, h1, h2] using this

theorem vn_eq {x y : VN} (h1 : x.kind = y.kind) (h2 : x.n = y.n) (h3 : x.s = y.s) (h4 : x.keys = y.keys) (h5 : x.kids = y.kids) : x = y := by
  cases x; cases y; simp_all

theorem bytes_eq {a b : ByteArray} (h : (a.toList == b.toList) = true) : a = b := by
  have e : a.toList = b.toList := eq_of_beq h
  rw [Lib.toList_data, Lib.toList_data] at e
  rw [← Lib.mk_data a, ← Lib.mk_data b, e]

theorem nodes_ne {us vs : List VN} {k : Nat} (h : nodeAt us k ≠ nodeAt vs k) : ¬ us = vs := fun e => h (by rw [e])

theorem ret_no {p : Prop} (h : ¬ p) : ∃ b, Ending.returned (.bool false) = .returned (.bool b) ∧ (b = true ↔ p) := ⟨false, rfl, by simp [h]⟩

set_option maxRecDepth 100000 in
set_option maxHeartbeats 4000000 in
theorem same_any (B : Nat) (v1 v2 : Value) (us vs : List VN) (w : World) (h1 : NodesAt B w v1 us) (h2 : NodesAt B w v2 vs) (hB : B ≤ w.heap.size) :
    Calls Try.prog 19 #[v1, v2] w fun e w' => (∃ b, e = .returned (.bool b) ∧ (b = true ↔ us = vs)) ∧ Below w.heap.size w w' := by
  obtain ⟨hlen, a1, cap1, rfl, hcell1⟩ := h1
  obtain ⟨hlen2, a2, cap2, rfl, hcell2⟩ := h2
  have HC1 := hideIt hcell1
  have HC2 := hideIt hcell2
  clear hcell1 hcell2
  by_cases hl : us.length = vs.length
  case neg =>
    have hne : ((us.length : Int) != (vs.length : Int)) = true := by simp; omega
    have HO : Hid (¬ us = vs) := fun e => hl (by rw [e])
    clear hl
    go_enter Try.func19, Try.ntmps19
    go_wp2_with fail
    go_ret
    exact ⟨ret_no HO.out, Below.refl _ _⟩
  case pos =>
  obtain ⟨N, hN⟩ : ∃ N, us.length = N := ⟨_, rfl⟩
  have HN1 := hideIt hN
  have HN2 := hideIt (hl.symm.trans hN)
  rw [← hl, hN]
  rw [hN] at hlen
  clear hl hN hlen2
  have hne : ((N : Int) != (N : Int)) = false := by simp
  go_enter Try.func19, Try.ntmps19
  go_wp2_with fail
  go_loopw [5] (fun i wr => ∃ k : Nat, k ≤ N ∧ i = .int .i64 k ∧ Hid (∀ j, j < k → nodeAt us j = nodeAt vs j) ∧ Below w.heap.size w wr) (fun i _ => N - (intOf i).toNat)
  case atStart => exact ⟨0, Nat.zero_le _, rfl, fun j hj => absurd hj (by omega), Below.refl _ _⟩
  case round =>
    obtain ⟨k, hk, rfl, HE, hbel⟩ := hrel
    by_cases hlt : k < N
    case neg =>
      have HO : Hid (us = vs) := nodes_eq (HN1.out.trans HN2.out.symm) (fun j hj => HE.out j (by have := HN1.out; omega))
      go_wp2_with fail
      go_ret
      exact ⟨⟨true, rfl, by simp [HO.out]⟩, hbel⟩
    case pos =>
    obtain ⟨b1, o1, rfl, hb1, hc1⟩ := HC1.out (by have := HN1.out; omega)
    obtain ⟨b2, o2, rfl, hb2, hc2⟩ := HC2.out (by have := HN2.out; omega)
    obtain ⟨ka, ki, hn⟩ := hc1 k (by have := HN1.out; omega)
    obtain ⟨ka', ki', hn'⟩ := hc2 k (by have := HN2.out; omega)
    have g := hn.below (hbel.mono hB) hb1
    have g' := hn'.below (hbel.mono hB) hb2
    clear hc1 hc2 hn hn'
    have HG := hideIt g
    have HG' := hideIt g'
    obtain ⟨kl1, ks1, ak1, ck1, e1, hkc1⟩ := g.inn.keys
    obtain ⟨il1, is1, ai1, ci1, e2, hic1⟩ := g.inn.kids
    obtain ⟨kl2, ks2, ak2, ck2, e3, hkc2⟩ := g'.inn.keys
    obtain ⟨il2, is2, ai2, ci2, e4, hic2⟩ := g'.inn.kids
    subst e1 e2 e3 e4
    have c0 := g.c0
    have c1 := g.c1
    have c2 := g.c2
    have c3 := g.c3
    have c4 := g.c4
    have d0 := g'.c0
    have d1 := g'.c1
    have d2 := g'.c2
    have d3 := g'.c3
    have d4 := g'.c4
    clear g g'
    have HEQ : Hid (∀ p : Prop, (nodeAt us k = nodeAt vs k → p) → ¬ p → ¬ us = vs) := fun p h1 h2 => nodes_ne (fun e => h2 (h1 e))
    have hsize := hbel.size
    have HKC1 := hideIt hkc1
    have HKC2 := hideIt hkc2
    have HIC1 := hideIt hic1
    have HIC2 := hideIt hic2
    clear hkc1 hkc2 hic1 hic2 ks1 ks2 is1 is2
    obtain ⟨x, hx⟩ : ∃ x, nodeAt us k = x := ⟨_, rfl⟩
    obtain ⟨y, hy⟩ : ∃ y, nodeAt vs k = y := ⟨_, rfl⟩
    rw [hx] at c0 c1 c2 c3 c4 HKC1 HIC1 HEQ HG
    rw [hy] at d0 d1 d2 d3 d4 HKC2 HIC2 HEQ HG'
    have kl1' : x.keys.length ≤ 8796093022208 := by rw [← hx]; exact kl1
    have kl2' : y.keys.length ≤ 8796093022208 := by rw [← hy]; exact kl2
    have il1' : x.kids.length ≤ 17592186044416 := by rw [← hx]; exact il1
    have il2' : y.kids.length ≤ 17592186044416 := by rw [← hy]; exact il2
    have HX := hideIt hx
    have HY := hideIt hy
    clear hx hy kl1 kl2 il1 il2
    by_cases q1 : x.kind = y.kind
    case neg =>
      have f1 : (x.kind != y.kind) = true := by simpa using q1
      have HO := hideIt (HEQ.out _ (fun e => by rw [e]) q1)
      clear q1
      go_wp2_with fail
      refine wp_region_quiet_lit (by kernel_rfl) (by kernel_rfl) ?_
      simp only [List.append_eq, List.cons_append, List.nil_append]
      repeat (go_big_quiet_step (fail))
      refine wpQuiet_nil ?_
      intro _ hw'
      obtain ⟨nq, hw''⟩ := hw'
      subst hw''
      go_wp2_with fail
      go_ret
      exact ⟨ret_no HO.out, below_drewN hbel nq⟩
    case pos =>
    have f1 : (x.kind != y.kind) = false := by simpa using q1
    have Q1 := hideIt q1
    clear q1
    by_cases q2 : x.n = y.n
    case neg =>
      have f2 : (x.n != y.n) = true := by simpa using q2
      have HO := hideIt (HEQ.out _ (fun e => by rw [e]) q2)
      clear q2
      go_wp2_with fail
      refine wp_region_quiet_lit (by kernel_rfl) (by kernel_rfl) ?_
      simp only [List.append_eq, List.cons_append, List.nil_append]
      repeat (go_big_quiet_step (fail))
      refine wpQuiet_nil ?_
      intro _ hw'
      obtain ⟨nq, hw''⟩ := hw'
      subst hw''
      go_wp2_with fail
      go_ret
      exact ⟨ret_no HO.out, below_drewN hbel nq⟩
    case pos =>
    have f2 : (x.n != y.n) = false := by simpa using q2
    have Q2 := hideIt q2
    clear q2
    by_cases f3 : (x.s.toList == y.s.toList) = true
    case neg =>
      have f3' : (x.s.toList == y.s.toList) = false := by simpa using f3
      have HO := hideIt (HEQ.out ((x.s.toList == y.s.toList) = true) (fun e => by rw [e]; simp) f3)
      clear f3
      go_wp2_with fail
      refine wp_region_quiet_lit (by kernel_rfl) (by kernel_rfl) ?_
      simp only [List.append_eq, List.cons_append, List.nil_append]
      repeat (go_big_quiet_step (fail))
      refine wpQuiet_nil ?_
      intro _ hw'
      obtain ⟨nq, hw''⟩ := hw'
      subst hw''
      go_wp2_with fail
      go_ret
      exact ⟨ret_no HO.out, below_drewN hbel nq⟩
    case pos =>
    by_cases q4 : x.keys.length = y.keys.length
    case neg =>
      have f4 : ((x.keys.length : Int) != (y.keys.length : Int)) = true := by simp; omega
      have HO := hideIt (HEQ.out _ (fun e => by rw [e]) q4)
      clear q4
      go_wp2_with fail
      refine wp_region_quiet_lit (by kernel_rfl) (by kernel_rfl) ?_
      simp only [List.append_eq, List.cons_append, List.nil_append]
      repeat (go_big_quiet_step (fail))
      refine wpQuiet_nil ?_
      intro _ hw'
      obtain ⟨nq, hw''⟩ := hw'
      subst hw''
      go_wp2_with fail
      go_ret
      exact ⟨ret_no HO.out, below_drewN hbel nq⟩
    case pos =>
    by_cases q5 : x.kids.length = y.kids.length
    case neg =>
      have f4 : ((x.keys.length : Int) != (y.keys.length : Int)) = false := by simp; omega
      have f5 : ((x.kids.length : Int) != (y.kids.length : Int)) = true := by simp; omega
      have HO := hideIt (HEQ.out _ (fun e => by rw [e]) q5)
      clear q5 q4
      go_wp2_with fail
      refine wp_region_quiet_lit (by kernel_rfl) (by kernel_rfl) ?_
      simp only [List.append_eq, List.cons_append, List.nil_append]
      repeat (go_big_quiet_step (fail))
      refine wpQuiet_nil ?_
      intro _ hw'
      obtain ⟨nq, hw''⟩ := hw'
      subst hw''
      go_wp2_with fail
      go_ret
      exact ⟨ret_no HO.out, below_drewN hbel nq⟩
    case pos =>
    have Q4 := hideIt q4
    have Q5 := hideIt q5
    obtain ⟨P, hP⟩ : ∃ P, x.keys.length = P := ⟨_, rfl⟩
    obtain ⟨Q, hQ⟩ : ∃ Q, x.kids.length = Q := ⟨_, rfl⟩
    rw [← q4, hP] at d3
    rw [← q5, hQ] at d4
    rw [hP] at c3
    rw [hQ] at c4
    have HP := hideIt hP
    have HQ := hideIt hQ
    have hP' : P ≤ 8796093022208 := by omega
    have hQ' : Q ≤ 17592186044416 := by omega
    clear q4 q5 kl1' kl2' il1' il2' hP hQ
    have f4 : ((P : Int) != (P : Int)) = false := by simp
    have f5 : ((Q : Int) != (Q : Int)) = false := by simp
    have HCL : Hid (∀ W, Below w.heap.size w W → ∀ o, W.cell? ⟨b1, o, none⟩ = wr.cell? ⟨b1, o, none⟩ ∧ W.cell? ⟨b2, o, none⟩ = wr.cell? ⟨b2, o, none⟩) := fun W hW o =>
      ⟨(below_cell hW (by omega)).trans (below_cell hbel (by omega)).symm, (below_cell hW (by omega)).trans (below_cell hbel (by omega)).symm⟩
    have C3 := hideIt c3
    have C4 := hideIt c4
    have D3 := hideIt d3
    have D4 := hideIt d4
    go_wp2_with fail
    refine wp_region_quiet_lit (by kernel_rfl) (by kernel_rfl) ?_
    simp only [List.append_eq, List.cons_append, List.nil_append]
    repeat (go_big_quiet_step (fail))
    refine wpQuiet_nil ?_
    intro _ hw'
    obtain ⟨nq, hw''⟩ := hw'
    subst hw''
    have hbq := below_drewN hbel nq
    obtain ⟨W0, hW0⟩ : ∃ W0, W0 = wr := ⟨_, rfl⟩
    rw [← hW0] at HCL C3 C4 D3 D4 HKC1 HKC2 HIC1 HIC2 HG HG'
    generalize wr.drewN nq = W1 at hbq ⊢
    have HW0 : Hid (Below w.heap.size w W0) := by rw [Hid, hW0]; exact hbel
    clear c0 c1 c2 c3 c4 d0 d1 d2 d3 d4 hW0 hbel
    go_wp2_with fail
    go_loopw [6] (fun i wr => ∃ q : Nat, q ≤ P ∧ i = .int .i64 q ∧ Hid (∀ j, j < q → keyAt x.keys j = keyAt y.keys j) ∧ Below w.heap.size w wr) (fun i _ => P - (intOf i).toNat)
    case atStart => exact ⟨0, Nat.zero_le _, rfl, fun j hj => absurd hj (by omega), hbq⟩
    case round =>
      obtain ⟨q, hq, rfl, HQE, hbr⟩ := hrel
      have e3 := ((HCL.out _ hbr _).1).trans C3.out
      have t3 := ((HCL.out _ hbr _).2).trans D3.out
      by_cases hlq : q < P
      case neg =>
        obtain rfl : q = P := by omega
        go_wp2_with fail
        clear e3 t3
        obtain ⟨W2, rfl⟩ : ∃ W2, W2 = wr := ⟨_, rfl⟩
        go_loopw [7] (fun i wr => ∃ p : Nat, p ≤ Q ∧ i = .int .i64 p ∧ Hid (∀ j, j < p → intAt x.kids j = intAt y.kids j) ∧ Below w.heap.size w wr) (fun i _ => Q - (intOf i).toNat)
        case atStart => exact ⟨0, Nat.zero_le _, rfl, fun j hj => absurd hj (by omega), hbr⟩
        case round =>
          obtain ⟨p, hp, rfl, HPE, hbs⟩ := hrel
          have e4 := ((HCL.out _ hbs _).1).trans C4.out
          have t4 := ((HCL.out _ hbs _).2).trans D4.out
          by_cases hlp : p < Q
          case neg =>
            have HXY : Hid (x = y) := vn_eq Q1.out Q2.out (bytes_eq f3) (strs_eq Q4.out (fun j hj => HQE.out j (by have := HP.out; omega))) (ints_eq Q5.out (fun j hj => HPE.out j (by have := HQ.out; omega)))
            have HE2 : Hid (∀ j, j < k + 1 → nodeAt us j = nodeAt vs j) := fun j hj => by
              by_cases e : j = k
              · subst e; rw [HX.out, HY.out]; exact HXY.out
              · exact HE.out j (by omega)
            go_wp2_with fail
            go_roundw
            case rel => exact ⟨k + 1, by omega, by go_num, HE2, hbs⟩
            case measure => simp [intOf]; omega
          case pos =>
          obtain ⟨b3, o3, rfl, hb3, hc3⟩ := HIC1.out (by have := HQ.out; omega)
          obtain ⟨b4, o4, rfl, hb4, hc4⟩ := HIC2.out (by have := HQ.out; have := Q5.out; omega)
          have r1 := ((below_cell (o := o3 + p) hbs (show b3 < w.heap.size by omega)).trans (below_cell HW0.out (show b3 < w.heap.size by omega)).symm).trans (hc3 p (by have := HQ.out; omega))
          have r2 := ((below_cell (o := o4 + p) hbs (show b4 < w.heap.size by omega)).trans (below_cell HW0.out (show b4 < w.heap.size by omega)).symm).trans (hc4 p (by have := HQ.out; have := Q5.out; omega))
          clear hc3 hc4
          by_cases hke : intAt x.kids p = intAt y.kids p
          case neg =>
            have f6 : (intAt x.kids p != intAt y.kids p) = true := by simpa using hke
            have HO := hideIt (HEQ.out _ (fun e => by rw [e]) hke)
            clear hke
            go_wp2_with fail
            go_quiet (fail)
            go_wp2_with fail
            go_ret
            exact ⟨ret_no HO.out, below_drewN hbs nq⟩
          case pos =>
          have f6 : (intAt x.kids p != intAt y.kids p) = false := by simpa using hke
          have HPE2 : Hid (∀ j, j < p + 1 → intAt x.kids j = intAt y.kids j) := fun j hj => by
            by_cases e : j = p
            · subst e; exact hke
            · exact HPE.out j (by omega)
          clear hke
          go_wp2_with fail
          go_quiet (fail)
          go_wp2_with fail
          go_roundw
          case rel => exact ⟨p + 1, by omega, by go_num, HPE2, below_drewN hbs nq⟩
          case measure => simp [intOf]; omega
      case pos =>
      obtain ⟨b3, o3, rfl, hb3, hc3⟩ := HKC1.out (by have := HP.out; omega)
      obtain ⟨b4, o4, rfl, hb4, hc4⟩ := HKC2.out (by have := HP.out; have := Q4.out; omega)
      have r1 := ((below_cell (o := o3 + q) hbr (show b3 < w.heap.size by omega)).trans (below_cell HW0.out (show b3 < w.heap.size by omega)).symm).trans (hc3 q (by have := HP.out; omega))
      have r2 := ((below_cell (o := o4 + q) hbr (show b4 < w.heap.size by omega)).trans (below_cell HW0.out (show b4 < w.heap.size by omega)).symm).trans (hc4 q (by have := HP.out; have := Q4.out; omega))
      clear hc3 hc4
      by_cases hke : ((keyAt x.keys q).toList == (keyAt y.keys q).toList) = true
      case neg =>
        have f6 : ((keyAt x.keys q).toList == (keyAt y.keys q).toList) = false := by simpa using hke
        have HO := hideIt (HEQ.out (((keyAt x.keys q).toList == (keyAt y.keys q).toList) = true) (fun e => by rw [e]; simp) hke)
        clear hke
        go_wp2_with fail
        go_quiet (fail)
        go_wp2_with fail
        go_ret
        exact ⟨ret_no HO.out, below_drewN hbr nq⟩
      case pos =>
      have HQE2 : Hid (∀ j, j < q + 1 → keyAt x.keys j = keyAt y.keys j) := fun j hj => by
        by_cases e : j = q
        · subst e; exact bytes_eq hke
        · exact HQE.out j (by omega)
      go_wp2_with fail
      go_quiet (fail)
      go_wp2_with fail
      go_roundw
      case rel => exact ⟨q + 1, by omega, by go_num, HQE2, below_drewN hbr nq⟩
      case measure => simp [intOf]; omega
end Go.Proofs.Ytpfnkpkcjefelaa
