/-
  The law's own comparison of two rows of nodes: it says true just where they are the same.
-/
import Derived.Test.YtpakfgonemiebaaOrdZ
import Derived.Test.YtpakfgonemiebaaProg
import Derived.Deep.QuietTactic
import Derived.BigQuiet
import Derived.WalkSmall
import Derived.Deep.RegionWith
import Derived.Test.YtpakfgonemiebaaPathsP
import Derived.Test.YtpakfgonemiebaaNdS
import Derived.Test.YtpakfgonemiebaaWthP
import Derived.Test.YtpakfgonemiebaaSParts
import Derived.Lib.Strings
namespace Go.Proofs.Ytpakfgonemiebaa
open Go.RowKit
set_option linter.unusedSimpArgs false
set_option linter.unusedVariables false

theorem strs_eq {a b : List ByteArray} (hl : a.length = b.length) (h : ∀ j, j < a.length → keyAt a j = keyAt b j) : a = b := by
  refine List.ext_getElem hl fun i h1 h2 => ?_
  have := h i h1
  simpa [keyAt, h1, h2] using this

theorem ints_eq {a b : List Int} (hl : a.length = b.length) (h : ∀ j, j < a.length → intAt a j = intAt b j) : a = b := by
  refine List.ext_getElem hl fun i h1 h2 => ?_
  have := h i h1
  simpa [intAt, h1, h2] using this

theorem nodes_eq {a b : List VN} (hl : a.length = b.length) (h : ∀ j, j < a.length → nodeAt a j = nodeAt b j) : a = b := by
  refine List.ext_getElem hl fun i h1 h2 => ?_
  have := h i h1
  simpa [nodeAt, h1, h2] using this

theorem vn_eq {x y : VN} (h1 : x.kind = y.kind) (h2 : x.n = y.n) (h3 : x.s = y.s) (h4 : x.keys = y.keys) (h5 : x.kids = y.kids) : x = y := by
  cases x; cases y; simp_all

theorem bytes_eq {a b : ByteArray} (h : (a.toList == b.toList) = true) : a = b := by
  have e : a.toList = b.toList := eq_of_beq h
  rw [Lib.toList_data, Lib.toList_data] at e
  rw [← Lib.mk_data a, ← Lib.mk_data b, e]

theorem nodes_ne {us vs : List VN} {k : Nat} (h : nodeAt us k ≠ nodeAt vs k) : ¬ us = vs := fun e => h (by rw [e])

theorem ret_no {p : Prop} (h : ¬ p) : ∃ b, Ending.returned (.bool false) = .returned (.bool b) ∧ (b = true ↔ p) := ⟨false, rfl, by simp [h]⟩

set_option maxRecDepth 100000 in
set_option maxHeartbeats 4000000 in
theorem same_any (B : Nat) (v1 v2 : Value) (us vs : List VN) (w : World) (h1 : NodesAt B w v1 us) (h2 : NodesAt B w v2 vs) (hB : B ≤ w.heap.size) :
    Calls Try.prog 13 #[v1, v2] w fun e w' => (∃ b, e = .returned (.bool b) ∧ (b = true ↔ us = vs)) ∧ Below w.heap.size w w' := by
  obtain ⟨hlen, a1, cap1, rfl, hcell1⟩ := h1
  obtain ⟨hlen2, a2, cap2, rfl, hcell2⟩ := h2
  have HC1 := hideIt hcell1
  have HC2 := hideIt hcell2
  clear hcell1 hcell2
  by_cases hl : us.length = vs.length
  case neg =>
    have hne : ((us.length : Int) != (vs.length : Int)) = true := by simp; omega
    have HO : Hid (¬ us = vs) := fun e => hl (by rw [e])
    clear hl
    go_enter Try.func13, Try.ntmps13
    go_wp2_with fail
    go_ret
    exact ⟨ret_no HO.out, Below.refl _ _⟩
  case pos =>
  obtain ⟨N, hN⟩ : ∃ N, us.length = N := ⟨_, rfl⟩
  have HN1 := hideIt hN
  have HN2 := hideIt (hl.symm.trans hN)
  rw [← hl, hN]
  rw [hN] at hlen
  clear hl hN hlen2
  have hne : ((N : Int) != (N : Int)) = false := by simp
  go_enter Try.func13, Try.ntmps13
  go_wp2_with fail
  go_loopw [5] (fun i wr => ∃ k : Nat, k ≤ N ∧ i = .int .i64 k ∧ Hid (∀ j, j < k → nodeAt us j = nodeAt vs j) ∧ Below w.heap.size w wr) (fun i _ => N - (intOf i).toNat)
  case atStart => exact ⟨0, Nat.zero_le _, rfl, fun j hj => absurd hj (by omega), Below.refl _ _⟩
  case round =>
    obtain ⟨k, hk, rfl, HE, hbel⟩ := hrel
    by_cases hlt : k < N
    case neg =>
      have HO : Hid (us = vs) := nodes_eq (HN1.out.trans HN2.out.symm) (fun j hj => HE.out j (by have := HN1.out; omega))
      go_wp2_with fail
      go_ret
      exact ⟨⟨true, rfl, by simp [HO.out]⟩, hbel⟩
    case pos =>
    obtain ⟨b1, o1, rfl, hb1, hc1⟩ := HC1.out (by have := HN1.out; omega)
    obtain ⟨b2, o2, rfl, hb2, hc2⟩ := HC2.out (by have := HN2.out; omega)
    obtain ⟨ka, ki, hn⟩ := hc1 k (by have := HN1.out; omega)
    obtain ⟨ka', ki', hn'⟩ := hc2 k (by have := HN2.out; omega)
    have g := hn.below (hbel.mono hB) hb1
    have g' := hn'.below (hbel.mono hB) hb2
    clear hc1 hc2 hn hn'
    have HG := hideIt g
    have HG' := hideIt g'
    obtain ⟨kl1, ks1, ak1, ck1, e1, hkc1⟩ := g.inn.keys
    obtain ⟨il1, is1, ai1, ci1, e2, hic1⟩ := g.inn.kids
    obtain ⟨kl2, ks2, ak2, ck2, e3, hkc2⟩ := g'.inn.keys
    obtain ⟨il2, is2, ai2, ci2, e4, hic2⟩ := g'.inn.kids
    subst e1 e2 e3 e4
    have c0 := g.c0
    have c1 := g.c1
    have c2 := g.c2
    have c3 := g.c3
    have c4 := g.c4
    have d0 := g'.c0
    have d1 := g'.c1
    have d2 := g'.c2
    have d3 := g'.c3
    have d4 := g'.c4
    clear g g'
    have HEQ : Hid (∀ p : Prop, (nodeAt us k = nodeAt vs k → p) → ¬ p → ¬ us = vs) := fun p h1 h2 => nodes_ne (fun e => h2 (h1 e))
    have hsize := hbel.size
    have HKC1 := hideIt hkc1
    have HKC2 := hideIt hkc2
    have HIC1 := hideIt hic1
    have HIC2 := hideIt hic2
    clear hkc1 hkc2 hic1 hic2 ks1 ks2 is1 is2
    obtain ⟨x, hx⟩ : ∃ x, nodeAt us k = x := ⟨_, rfl⟩
    obtain ⟨y, hy⟩ : ∃ y, nodeAt vs k = y := ⟨_, rfl⟩
    rw [hx] at c0 c1 c2 c3 c4 HKC1 HIC1 HEQ HG
    rw [hy] at d0 d1 d2 d3 d4 HKC2 HIC2 HEQ HG'
    have kl1' : x.keys.length ≤ 8796093022208 := by rw [← hx]; exact kl1
    have kl2' : y.keys.length ≤ 8796093022208 := by rw [← hy]; exact kl2
    have il1' : x.kids.length ≤ 17592186044416 := by rw [← hx]; exact il1
    have il2' : y.kids.length ≤ 17592186044416 := by rw [← hy]; exact il2
    have HX := hideIt hx
    have HY := hideIt hy
    clear hx hy kl1 kl2 il1 il2
    by_cases q1 : x.kind = y.kind
    case neg =>
      have f1 : (x.kind != y.kind) = true := by simpa using q1
      have HO := hideIt (HEQ.out _ (fun e => by rw [e]) q1)
      clear q1
      go_wp2_with fail
      refine wp_region_quiet_lit (by kernel_rfl) (by kernel_rfl) ?_
      simp only [List.append_eq, List.cons_append, List.nil_append]
      repeat (go_big_quiet_step (fail))
      refine wpQuiet_nil ?_
      intro _ hw'
      obtain ⟨nq, hw''⟩ := hw'
      subst hw''
      go_wp2_with fail
      go_ret
      exact ⟨ret_no HO.out, below_drewN hbel nq⟩
    case pos =>
    have f1 : (x.kind != y.kind) = false := by simpa using q1
    have Q1 := hideIt q1
    clear q1
    by_cases q2 : x.n = y.n
    case neg =>
      have f2 : (x.n != y.n) = true := by simpa using q2
      have HO := hideIt (HEQ.out _ (fun e => by rw [e]) q2)
      clear q2
      go_wp2_with fail
      refine wp_region_quiet_lit (by kernel_rfl) (by kernel_rfl) ?_
      simp only [List.append_eq, List.cons_append, List.nil_append]
      repeat (go_big_quiet_step (fail))
      refine wpQuiet_nil ?_
      intro _ hw'
      obtain ⟨nq, hw''⟩ := hw'
      subst hw''
      go_wp2_with fail
      go_ret
      exact ⟨ret_no HO.out, below_drewN hbel nq⟩
    case pos =>
    have f2 : (x.n != y.n) = false := by simpa using q2
    have Q2 := hideIt q2
    clear q2
    by_cases f3 : (x.s.toList == y.s.toList) = true
    case neg =>
      have f3' : (x.s.toList == y.s.toList) = false := by simpa using f3
      have HO := hideIt (HEQ.out ((x.s.toList == y.s.toList) = true) (fun e => by rw [e]; simp) f3)
      clear f3
      go_wp2_with fail
      refine wp_region_quiet_lit (by kernel_rfl) (by kernel_rfl) ?_
      simp only [List.append_eq, List.cons_append, List.nil_append]
      repeat (go_big_quiet_step (fail))
      refine wpQuiet_nil ?_
      intro _ hw'
      obtain ⟨nq, hw''⟩ := hw'
      subst hw''
      go_wp2_with fail
      go_ret
      exact ⟨ret_no HO.out, below_drewN hbel nq⟩
    case pos =>
    by_cases q4 : x.keys.length = y.keys.length
    case neg =>
      have f4 : ((x.keys.length : Int) != (y.keys.length : Int)) = true := by simp; omega
      have HO := hideIt (HEQ.out _ (fun e => by rw [e]) q4)
      clear q4
      go_wp2_with fail
      refine wp_region_quiet_lit (by kernel_rfl) (by kernel_rfl) ?_
      simp only [List.append_eq, List.cons_append, List.nil_append]
      repeat (go_big_quiet_step (fail))
      refine wpQuiet_nil ?_
      intro _ hw'
      obtain ⟨nq, hw''⟩ := hw'
      subst hw''
      go_wp2_with fail
      go_ret
      exact ⟨ret_no HO.out, below_drewN hbel nq⟩
    case pos =>
    by_cases q5 : x.kids.length = y.kids.length
    case neg =>
      have f4 : ((x.keys.length : Int) != (y.keys.length : Int)) = false := by simp; omega
      have f5 : ((x.kids.length : Int) != (y.kids.length : Int)) = true := by simp; omega
      have HO := hideIt (HEQ.out _ (fun e => by rw [e]) q5)
      clear q5 q4
      go_wp2_with fail
      refine wp_region_quiet_lit (by kernel_rfl) (by kernel_rfl) ?_
      simp only [List.append_eq, List.cons_append, List.nil_append]
      repeat (go_big_quiet_step (fail))
      refine wpQuiet_nil ?_
      intro _ hw'
      obtain ⟨nq, hw''⟩ := hw'
      subst hw''
      go_wp2_with fail
      go_ret
      exact ⟨ret_no HO.out, below_drewN hbel nq⟩
    case pos =>
    have Q4 := hideIt q4
    have Q5 := hideIt q5
    obtain ⟨P, hP⟩ : ∃ P, x.keys.length = P := ⟨_, rfl⟩
    obtain ⟨Q, hQ⟩ : ∃ Q, x.kids.length = Q := ⟨_, rfl⟩
    rw [← q4, hP] at d3
    rw [← q5, hQ] at d4
    rw [hP] at c3
    rw [hQ] at c4
    have HP := hideIt hP
    have HQ := hideIt hQ
    have hP' : P ≤ 8796093022208 := by omega
    have hQ' : Q ≤ 17592186044416 := by omega
    clear q4 q5 kl1' kl2' il1' il2' hP hQ
    have f4 : ((P : Int) != (P : Int)) = false := by simp
    have f5 : ((Q : Int) != (Q : Int)) = false := by simp
    have HCL : Hid (∀ W, Below w.heap.size w W → ∀ o, W.cell? ⟨b1, o, none⟩ = wr.cell? ⟨b1, o, none⟩ ∧ W.cell? ⟨b2, o, none⟩ = wr.cell? ⟨b2, o, none⟩) := fun W hW o =>
      ⟨(below_cell hW (by omega)).trans (below_cell hbel (by omega)).symm, (below_cell hW (by omega)).trans (below_cell hbel (by omega)).symm⟩
    have C3 := hideIt c3
    have C4 := hideIt c4
    have D3 := hideIt d3
    have D4 := hideIt d4
    go_wp2_with fail
    refine wp_region_quiet_lit (by kernel_rfl) (by kernel_rfl) ?_
    simp only [List.append_eq, List.cons_append, List.nil_append]
    repeat (go_big_quiet_step (fail))
    refine wpQuiet_nil ?_
    intro _ hw'
    obtain ⟨nq, hw''⟩ := hw'
    subst hw''
    have hbq := below_drewN hbel nq
    obtain ⟨W0, hW0⟩ : ∃ W0, W0 = wr := ⟨_, rfl⟩
    rw [← hW0] at HCL C3 C4 D3 D4 HKC1 HKC2 HIC1 HIC2 HG HG'
    generalize wr.drewN nq = W1 at hbq ⊢
    have HW0 : Hid (Below w.heap.size w W0) := by rw [Hid, hW0]; exact hbel
    clear c0 c1 c2 c3 c4 d0 d1 d2 d3 d4 hW0 hbel
    go_wp2_with fail
    go_loopw [6] (fun i wr => ∃ q : Nat, q ≤ P ∧ i = .int .i64 q ∧ Hid (∀ j, j < q → keyAt x.keys j = keyAt y.keys j) ∧ Below w.heap.size w wr) (fun i _ => P - (intOf i).toNat)
    case atStart => exact ⟨0, Nat.zero_le _, rfl, fun j hj => absurd hj (by omega), hbq⟩
    case round =>
      obtain ⟨q, hq, rfl, HQE, hbr⟩ := hrel
      have e3 := ((HCL.out _ hbr _).1).trans C3.out
      have t3 := ((HCL.out _ hbr _).2).trans D3.out
      by_cases hlq : q < P
      case neg =>
        obtain rfl : q = P := by omega
        go_wp2_with fail
        clear e3 t3
        obtain ⟨W2, rfl⟩ : ∃ W2, W2 = wr := ⟨_, rfl⟩
        go_loopw [7] (fun i wr => ∃ p : Nat, p ≤ Q ∧ i = .int .i64 p ∧ Hid (∀ j, j < p → intAt x.kids j = intAt y.kids j) ∧ Below w.heap.size w wr) (fun i _ => Q - (intOf i).toNat)
        case atStart => exact ⟨0, Nat.zero_le _, rfl, fun j hj => absurd hj (by omega), hbr⟩
        case round =>
          obtain ⟨p, hp, rfl, HPE, hbs⟩ := hrel
          have e4 := ((HCL.out _ hbs _).1).trans C4.out
          have t4 := ((HCL.out _ hbs _).2).trans D4.out
          by_cases hlp : p < Q
          case neg =>
            have HXY : Hid (x = y) := vn_eq Q1.out Q2.out (bytes_eq f3) (strs_eq Q4.out (fun j hj => HQE.out j (by have := HP.out; omega))) (ints_eq Q5.out (fun j hj => HPE.out j (by have := HQ.out; omega)))
            have HE2 : Hid (∀ j, j < k + 1 → nodeAt us j = nodeAt vs j) := fun j hj => by
              by_cases e : j = k
              · subst e; rw [HX.out, HY.out]; exact HXY.out
              · exact HE.out j (by omega)
            go_wp2_with fail
            go_roundw
            case rel => exact ⟨k + 1, by omega, by go_num, HE2, hbs⟩
            case measure => simp [intOf]; omega
          case pos =>
          obtain ⟨b3, o3, rfl, hb3, hc3⟩ := HIC1.out (by have := HQ.out; omega)
          obtain ⟨b4, o4, rfl, hb4, hc4⟩ := HIC2.out (by have := HQ.out; have := Q5.out; omega)
          have r1 := ((below_cell (o := o3 + p) hbs (show b3 < w.heap.size by omega)).trans (below_cell HW0.out (show b3 < w.heap.size by omega)).symm).trans (hc3 p (by have := HQ.out; omega))
          have r2 := ((below_cell (o := o4 + p) hbs (show b4 < w.heap.size by omega)).trans (below_cell HW0.out (show b4 < w.heap.size by omega)).symm).trans (hc4 p (by have := HQ.out; have := Q5.out; omega))
          clear hc3 hc4
          by_cases hke : intAt x.kids p = intAt y.kids p
          case neg =>
            have f6 : (intAt x.kids p != intAt y.kids p) = true := by simpa using hke
            have HO := hideIt (HEQ.out _ (fun e => by rw [e]) hke)
            clear hke
            go_wp2_with fail
            go_quiet (fail)
            go_wp2_with fail
            go_ret
            exact ⟨ret_no HO.out, below_drewN hbs nq⟩
          case pos =>
          have f6 : (intAt x.kids p != intAt y.kids p) = false := by simpa using hke
          have HPE2 : Hid (∀ j, j < p + 1 → intAt x.kids j = intAt y.kids j) := fun j hj => by
            by_cases e : j = p
            · subst e; exact hke
            · exact HPE.out j (by omega)
          clear hke
          go_wp2_with fail
          go_quiet (fail)
          go_wp2_with fail
          go_roundw
          case rel => exact ⟨p + 1, by omega, by go_num, HPE2, below_drewN hbs nq⟩
          case measure => simp [intOf]; omega
      case pos =>
      obtain ⟨b3, o3, rfl, hb3, hc3⟩ := HKC1.out (by have := HP.out; omega)
      obtain ⟨b4, o4, rfl, hb4, hc4⟩ := HKC2.out (by have := HP.out; have := Q4.out; omega)
      have r1 := ((below_cell (o := o3 + q) hbr (show b3 < w.heap.size by omega)).trans (below_cell HW0.out (show b3 < w.heap.size by omega)).symm).trans (hc3 q (by have := HP.out; omega))
      have r2 := ((below_cell (o := o4 + q) hbr (show b4 < w.heap.size by omega)).trans (below_cell HW0.out (show b4 < w.heap.size by omega)).symm).trans (hc4 q (by have := HP.out; have := Q4.out; omega))
      clear hc3 hc4
      by_cases hke : ((keyAt x.keys q).toList == (keyAt y.keys q).toList) = true
      case neg =>
        have f6 : ((keyAt x.keys q).toList == (keyAt y.keys q).toList) = false := by simpa using hke
        have HO := hideIt (HEQ.out (((keyAt x.keys q).toList == (keyAt y.keys q).toList) = true) (fun e => by rw [e]; simp) hke)
        clear hke
        go_wp2_with fail
        go_quiet (fail)
        go_wp2_with fail
        go_ret
        exact ⟨ret_no HO.out, below_drewN hbr nq⟩
      case pos =>
      have HQE2 : Hid (∀ j, j < q + 1 → keyAt x.keys j = keyAt y.keys j) := fun j hj => by
        by_cases e : j = q
        · subst e; exact bytes_eq hke
        · exact HQE.out j (by omega)
      go_wp2_with fail
      go_quiet (fail)
      go_wp2_with fail
      go_roundw
      case rel => exact ⟨q + 1, by omega, by go_num, HQE2, below_drewN hbr nq⟩
      case measure => simp [intOf]; omega
end Go.Proofs.Ytpakfgonemiebaa

/-
  The paths of a right value: as many as nodes, no two the same, each leads to a node, and together the nodes to which they lead have all nodes but one as kids. Plain mathematics.
-/
namespace Go.Proofs.Ytpakfgonemiebaa
open Go.RowKit
set_option linter.unusedSimpArgs false
set_option linter.unusedVariables false

/-- Paths, each with the node to which it leads. -/
def pn (vs : List VN) : Nat → Nat → List PS → List (List PS × Nat)
  | 0, _, _ => []
  | f + 1, n, head => (head, n) :: (List.range (nodeAt vs n).kids.length).flatMap fun i => pn vs f (intAt (nodeAt vs n).kids i).toNat (head ++ [stepOf (nodeAt vs n).kind (nodeAt vs n).keys i])

theorem flat_map {α β : Type} (h : α → β) (g : Nat → List α) (g' : Nat → List β) (e : ∀ i, (g i).map h = g' i) : ∀ K, ((List.range K).flatMap g).map h = (List.range K).flatMap g' := by
  intro K
  induction K with
  | zero => rfl
  | succ K ih => rw [List.range_succ, List.flatMap_append, List.flatMap_append, List.map_append, ih]; simp [e]

theorem pn_paths (vs : List VN) : ∀ f n head, (pn vs f n head).map Prod.fst = pathsN vs f n head := by
  intro f
  induction f with
  | zero => intro n head; rfl
  | succ f ih =>
    intro n head
    rw [pn, pathsN, List.map_cons]
    rw [flat_map Prod.fst _ _ (fun i => ih _ _)]

/-- The kids of all the nodes to which they lead. -/
def kidSum (vs : List VN) : List (List PS × Nat) → Nat
  | [] => 0
  | q :: l => (nodeAt vs q.2).kids.length + kidSum vs l

theorem kidSum_append (vs : List VN) : ∀ a b, kidSum vs (a ++ b) = kidSum vs a + kidSum vs b := by
  intro a
  induction a with
  | nil => intro b; simp [kidSum]
  | cons q a ih => intro b; rw [List.cons_append, kidSum, kidSum, ih]; omega

theorem kidSum_flat (vs : List VN) (g : Nat → List (List PS × Nat)) : ∀ K, (∀ i, i < K → kidSum vs (g i) + 1 = (g i).length) → kidSum vs ((List.range K).flatMap g) + K = ((List.range K).flatMap g).length := by
  intro K
  induction K with
  | zero => intro _; rfl
  | succ K ih =>
    intro h
    have h1 := ih (fun i hi => h i (by omega))
    have h2 := h K (by omega)
    rw [List.range_succ, List.flatMap_append, kidSum_append, List.length_append]
    simp only [List.flatMap_cons, List.flatMap_nil, List.append_nil]
    omega

theorem kid_down {vs : List VN} (hok : okB vs = true) {n i : Nat} (hn : n < vs.length) (hi : i < (nodeAt vs n).kids.length) : (intAt (nodeAt vs n).kids i).toNat < n := by
  have := kidsIn_get (keys_few hok n hn).1 hi
  omega

theorem pn_sum {vs : List VN} (hok : okB vs = true) : ∀ f n head, n < f → n < vs.length → kidSum vs (pn vs f n head) + 1 = (pn vs f n head).length := by
  intro f
  induction f with
  | zero => intro n head h; omega
  | succ f ih =>
    intro n head hf hn
    rw [pn, kidSum, List.length_cons]
    have := kidSum_flat vs (fun i => pn vs f (intAt (nodeAt vs n).kids i).toNat (head ++ [stepOf (nodeAt vs n).kind (nodeAt vs n).keys i])) (nodeAt vs n).kids.length (fun i hi => by
      have := kid_down hok hn hi
      exact ih _ _ (by omega) (by omega))
    change (nodeAt vs n).kids.length + kidSum vs _ + 1 = _
    omega

/-- The steps of a right value's node lead to its parts. -/
theorem node_kinds {vs : List VN} (hok : okB vs = true) {n i : Nat} (hn : n < vs.length) (hi : i < (nodeAt vs n).kids.length) :
    stepN (nodeAt vs n) (stepOf (nodeAt vs n).kind (nodeAt vs n).keys i) = some i ∧ stepB (stepOf (nodeAt vs n).kind (nodeAt vs n).keys i) = true := by
  have hnb := ((okB_parts hok).2.1 n hn).1
  have h80 := (keys_few hok n hn).2.1
  unfold stepOf
  by_cases h6 : (nodeAt vs n).kind = 6
  · rw [if_pos h6]
    unfold nodeB namedB at hnb
    simp [h6] at hnb
    have hrise := riseB_rise hnb.2.2
    have hl : i < (nodeAt vs n).keys.length := by rw [hnb.2.1]; exact hi
    have hh := hasK_first hrise (key := keyAt (nodeAt vs n).keys i) hl rfl (fun j hj => less_ne (hrise j i hj hl))
    have hr := hnb.2.2
    unfold riseB at hr
    rw [List.all_eq_true] at hr
    have ht := hr i (List.mem_range.2 hl)
    unfold riseAt at ht
    rw [Bool.and_eq_true] at ht
    refine ⟨?_, ?_⟩
    · unfold stepN stepTo
      simp [h6, hh.1, hh.2]
    · unfold stepB
      simp [ht.1]
  · rw [if_neg h6]
    have h5 : (nodeAt vs n).kind = 5 := by
      by_cases h5 : (nodeAt vs n).kind = 5
      · exact h5
      · exfalso
        unfold nodeB unnamedB at hnb
        simp [h5, h6] at hnb
        have := hnb.1.2
        rw [this] at hi
        simp at hi
    refine ⟨?_, ?_⟩
    · unfold stepN stepTo
      simp [h5, hi]
    · unfold stepB
      have : (ByteArray.empty).toList = [] := by rw [Lib.toList_data]; rfl
      simp [this]
      omega

theorem fold_kid {K : Nat → List Int} : ∀ (l : List Int) (b h : Nat) (q : Nat × Nat), l.foldl (stepKid (tr K)) (some (b, h)) = some q → ∀ k ∈ l, ∃ p, tr K k.toNat = some p ∧ p.2 ≤ q.2 := by
  intro l
  induction l with
  | nil => intro b h q _ k hk; cases hk
  | cons x l ih =>
    intro b h q e k hk
    obtain ⟨p, h1, h2, h3, h4⟩ := fold_cons_some e
    rcases List.mem_cons.1 hk with rfl | hk
    · refine ⟨p, by rw [h2, show ((b : Int) - 1).toNat = b - 1 by omega]; exact h3, ?_⟩
      have := (fold_cover _ _ _ _ h4).1
      omega
    · exact ih _ _ _ h4 k hk

theorem tr_kid {K : Nat → List Int} {n : Nat} {p : Nat × Nat} (h : tr K n = some p) {k : Int} (hk : k ∈ K n) : ∃ r, tr K k.toNat = some r ∧ r.2 + 1 ≤ p.2 := by
  obtain ⟨q, h1, rfl⟩ := tr_fold h
  obtain ⟨r, h2, h3⟩ := fold_kid _ _ _ _ h1 k (by simpa using hk)
  exact ⟨r, h2, by simp only; omega⟩

theorem pn_got {vs : List VN} (hok : okB vs = true) : ∀ f n head, n < f → n < vs.length → ∀ q ∈ pn vs f n head, ∃ t, q.1 = head ++ t ∧ gotN vs n t = some q.2 ∧ q.2 < vs.length ∧ (∀ s ∈ t, stepB s = true) ∧ ∀ p, tr (kidsOf vs) n = some p → t.length + 1 ≤ p.2 := by
  intro f
  induction f with
  | zero => intro n head h; omega
  | succ f ih =>
    intro n head hf hn q hq
    rw [pn] at hq
    rcases List.mem_cons.1 hq with rfl | hq
    · refine ⟨[], by simp, rfl, hn, fun s hs => (by cases hs), fun p hp => ?_⟩
      obtain ⟨r, _, rfl⟩ := tr_fold hp
      simp
    · obtain ⟨i, hi, hq⟩ := List.mem_flatMap.1 hq
      have hi' := List.mem_range.1 hi
      have hd := kid_down hok hn hi'
      obtain ⟨h1, h2⟩ := node_kinds hok hn hi'
      obtain ⟨t, e1, e2, e3, e4, e5⟩ := ih _ _ (by omega) (by omega) q hq
      refine ⟨stepOf (nodeAt vs n).kind (nodeAt vs n).keys i :: t, by rw [e1, List.append_assoc]; rfl, ?_, e3, ?_, fun p hp => ?_⟩
      · rw [gotN, h1]
        exact e2
      · intro s hs
        rcases List.mem_cons.1 hs with rfl | hs
        · exact h2
        · exact e4 s hs
      · have hm : intAt (nodeAt vs n).kids i ∈ kidsOf vs n := by
          unfold kidsOf
          rw [intAt_get hi']
          exact List.getElem_mem _
        obtain ⟨r, hr, hle⟩ := tr_kid hp hm
        have := e5 r hr
        rw [List.length_cons]
        omega

/-- No path stands twice. -/
theorem pref {vs : List VN} : ∀ f n head, ∀ x ∈ pathsN vs f n head, ∃ t, x = head ++ t := by
  intro f
  induction f with
  | zero => intro n head x hx; cases hx
  | succ f ih =>
    intro n head x hx
    rw [pathsN] at hx
    rcases List.mem_cons.1 hx with rfl | hx
    · exact ⟨[], by simp⟩
    · obtain ⟨i, _, hx⟩ := List.mem_flatMap.1 hx
      obtain ⟨t, rfl⟩ := ih _ _ x hx
      exact ⟨_, List.append_assoc _ _ _⟩

theorem flat_nodup {α : Type} (g : Nat → List α) : ∀ K, (∀ i, i < K → (g i).Nodup) → (∀ i j, i < j → j < K → ∀ x ∈ g i, ∀ y ∈ g j, x ≠ y) → ((List.range K).flatMap g).Nodup := by
  intro K
  induction K with
  | zero => intro _ _; simp
  | succ K ih =>
    intro h1 h2
    rw [List.range_succ, List.flatMap_append, List.nodup_append]
    simp only [List.flatMap_cons, List.flatMap_nil, List.append_nil]
    refine ⟨ih (fun i hi => h1 i (by omega)) (fun i j hij hj => h2 i j hij (by omega)), h1 K (by omega), fun x hx y hy => ?_⟩
    obtain ⟨i, hi, hx⟩ := List.mem_flatMap.1 hx
    exact h2 i K (List.mem_range.1 hi) (by omega) x hx y hy

theorem paths_nodup {vs : List VN} (hok : okB vs = true) : ∀ f n head, n < f → n < vs.length → (pathsN vs f n head).Nodup := by
  intro f
  induction f with
  | zero => intro n head h; omega
  | succ f ih =>
    intro n head hf hn
    rw [pathsN, List.nodup_cons]
    refine ⟨fun hm => ?_, flat_nodup _ _ (fun i hi => ?_) (fun i j hij hj x hx y hy e => ?_)⟩
    · obtain ⟨i, _, hx⟩ := List.mem_flatMap.1 hm
      obtain ⟨t, e⟩ := pref _ _ _ _ hx
      have := congrArg List.length e
      simp at this
    · have := kid_down hok hn hi
      exact ih _ _ (by omega) (by omega)
    · obtain ⟨t, rfl⟩ := pref _ _ _ _ hx
      obtain ⟨t', e'⟩ := pref _ _ _ _ hy
      rw [e'] at e
      rw [List.append_assoc, List.append_assoc, List.append_cancel_left_eq] at e
      simp only [List.cons_append, List.nil_append, List.cons.injEq] at e
      have a1 := (node_kinds hok hn (show i < (nodeAt vs n).kids.length by omega)).1
      have a2 := (node_kinds hok hn hj).1
      rw [e.1, a2] at a1
      simp only [Option.some.injEq] at a1
      omega

theorem root_tr {vs : List VN} (hok : okB vs = true) : ∃ h, tr (kidsOf vs) (vs.length - 1) = some (0, h) ∧ h ≤ 8 := by
  unfold okB rootB at hok
  simp only [Bool.and_eq_true] at hok
  have h := hok.2
  cases e : tr (kidsOf vs) (vs.length - 1) with
  | none => simp [e] at h
  | some p => obtain ⟨a, b⟩ := p; simp [e] at h; obtain ⟨rfl, h8⟩ := h; exact ⟨b, rfl, h8⟩

/-- The paths of the whole. -/
def pnAll (vs : List VN) : List (List PS × Nat) := pn vs vs.length (vs.length - 1) []
def pnAt (vs : List VN) (i : Nat) : List PS × Nat := (pnAll vs).getD i ([], 0)

theorem pnAll_length {vs : List VN} (hok : okB vs = true) : (pnAll vs).length = vs.length := by
  have hs := (okB_parts hok).1
  have e : (pnAll vs).length = (pathsN vs vs.length (vs.length - 1) []).length := by rw [← pn_paths vs, List.length_map]; rfl
  rw [e, paths_len vs vs.length (vs.length - 1) [] 0, (lay_part hok (by omega) (by omega)).1]
  obtain ⟨h, hr, _⟩ := root_tr hok
  unfold partOf
  rw [run_length, hr]
  simp [trF]
  omega

theorem pnAll_rows {vs : List VN} (hok : okB vs = true) {i : Nat} (hi : i < vs.length) : (pathsN vs vs.length (vs.length - 1) []).getD i [] = (pnAt vs i).1 := by
  have hl := pnAll_length hok
  rw [← pn_paths vs]
  unfold pnAt
  rw [List.getD_eq_getElem?_getD, List.getElem?_map]
  change (Option.map Prod.fst (pnAll vs)[i]?).getD [] = _
  rw [List.getElem?_eq_getElem (by omega), List.getD_eq_getElem?_getD, List.getElem?_eq_getElem (by omega)]
  rfl

theorem pnAt_mem {vs : List VN} (hok : okB vs = true) {i : Nat} (hi : i < vs.length) : pnAt vs i ∈ pn vs vs.length (vs.length - 1) [] := by
  have hl := pnAll_length hok
  unfold pnAt
  rw [List.getD_eq_getElem?_getD, List.getElem?_eq_getElem (by omega)]
  exact List.getElem_mem _

theorem pathB_of {t : List PS} (hl : t.length ≤ 10) (h : ∀ s ∈ t, stepB s = true) : pathB t = true := by
  unfold pathB
  rw [Bool.and_eq_true, List.all_eq_true]
  refine ⟨by simp [hl], fun i hi => ?_⟩
  have hi' := List.mem_range.1 hi
  unfold stepAt
  rw [List.getD_eq_getElem?_getD, List.getElem?_eq_getElem hi']
  exact h _ (List.getElem_mem _)

/-- What a path of the value says. -/
theorem pnAt_says {vs : List VN} (hok : okB vs = true) {i : Nat} (hi : i < vs.length) : pathB (pnAt vs i).1 = true ∧ gotB vs (pnAt vs i).1 = true ∧ gotNs vs (pnAt vs i).1 = partOf vs (pnAt vs i).2 ∧ (pnAt vs i).2 < vs.length := by
  have hs := (okB_parts hok).1
  obtain ⟨t, e1, e2, e3, e4, e5⟩ := pn_got hok vs.length (vs.length - 1) [] (by omega) (by omega) _ (pnAt_mem hok hi)
  rw [List.nil_append] at e1
  obtain ⟨h, hr, h8⟩ := root_tr hok
  have hd := e5 _ hr
  simp only at hd
  have hp : pathB (pnAt vs i).1 = true := by rw [e1]; exact pathB_of (by omega) e4
  refine ⟨hp, ?_, ?_, e3⟩
  · unfold gotB; rw [hok, hp, e1, e2]; rfl
  · unfold gotNs; rw [hok, hp, e1, e2]; rfl

/-- The part at a node has as many parts as the node has kids. -/
theorem parts_part {vs : List VN} (hok : okB vs = true) {m : Nat} (hm : m < vs.length) : partsN (partOf vs m) = (nodeAt vs m).kids.length := by
  obtain ⟨p1, p2, p3, p4⟩ := okB_parts hok
  obtain ⟨⟨a0, h0⟩, htr⟩ := p3 m hm
  have e : partOf vs m = run vs (-(a0 : Int)) a0 (m + 1 - a0) := by rw [partOf, htr]; simp [trF]
  have ha := tr_le htr
  simp only at ha
  have hlen : (partOf vs m).length = m + 1 - a0 := by rw [e, run_length]
  unfold partsN
  rw [if_pos (part_okB hok hm)]
  unfold rootKids
  rw [hlen, e, run_nodeAt (by omega), show a0 + (m + 1 - a0 - 1) = m by omega]
  simp [shiftN]

/-- The sum of the first k. -/
def sumTo (vs : List VN) (k : Nat) : Nat := kidSum vs ((pnAll vs).take k)
theorem sumTo_zero (vs : List VN) : sumTo vs 0 = 0 := by simp [sumTo, kidSum]
theorem sumTo_succ {vs : List VN} (hok : okB vs = true) {k : Nat} (hk : k < vs.length) : sumTo vs (k + 1) = sumTo vs k + partsN (partOf vs (pnAt vs k).2) := by
  have hl := pnAll_length hok
  unfold sumTo
  rw [List.take_add_one, List.getElem?_eq_getElem (by omega), kidSum_append]
  rw [parts_part hok (pnAt_says hok hk).2.2.2]
  have : pnAt vs k = (pnAll vs)[k]'(by omega) := by
    unfold pnAt
    rw [List.getD_eq_getElem?_getD, List.getElem?_eq_getElem (by omega)]
    rfl
  rw [this]
  simp [kidSum]
theorem sumTo_all {vs : List VN} (hok : okB vs = true) : sumTo vs vs.length + 1 = vs.length := by
  have hl := pnAll_length hok
  have hs := (okB_parts hok).1
  unfold sumTo
  rw [show (pnAll vs).take vs.length = pnAll vs from List.take_of_length_le (by omega)]
  have := pn_sum hok vs.length (vs.length - 1) [] (by omega) (by omega)
  change kidSum vs (pnAll vs) + 1 = (pnAll vs).length at this
  omega

theorem pnAt_ne {vs : List VN} (hok : okB vs = true) {i k : Nat} (hi : i < vs.length) (hk : k < i) : (pnAt vs i).1 ≠ (pnAt vs k).1 := by
  have hs := (okB_parts hok).1
  have hl := pnAll_length hok
  have hnd := paths_nodup hok vs.length (vs.length - 1) [] (by omega) (by omega)
  have hpl : (pathsN vs vs.length (vs.length - 1) []).length = vs.length := by rw [← pn_paths vs, List.length_map]; exact hl
  intro e
  rw [← pnAll_rows hok hi, ← pnAll_rows hok (show k < vs.length by omega)] at e
  rw [List.getD_eq_getElem?_getD, List.getD_eq_getElem?_getD, List.getElem?_eq_getElem (by omega), List.getElem?_eq_getElem (by omega)] at e
  simp only [Option.getD_some] at e
  exact (List.pairwise_iff_getElem.1 hnd k i (by omega) (by omega) hk) e.symm
end Go.Proofs.Ytpakfgonemiebaa
