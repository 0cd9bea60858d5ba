/-
  What spec.DrawLaid draws.
-/
import Derived.Test.YtpakfgonemiebaaDrPth
import Derived.Test.YtpakfgonemiebaaOrdP
import Derived.Test.YtpakfgonemiebaaPartOk
import Derived.Test.YtpakfgonemiebaaProg
import Derived.Deep.QuietTactic
import Derived.BigQuiet
import Derived.WalkSmall
import Derived.Deep.RegionWith
namespace Go.Proofs.Ytpakfgonemiebaa
open Go.RowKit
set_option linter.unusedSimpArgs false
set_option linter.unusedVariables false

def LaidDrawn (w : World) (e : Ending) (w' : World) : Prop := ∃ r vs KV IV u ps r2 ws KV2 IV2, e = .returned (.tuple #[r, u, r2]) ∧ Fine 40 vs ∧ Short 1001 ps ∧ Fine 80 ws ∧ Nest w.heap.size w' r vs KV IV ∧ w'.ownsRow w.heap.size 39 3 u ps.length (stepCells ps) ∧ Nest w.heap.size w' r2 ws KV2 IV2 ∧ Below w.heap.size w w'

set_option maxHeartbeats 1600000 in
theorem drawLaid_any (B : Nat) (v : Value) (n : Nat) (w : World) (h : CodeAt B w v n) (hB : B ≤ w.heap.size) :
    Calls Try.prog 9 #[v] w (LaidDrawn w) := by
  have H := hideIt h
  obtain ⟨_, a, cap, rfl, _⟩ := h
  go_enter Try.func9, Try.ntmps9
  go_wp2_with fail
  refine (l1Open_any B _ n w H.out hB).mono ?_
  rintro e w1 ⟨rfl, hr, hb⟩
  have HR := hideIt hr
  have HB := hideIt hb
  have z1 := hb.size
  have hw1 : w.heap.size < w1.heap.size := hr.lt
  clear hr hb
  go_wp2_with fail
  refine (rdMaybe_any w.heap.size n w1 ⟨0, HR.out⟩).mono ?_
  rintro e w2 ⟨⟨r, vs, KV, IV, rfl, hf, hn⟩, hd⟩
  have HF := hideIt hf
  have HN := hideIt hn
  have HD := hideIt hd
  have hl2 : vs.length ≤ 40 := hf.2.1
  have z2 := hd.only.1
  have HND := hideIt (hn.nodes (by omega) (hf.few (show 40 ≤ 80 by omega)).2)
  obtain ⟨ar, cr, er⟩ := own_slice hn.row
  obtain ⟨M, hM⟩ : ∃ M, vs.length = M := ⟨_, rfl⟩
  rw [hM] at er hl2
  subst er
  clear hf hn hd hM
  go_wp2_with fail
  refine (rdPath_any w.heap.size n w2.heap.size _ vs w2 HD.out.rd HND.out (Nat.le_refl _)).mono ?_
  rintro e w3 ⟨⟨u, ps, rfl, hsh, how⟩, hd3⟩
  have z3 := hd3.only.1
  have HN3 := hideIt (HN.out.from (hd3.from hw1))
  have HB3 := hideIt (HD.out.trans hd3)
  have HO3 := hideIt how
  have HSH := hideIt hsh
  obtain ⟨au, cu, eu⟩ := own_slice how
  obtain ⟨N, hN⟩ : ∃ N, ps.length = N := ⟨_, rfl⟩
  rw [hN] at eu
  subst eu
  clear hd3 hsh how hN
  go_wp2_with fail
  refine (rdValue_any w.heap.size n 1 (by omega) w3 HB3.out.rd).mono ?_
  rintro e w4 ⟨⟨r2, ws, KV2, IV2, rfl, hf4, hn4⟩, hd4⟩
  have HF4 : Hid (Fine 80 ws) := ⟨hf4.1, Nat.le_trans hf4.2.1 (by decide), hf4.2.2⟩
  have HN4 := hideIt ((HN3.out.from (hd4.from hw1)).low z1)
  have HW4 := hideIt (hn4.low (show w.heap.size ≤ w3.heap.size by omega))
  have HO4 := hideIt (own_mono (own_from HO3.out (hd4.from (by omega))) (show w.heap.size ≤ w2.heap.size by omega))
  have HB4 := hideIt (HB.out.trans (HB3.out.trans hd4).below)
  obtain ⟨a2, c2, e2⟩ := own_slice hn4.row
  obtain ⟨N2, hN2⟩ : ∃ N, ws.length = N := ⟨_, rfl⟩
  rw [hN2] at e2
  subst e2
  clear hf4 hn4 hd4 hN2
  go_wp2_with fail
  go_ret3
  exact ⟨_, vs, KV, IV, _, ps, _, ws, KV2, IV2, rfl, HF.out, HSH.out, HF4.out, HN4.out, HO4.out, HW4.out, HB4.out⟩
end Go.Proofs.Ytpakfgonemiebaa

/-
  Two right values are the same just where their order is 0. Plain mathematics.
-/
namespace Go.Proofs.Ytpakfgonemiebaa
open Go.RowKit
set_option linter.unusedSimpArgs false
set_option linter.unusedVariables false

theorem comb_zero {x y : Int} : comb x y = 0 ↔ x = 0 ∧ y = 0 := by
  unfold comb
  by_cases e : x = 0 <;> simp [e]

theorem cmpKeys_zero (hS : ∀ a b : ByteArray, cmpS a b = 0 → a = b) : ∀ l m, cmpKeys l m = 0 → l = m := by
  intro l
  induction l with
  | nil => intro m h; cases m with
    | nil => rfl
    | cons b m => rw [cmpKeys_lex.nc] at h; omega
  | cons a l ih => intro m h; cases m with
    | nil => rw [cmpKeys_lex.cn] at h; omega
    | cons b m =>
      rw [cmpKeys_lex.cc, comb_zero] at h
      rw [hS a b h.1, ih m h.2]

theorem cmpKids_zero {α : Type} {R : Int → Int → Int} {g g' : Int → α} (hR : ∀ a b, R a b = 0 → g a = g' b) : ∀ l m, cmpKids R l m = 0 → l.map g = m.map g' := by
  intro l
  induction l with
  | nil => intro m h; cases m with
    | nil => rfl
    | cons b m => rw [(cmpKids_lex R).nc] at h; omega
  | cons a l ih => intro m h; cases m with
    | nil => rw [(cmpKids_lex R).cn] at h; omega
    | cons b m =>
      rw [(cmpKids_lex R).cc, comb_zero] at h
      rw [List.map_cons, List.map_cons, hR a b h.1, ih m h.2]

theorem ord_zero (hS : ∀ a b : ByteArray, cmpS a b = 0 → a = b) (us vs : List VN) : ∀ f n m, ord us vs f n m = 0 → treeOf us f n = treeOf vs f m := by
  intro f
  induction f with
  | zero => intro n m _; rfl
  | succ f ih =>
    intro n m h
    rw [ord_comb, comb_zero, comb_zero, comb_zero, comb_zero] at h
    obtain ⟨h1, h2, h3, h4, h5⟩ := h
    rw [treeOf, treeOf, (cmpI_zero _ _).1 h1, (cmpI_zero _ _).1 h2, hS _ _ h3, cmpKeys_zero hS _ _ h4, cmpKids_zero (g := fun k => treeOf us f k.toNat) (g' := fun k => treeOf vs f k.toNat) (fun a b hab => ih a.toNat b.toNat hab) _ _ h5]

theorem cmpS_eq (a b : ByteArray) (h : cmpS a b = 0) : a = b := by
  have e : a.toList = b.toList := (cmpL_zero _ _).1 h
  rw [Lib.toList_data, Lib.toList_data] at e
  rw [← Lib.mk_data a, ← Lib.mk_data b, e]

theorem shift_zeroZ (x : VN) : shiftN 0 x = x := by
  unfold shiftN
  have : x.kids.map (· + (0 : Int)) = x.kids := by
    have : (fun k : Int => k + 0) = id := by funext k; simp
    rw [this, List.map_id]
  rw [this]

/-- The root's part is the whole. -/
theorem part_root {vs : List VN} (hok : okB vs = true) : partOf vs (vs.length - 1) = vs := by
  have hs := (okB_parts hok).1
  have hr : rootB vs = true := by unfold okB at hok; simp only [Bool.and_eq_true] at hok; exact hok.2
  unfold rootB at hr
  split at hr
  · rename_i p e
    simp only [Bool.and_eq_true, decide_eq_true_eq] at hr
    unfold partOf
    rw [e]
    have e0 : trF (some p) = 0 := by show (p.1 : Int) = 0; omega
    rw [e0]
    have e1 : vs.length - 1 + 1 - (0 : Int).toNat = vs.length := by simp; omega
    rw [e1]
    unfold run
    apply List.ext_getElem
    · simp
    · intro j h1 h2
      simp only [List.getElem_map, List.getElem_range', Int.neg_zero]
      rw [shift_zeroZ]
      unfold nodeAt
      rw [List.getD_eq_getElem?_getD, show (0 : Int).toNat + 1 * j = j by simp, List.getElem?_eq_getElem h2]
      rfl
  · cases hr

theorem orderOf_zero {us vs : List VN} (h1 : okB us = true) (h2 : okB vs = true) : orderOf us vs = 0 ↔ us = vs := by
  constructor
  · intro h
    rw [orderOf_at h1 h2 (F := us.length + vs.length) (by omega)] at h
    have ht := ord_zero cmpS_eq us vs _ _ _ h
    have p1 := (okB_parts h1).1
    have p2 := (okB_parts h2).1
    have l1 := (lay_part h1 (f := us.length + vs.length) (m := us.length - 1) (by omega) (by omega)).1
    have l2 := (lay_part h2 (f := us.length + vs.length) (m := vs.length - 1) (by omega) (by omega)).1
    rw [part_root h1] at l1
    rw [part_root h2] at l2
    rw [ht] at l1
    exact l1.symm.trans l2
  · intro h
    subst h
    exact orderOf_refl h1
end Go.Proofs.Ytpakfgonemiebaa

/-
  The law's own comparison of two rows of nodes: it says true just where they are the same.
-/
namespace Go.Proofs.Ytpakfgonemiebaa
open Go.RowKit
set_option linter.unusedSimpArgs false
set_option linter.unusedVariables false

theorem strs_eq {a b : List ByteArray} (hl : a.length = b.length) (h : ∀ j, j < a.length → keyAt a j = keyAt b j) : a = b := by
  refine List.ext_getElem hl fun i h1 h2 => ?_
  have := h i h1
  simpa [keyAt, h1, h2] using this

theorem ints_eq {a b : List Int} (hl : a.length = b.length) (h : ∀ j, j < a.length → intAt a j = intAt b j) : a = b := by
  refine List.ext_getElem hl fun i h1 h2 => ?_
  have := h i h1
  simpa [intAt, h1, h2] using this

theorem nodes_eq {a b : List VN} (hl : a.length = b.length) (h : ∀ j, j < a.length → nodeAt a j = nodeAt b j) : a = b := by
  refine List.ext_getElem hl fun i h1 h2 => ?_
  have := h i h1
  simpa [nodeAt, h1, h2] using this

theorem vn_eq {x y : VN} (h1 : x.kind = y.kind) (h2 : x.n = y.n) (h3 : x.s = y.s) (h4 : x.keys = y.keys) (h5 : x.kids = y.kids) : x = y := by
  cases x; cases y; simp_all

theorem bytes_eq {a b : ByteArray} (h : (a.toList == b.toList) = true) : a = b := by
  have e : a.toList = b.toList := eq_of_beq h
  rw [Lib.toList_data, Lib.toList_data] at e
  rw [← Lib.mk_data a, ← Lib.mk_data b, e]

theorem nodes_ne {us vs : List VN} {k : Nat} (h : nodeAt us k ≠ nodeAt vs k) : ¬ us = vs := fun e => h (by rw [e])

theorem ret_no {p : Prop} (h : ¬ p) : ∃ b, Ending.returned (.bool false) = .returned (.bool b) ∧ (b = true ↔ p) := ⟨false, rfl, by simp [h]⟩

set_option maxRecDepth 100000 in
set_option maxHeartbeats 4000000 in
theorem same_any (B : Nat) (v1 v2 : Value) (us vs : List VN) (w : World) (h1 : NodesAt B w v1 us) (h2 : NodesAt B w v2 vs) (hB : B ≤ w.heap.size) :
    Calls Try.prog 13 #[v1, v2] w fun e w' => (∃ b, e = .returned (.bool b) ∧ (b = true ↔ us = vs)) ∧ Below w.heap.size w w' := by
  obtain ⟨hlen, a1, cap1, rfl, hcell1⟩ := h1
  obtain ⟨hlen2, a2, cap2, rfl, hcell2⟩ := h2
  have HC1 := hideIt hcell1
  have HC2 := hideIt hcell2
  clear hcell1 hcell2
  by_cases hl : us.length = vs.length
  case neg =>
    have hne : ((us.length : Int) != (vs.length : Int)) = true := by simp; omega
    have HO : Hid (¬ us = vs) := fun e => hl (by rw [e])
    clear hl
    go_enter Try.func13, Try.ntmps13
    go_wp2_with fail
    go_ret
    exact ⟨ret_no HO.out, Below.refl _ _⟩
  case pos =>
  obtain ⟨N, hN⟩ : ∃ N, us.length = N := ⟨_, rfl⟩
  have HN1 := hideIt hN
  have HN2 := hideIt (hl.symm.trans hN)
  rw [← hl, hN]
  rw [hN] at hlen
  clear hl hN hlen2
  have hne : ((N : Int) != (N : Int)) = false := by simp
  go_enter Try.func13, Try.ntmps13
  go_wp2_with fail
  go_loopw [5] (fun i wr => ∃ k : Nat, k ≤ N ∧ i = .int .i64 k ∧ Hid (∀ j, j < k → nodeAt us j = nodeAt vs j) ∧ Below w.heap.size w wr) (fun i _ => N - (intOf i).toNat)
  case atStart => exact ⟨0, Nat.zero_le _, rfl, fun j hj => absurd hj (by omega), Below.refl _ _⟩
  case round =>
    obtain ⟨k, hk, rfl, HE, hbel⟩ := hrel
    by_cases hlt : k < N
    case neg =>
      have HO : Hid (us = vs) := nodes_eq (HN1.out.trans HN2.out.symm) (fun j hj => HE.out j (by have := HN1.out; omega))
      go_wp2_with fail
      go_ret
      exact ⟨⟨true, rfl, by simp [HO.out]⟩, hbel⟩
    case pos =>
    obtain ⟨b1, o1, rfl, hb1, hc1⟩ := HC1.out (by have := HN1.out; omega)
    obtain ⟨b2, o2, rfl, hb2, hc2⟩ := HC2.out (by have := HN2.out; omega)
    obtain ⟨ka, ki, hn⟩ := hc1 k (by have := HN1.out; omega)
    obtain ⟨ka', ki', hn'⟩ := hc2 k (by have := HN2.out; omega)
    have g := hn.below (hbel.mono hB) hb1
    have g' := hn'.below (hbel.mono hB) hb2
    clear hc1 hc2 hn hn'
    have HG := hideIt g
    have HG' := hideIt g'
    obtain ⟨kl1, ks1, ak1, ck1, e1, hkc1⟩ := g.inn.keys
    obtain ⟨il1, is1, ai1, ci1, e2, hic1⟩ := g.inn.kids
    obtain ⟨kl2, ks2, ak2, ck2, e3, hkc2⟩ := g'.inn.keys
    obtain ⟨il2, is2, ai2, ci2, e4, hic2⟩ := g'.inn.kids
    subst e1 e2 e3 e4
    have c0 := g.c0
    have c1 := g.c1
    have c2 := g.c2
    have c3 := g.c3
    have c4 := g.c4
    have d0 := g'.c0
    have d1 := g'.c1
    have d2 := g'.c2
    have d3 := g'.c3
    have d4 := g'.c4
    clear g g'
    have HEQ : Hid (∀ p : Prop, (nodeAt us k = nodeAt vs k → p) → ¬ p → ¬ us = vs) := fun p h1 h2 => nodes_ne (fun e => h2 (h1 e))
    have hsize := hbel.size
    have HKC1 := hideIt hkc1
    have HKC2 := hideIt hkc2
    have HIC1 := hideIt hic1
    have HIC2 := hideIt hic2
    clear hkc1 hkc2 hic1 hic2 ks1 ks2 is1 is2
    obtain ⟨x, hx⟩ : ∃ x, nodeAt us k = x := ⟨_, rfl⟩
    obtain ⟨y, hy⟩ : ∃ y, nodeAt vs k = y := ⟨_, rfl⟩
    rw [hx] at c0 c1 c2 c3 c4 HKC1 HIC1 HEQ HG
    rw [hy] at d0 d1 d2 d3 d4 HKC2 HIC2 HEQ HG'
    have kl1' : x.keys.length ≤ 8796093022208 := by rw [← hx]; exact kl1
    have kl2' : y.keys.length ≤ 8796093022208 := by rw [← hy]; exact kl2
    have il1' : x.kids.length ≤ 17592186044416 := by rw [← hx]; exact il1
    have il2' : y.kids.length ≤ 17592186044416 := by rw [← hy]; exact il2
    have HX := hideIt hx
    have HY := hideIt hy
    clear hx hy kl1 kl2 il1 il2
    by_cases q1 : x.kind = y.kind
    case neg =>
      have f1 : (x.kind != y.kind) = true := by simpa using q1
      have HO := hideIt (HEQ.out _ (fun e => by rw [e]) q1)
      clear q1
      go_wp2_with fail
      refine wp_region_quiet_lit (by kernel_rfl) (by kernel_rfl) ?_
      simp only [List.append_eq, List.cons_append, List.nil_append]
      repeat (go_big_quiet_step (fail))
      refine wpQuiet_nil ?_
      intro _ hw'
      obtain ⟨nq, hw''⟩ := hw'
      subst hw''
      go_wp2_with fail
      go_ret
      exact ⟨ret_no HO.out, below_drewN hbel nq⟩
    case pos =>
    have f1 : (x.kind != y.kind) = false := by simpa using q1
    have Q1 := hideIt q1
    clear q1
    by_cases q2 : x.n = y.n
    case neg =>
      have f2 : (x.n != y.n) = true := by simpa using q2
      have HO := hideIt (HEQ.out _ (fun e => by rw [e]) q2)
      clear q2
      go_wp2_with fail
      refine wp_region_quiet_lit (by kernel_rfl) (by kernel_rfl) ?_
      simp only [List.append_eq, List.cons_append, List.nil_append]
      repeat (go_big_quiet_step (fail))
      refine wpQuiet_nil ?_
      intro _ hw'
      obtain ⟨nq, hw''⟩ := hw'
      subst hw''
      go_wp2_with fail
      go_ret
      exact ⟨ret_no HO.out, below_drewN hbel nq⟩
    case pos =>
    have f2 : (x.n != y.n) = false := by simpa using q2
    have Q2 := hideIt q2
    clear q2
    by_cases f3 : (x.s.toList == y.s.toList) = true
    case neg =>
      have f3' : (x.s.toList == y.s.toList) = false := by simpa using f3
      have HO := hideIt (HEQ.out ((x.s.toList == y.s.toList) = true) (fun e => by rw [e]; simp) f3)
      clear f3
      go_wp2_with fail
      refine wp_region_quiet_lit (by kernel_rfl) (by kernel_rfl) ?_
      simp only [List.append_eq, List.cons_append, List.nil_append]
      repeat (go_big_quiet_step (fail))
      refine wpQuiet_nil ?_
      intro _ hw'
      obtain ⟨nq, hw''⟩ := hw'
      subst hw''
      go_wp2_with fail
      go_ret
      exact ⟨ret_no HO.out, below_drewN hbel nq⟩
    case pos =>
    by_cases q4 : x.keys.length = y.keys.length
    case neg =>
      have f4 : ((x.keys.length : Int) != (y.keys.length : Int)) = true := by simp; omega
      have HO := hideIt (HEQ.out _ (fun e => by rw [e]) q4)
      clear q4
      go_wp2_with fail
      refine wp_region_quiet_lit (by kernel_rfl) (by kernel_rfl) ?_
      simp only [List.append_eq, List.cons_append, List.nil_append]
      repeat (go_big_quiet_step (fail))
      refine wpQuiet_nil ?_
      intro _ hw'
      obtain ⟨nq, hw''⟩ := hw'
      subst hw''
      go_wp2_with fail
      go_ret
      exact ⟨ret_no HO.out, below_drewN hbel nq⟩
    case pos =>
    by_cases q5 : x.kids.length = y.kids.length
    case neg =>
      have f4 : ((x.keys.length : Int) != (y.keys.length : Int)) = false := by simp; omega
      have f5 : ((x.kids.length : Int) != (y.kids.length : Int)) = true := by simp; omega
      have HO := hideIt (HEQ.out _ (fun e => by rw [e]) q5)
      clear q5 q4
      go_wp2_with fail
      refine wp_region_quiet_lit (by kernel_rfl) (by kernel_rfl) ?_
      simp only [List.append_eq, List.cons_append, List.nil_append]
      repeat (go_big_quiet_step (fail))
      refine wpQuiet_nil ?_
      intro _ hw'
      obtain ⟨nq, hw''⟩ := hw'
      subst hw''
      go_wp2_with fail
      go_ret
      exact ⟨ret_no HO.out, below_drewN hbel nq⟩
    case pos =>
    have Q4 := hideIt q4
    have Q5 := hideIt q5
    obtain ⟨P, hP⟩ : ∃ P, x.keys.length = P := ⟨_, rfl⟩
    obtain ⟨Q, hQ⟩ : ∃ Q, x.kids.length = Q := ⟨_, rfl⟩
    rw [← q4, hP] at d3
    rw [← q5, hQ] at d4
    rw [hP] at c3
    rw [hQ] at c4
    have HP := hideIt hP
    have HQ := hideIt hQ
    have hP' : P ≤ 8796093022208 := by omega
    have hQ' : Q ≤ 17592186044416 := by omega
    clear q4 q5 kl1' kl2' il1' il2' hP hQ
    have f4 : ((P : Int) != (P : Int)) = false := by simp
    have f5 : ((Q : Int) != (Q : Int)) = false := by simp
    have HCL : Hid (∀ W, Below w.heap.size w W → ∀ o, W.cell? ⟨b1, o, none⟩ = wr.cell? ⟨b1, o, none⟩ ∧ W.cell? ⟨b2, o, none⟩ = wr.cell? ⟨b2, o, none⟩) := fun W hW o =>
      ⟨(below_cell hW (by omega)).trans (below_cell hbel (by omega)).symm, (below_cell hW (by omega)).trans (below_cell hbel (by omega)).symm⟩
    have C3 := hideIt c3
    have C4 := hideIt c4
    have D3 := hideIt d3
    have D4 := hideIt d4
    go_wp2_with fail
    refine wp_region_quiet_lit (by kernel_rfl) (by kernel_rfl) ?_
    simp only [List.append_eq, List.cons_append, List.nil_append]
    repeat (go_big_quiet_step (fail))
    refine wpQuiet_nil ?_
    intro _ hw'
    obtain ⟨nq, hw''⟩ := hw'
    subst hw''
    have hbq := below_drewN hbel nq
    obtain ⟨W0, hW0⟩ : ∃ W0, W0 = wr := ⟨_, rfl⟩
    rw [← hW0] at HCL C3 C4 D3 D4 HKC1 HKC2 HIC1 HIC2 HG HG'
    generalize wr.drewN nq = W1 at hbq ⊢
    have HW0 : Hid (Below w.heap.size w W0) := by rw [Hid, hW0]; exact hbel
    clear c0 c1 c2 c3 c4 d0 d1 d2 d3 d4 hW0 hbel
    go_wp2_with fail
    go_loopw [6] (fun i wr => ∃ q : Nat, q ≤ P ∧ i = .int .i64 q ∧ Hid (∀ j, j < q → keyAt x.keys j = keyAt y.keys j) ∧ Below w.heap.size w wr) (fun i _ => P - (intOf i).toNat)
    case atStart => exact ⟨0, Nat.zero_le _, rfl, fun j hj => absurd hj (by omega), hbq⟩
    case round =>
      obtain ⟨q, hq, rfl, HQE, hbr⟩ := hrel
      have e3 := ((HCL.out _ hbr _).1).trans C3.out
      have t3 := ((HCL.out _ hbr _).2).trans D3.out
      by_cases hlq : q < P
      case neg =>
        obtain rfl : q = P := by omega
        go_wp2_with fail
        clear e3 t3
        obtain ⟨W2, rfl⟩ : ∃ W2, W2 = wr := ⟨_, rfl⟩
        go_loopw [7] (fun i wr => ∃ p : Nat, p ≤ Q ∧ i = .int .i64 p ∧ Hid (∀ j, j < p → intAt x.kids j = intAt y.kids j) ∧ Below w.heap.size w wr) (fun i _ => Q - (intOf i).toNat)
        case atStart => exact ⟨0, Nat.zero_le _, rfl, fun j hj => absurd hj (by omega), hbr⟩
        case round =>
          obtain ⟨p, hp, rfl, HPE, hbs⟩ := hrel
          have e4 := ((HCL.out _ hbs _).1).trans C4.out
          have t4 := ((HCL.out _ hbs _).2).trans D4.out
          by_cases hlp : p < Q
          case neg =>
            have HXY : Hid (x = y) := vn_eq Q1.out Q2.out (bytes_eq f3) (strs_eq Q4.out (fun j hj => HQE.out j (by have := HP.out; omega))) (ints_eq Q5.out (fun j hj => HPE.out j (by have := HQ.out; omega)))
            have HE2 : Hid (∀ j, j < k + 1 → nodeAt us j = nodeAt vs j) := fun j hj => by
              by_cases e : j = k
              · subst e; rw [HX.out, HY.out]; exact HXY.out
              · exact HE.out j (by omega)
            go_wp2_with fail
            go_roundw
            case rel => exact ⟨k + 1, by omega, by go_num, HE2, hbs⟩
            case measure => simp [intOf]; omega
          case pos =>
          obtain ⟨b3, o3, rfl, hb3, hc3⟩ := HIC1.out (by have := HQ.out; omega)
          obtain ⟨b4, o4, rfl, hb4, hc4⟩ := HIC2.out (by have := HQ.out; have := Q5.out; omega)
          have r1 := ((below_cell (o := o3 + p) hbs (show b3 < w.heap.size by omega)).trans (below_cell HW0.out (show b3 < w.heap.size by omega)).symm).trans (hc3 p (by have := HQ.out; omega))
          have r2 := ((below_cell (o := o4 + p) hbs (show b4 < w.heap.size by omega)).trans (below_cell HW0.out (show b4 < w.heap.size by omega)).symm).trans (hc4 p (by have := HQ.out; have := Q5.out; omega))
          clear hc3 hc4
          by_cases hke : intAt x.kids p = intAt y.kids p
          case neg =>
            have f6 : (intAt x.kids p != intAt y.kids p) = true := by simpa using hke
            have HO := hideIt (HEQ.out _ (fun e => by rw [e]) hke)
            clear hke
            go_wp2_with fail
            go_quiet (fail)
            go_wp2_with fail
            go_ret
            exact ⟨ret_no HO.out, below_drewN hbs nq⟩
          case pos =>
          have f6 : (intAt x.kids p != intAt y.kids p) = false := by simpa using hke
          have HPE2 : Hid (∀ j, j < p + 1 → intAt x.kids j = intAt y.kids j) := fun j hj => by
            by_cases e : j = p
            · subst e; exact hke
            · exact HPE.out j (by omega)
          clear hke
          go_wp2_with fail
          go_quiet (fail)
          go_wp2_with fail
          go_roundw
          case rel => exact ⟨p + 1, by omega, by go_num, HPE2, below_drewN hbs nq⟩
          case measure => simp [intOf]; omega
      case pos =>
      obtain ⟨b3, o3, rfl, hb3, hc3⟩ := HKC1.out (by have := HP.out; omega)
      obtain ⟨b4, o4, rfl, hb4, hc4⟩ := HKC2.out (by have := HP.out; have := Q4.out; omega)
      have r1 := ((below_cell (o := o3 + q) hbr (show b3 < w.heap.size by omega)).trans (below_cell HW0.out (show b3 < w.heap.size by omega)).symm).trans (hc3 q (by have := HP.out; omega))
      have r2 := ((below_cell (o := o4 + q) hbr (show b4 < w.heap.size by omega)).trans (below_cell HW0.out (show b4 < w.heap.size by omega)).symm).trans (hc4 q (by have := HP.out; have := Q4.out; omega))
      clear hc3 hc4
      by_cases hke : ((keyAt x.keys q).toList == (keyAt y.keys q).toList) = true
      case neg =>
        have f6 : ((keyAt x.keys q).toList == (keyAt y.keys q).toList) = false := by simpa using hke
        have HO := hideIt (HEQ.out (((keyAt x.keys q).toList == (keyAt y.keys q).toList) = true) (fun e => by rw [e]; simp) hke)
        clear hke
        go_wp2_with fail
        go_quiet (fail)
        go_wp2_with fail
        go_ret
        exact ⟨ret_no HO.out, below_drewN hbr nq⟩
      case pos =>
      have HQE2 : Hid (∀ j, j < q + 1 → keyAt x.keys j = keyAt y.keys j) := fun j hj => by
        by_cases e : j = q
        · subst e; exact bytes_eq hke
        · exact HQE.out j (by omega)
      go_wp2_with fail
      go_quiet (fail)
      go_wp2_with fail
      go_roundw
      case rel => exact ⟨q + 1, by omega, by go_num, HQE2, below_drewN hbr nq⟩
      case measure => simp [intOf]; omega
end Go.Proofs.Ytpakfgonemiebaa
