/-
  impl.Plus.
-/
import Derived.Test.YtfijafbpdlakaaaGreatDoorIPls0
import Derived.Test.YtfijafbpdlakaaaGreatDoorIMinA
import Derived.Test.YtfijafbpdlakaaaGreatDoorIPlsM
import Derived.Test.YtfijafbpdlakaaaGreatDoorVAt
import Derived.Test.YtfijafbpdlakaaaGreatDoorVal
import Derived.Test.YtfijafbpdlakaaaGreatDoorCmpE
import Derived.Test.YtfijafbpdlakaaaGreatDoorSMake
import Derived.Test.YtfijafbpdlakaaaGreatDoorSParts
import Derived.Test.YtfijafbpdlakaaaGreatDoorSame
import Derived.Test.YtfijafbpdlakaaaGreatDoorIMinL
import Derived.Test.YtfijafbpdlakaaaGreatDoorPartOk
import Derived.Laws.Concat
namespace Go.Proofs.YtfijafbpdlakaaaGreatDoor
open Go.RowKit
set_option linter.unusedSimpArgs false
set_option linter.unusedVariables false

theorem plus_short (us vs : List VN) : (plusNs us vs).length ≤ 80 := by
  unfold plusNs
  split
  · rename_i h
    split
    · exact (okB_parts h.2).1.2
    · split
      · exact (okB_parts h.1).1.2
      · split
        · split
          · rename_i h2; exact (okB_parts h2).1.2
          · simp
        · simp
  · simp

theorem plus_any (us vs : List VN) (h1 : okB us = true) (h2 : okB vs = true) (hfu : ∀ i, i < us.length → Fits (nodeAt us i)) (hfv : ∀ i, i < vs.length → Fits (nodeAt vs i)) (lo B lo' B' : Nat) (hlo : lo ≤ B) (hlo' : lo' ≤ B') (x y : Value) (w : World) (hx : ValIs lo B w us us.length (us.length - 1) x) (hy : ValIs lo' B' w vs vs.length (vs.length - 1) y) (hB : B ≤ w.heap.size) (hB' : B' ≤ w.heap.size) (hE : Errs2 w) :
    Calls Tryz.prog 25 #[x, y] w fun e w' => MergeAns (plusC us vs) (plusNs us vs) e w' ∧ Below w.heap.size w w' := by
  by_cases k1 : (rootN us).kind = 1
  · exact plus_first us vs h1 h2 lo B lo' B' hlo hlo' x y w hx hy hB hB' hE k1
  by_cases k2 : (rootN vs).kind = 1
  · exact plus_second us vs h1 h2 lo B lo' B' hlo hlo' x y w hx hy hB hB' hE k1 k2
  by_cases k : (rootN us).kind = (rootN vs).kind
  case neg => exact plus_other us vs h1 h2 lo B lo' B' hlo hlo' x y w hx hy hB hB' hE k1 k2 k
  case pos =>
  rcases root_says h1 with q | q | ⟨q, _, _⟩ | ⟨q, _⟩ | ⟨q, _⟩ | ⟨q, _⟩
  · exact absurd q k1
  · exact plus_bools us vs h1 h2 lo B lo' B' hlo hlo' x y w hx hy hB hB' hE q (by omega)
  · exact plus_sum us vs h1 h2 lo B lo' B' hlo hlo' x y w hx hy hB hB' hE q (by omega)
  · exact plus_text us vs h1 h2 lo B lo' B' hlo hlo' x y w hx hy hB hB' hE q (by omega)
  · exact plus_list us vs h1 h2 lo B lo' B' hlo hlo' x y w hx hy hB hB' hE hfu hfv q (by omega)
  · exact plus_map us vs h1 h2 lo B lo' B' hlo hlo' x y w hx hy hB hB' hE hfu hfv q (by omega)

set_option maxRecDepth 100000 in
set_option maxHeartbeats 3200000 in
theorem mergedPlus_any (B : Nat) (v1 v2 : Value) (us vs : List VN) (w : World) (hn1 : NodesAt B w v1 us) (hn2 : NodesAt B w v2 vs) (hB : B ≤ w.heap.size) (hE : Errs2 w) (hf : ∀ i, i < us.length → Fits (nodeAt us i)) (hfv : ∀ i, i < vs.length → Fits (nodeAt vs i)) :
    Calls Tryz.prog 24 #[v1, v2, .func (.func 25) #[] #[]] w fun e w' => ∃ r base KV IV, e = .returned (.tuple #[r, .int .i64 (plusC us vs)]) ∧ w.heap.size ≤ base ∧ base ≤ w'.heap.size ∧ Nest base w' r (plusNs us vs) KV IV ∧ Below w.heap.size w w' := by
  have H1 := hideIt hn1
  have H2 := hideIt hn2
  have HE := hideIt hE
  obtain ⟨_, a1, c1, rfl, _⟩ := hn1
  obtain ⟨_, a2, c2, rfl, _⟩ := hn2
  have HNO : Hid (¬ (okB us = true ∧ okB vs = true) → plusC us vs = 1 ∧ plusNs us vs = []) := fun h => by unfold plusC plusNs; rw [if_neg h, if_neg h]; exact ⟨rfl, rfl⟩
  have HFW := hideIt (plus_short us vs)
  have HFU := hideIt hf
  have HFV := hideIt hfv
  clear hE hf hfv
  cases ok1 : okB us
  · have HN := hideIt (HNO.out (by rw [ok1]; simp))
    cases ok2 : okB vs
    · go_enter Tryz.func24, Tryz.ntmps24
      go_wp2_with fail
      refine (valueOf_no B _ us _ H1.out hB ok1).mono ?_
      rintro e w1 ⟨rfl, hb1⟩
      have HB1 := hideIt hb1
      clear hb1
      go_wp2_with fail
      refine (valueOf_no B _ vs _ (H2.out.below (HB1.out.mono hB)) (Nat.le_trans hB HB1.out.size) ok2).mono ?_
      rintro e w2 ⟨rfl, hb2⟩
      have HB2 := hideIt (HB1.out.trans (hb2.mono HB1.out.size))
      clear hb2
      go_wp2_with fail
      go_ret2
      exact ⟨_, w.heap.size, fun _ => undef, fun _ => undef, by rw [HN.out.1]; rfl, Nat.le_refl _, HB2.out.size, by rw [HN.out.2]; exact Nest.nil _ _ _ _, HB2.out⟩
    · go_enter Tryz.func24, Tryz.ntmps24
      go_wp2_with fail
      refine (valueOf_no B _ us _ H1.out hB ok1).mono ?_
      rintro e w1 ⟨rfl, hb1⟩
      have HB1 := hideIt hb1
      clear hb1
      go_wp2_with fail
      refine (valueOf_yes B _ vs _ (H2.out.below (HB1.out.mono hB)) (Nat.le_trans hB HB1.out.size) ok2).mono ?_
      rintro e w2 ⟨lo2, t2, x2, rfl, _, _, _, hb2⟩
      have HB2 := hideIt (HB1.out.trans (hb2.mono HB1.out.size))
      clear hb2
      go_wp2_with fail
      go_ret2
      exact ⟨_, w.heap.size, fun _ => undef, fun _ => undef, by rw [HN.out.1]; rfl, Nat.le_refl _, HB2.out.size, by rw [HN.out.2]; exact Nest.nil _ _ _ _, HB2.out⟩
  · cases ok2 : okB vs
    · have HN := hideIt (HNO.out (by rw [ok2]; simp))
      go_enter Tryz.func24, Tryz.ntmps24
      go_wp2_with fail
      refine (valueOf_yes B _ us _ H1.out hB ok1).mono ?_
      rintro e w1 ⟨lo1, t1, x1, rfl, _, _, _, hb1⟩
      have HB1 := hideIt hb1
      clear hb1
      go_wp2_with fail
      refine (valueOf_no B _ vs _ (H2.out.below (HB1.out.mono hB)) (Nat.le_trans hB HB1.out.size) ok2).mono ?_
      rintro e w2 ⟨rfl, hb2⟩
      have HB2 := hideIt (HB1.out.trans (hb2.mono HB1.out.size))
      clear hb2
      go_wp2_with fail
      go_ret2
      exact ⟨_, w.heap.size, fun _ => undef, fun _ => undef, by rw [HN.out.1]; rfl, Nat.le_refl _, HB2.out.size, by rw [HN.out.2]; exact Nest.nil _ _ _ _, HB2.out⟩
    · go_enter Tryz.func24, Tryz.ntmps24
      go_wp2_with fail
      refine (valueOf_yes B _ us _ H1.out hB ok1).mono ?_
      rintro e w1 ⟨lo1, t1, x1, rfl, hl1, hl1', hv1, hb1⟩
      have HB1 := hideIt hb1
      have HV1 := hideIt hv1
      clear hb1 hv1
      go_wp2_with fail
      refine (valueOf_yes B _ vs _ (H2.out.below (HB1.out.mono hB)) (Nat.le_trans hB HB1.out.size) ok2).mono ?_
      rintro e w2 ⟨lo2, t2, x2, rfl, hl2, hl2', hv2, hb2⟩
      have HB2 := hideIt (HB1.out.trans (hb2.mono HB1.out.size))
      have HV2 := hideIt hv2
      have HV12 := hideIt (ValIs.keep (Keep.of_below hb2) (Nat.le_refl _) (show lo1 ≤ w1.heap.size by omega) HV1.out)
      have z2 := hb2.size
      have HE2 := hideIt (HE.out.below HB2.out)
      clear hb2 hv2
      go_wp2_with fail
      refine (plus_any us vs ok1 ok2 HFU.out HFV.out lo1 w1.heap.size lo2 w2.heap.size (by omega) (by omega) _ _ w2 HV12.out HV2.out z2 (Nat.le_refl _) HE2.out).mono ?_
      rintro e w3 ⟨hans, hb3⟩
      have HB3 := hideIt (HB2.out.trans (hb3.mono HB2.out.size))
      have HE3 := hideIt (HE.out.below HB3.out)
      clear hb3
      rcases hans with ⟨hc, f, t, ty, xv, rfl, ht, hl⟩ | ⟨hn, v, rfl, te, xe, rfl⟩
      · have HT := hideIt ht
        have HL := hideIt hl
        have HC := hideIt hc
        clear ht hl hc
        go_wp2_with fail
        refine (nodesOr_yes f t _ (plusNs us vs) w3 HT.out HL.out (by have := HFW.out; omega)).mono ?_
        rintro e w4 ⟨r, KV, IV, rfl, hn4, hb4⟩
        have HN4 := hideIt hn4
        have HB4 := hideIt (HB3.out.trans (hb4.mono HB3.out.size))
        have z4 := hb4.size
        obtain ⟨ar, cr, er⟩ := own_slice hn4.row
        obtain ⟨N, hN⟩ : ∃ N, (plusNs us vs).length = N := ⟨_, rfl⟩
        rw [hN] at er
        subst er
        clear hn4 hb4 hN
        go_wp2_with fail
        go_ret2
        exact ⟨_, w3.heap.size, KV, IV, by rw [HC.out]; rfl, HB3.out.size, z4, HN4.out, HB4.out⟩
      · have HN := hideIt hn
        clear hn
        obtain ⟨C, hC⟩ : ∃ C, plusC us vs = C := ⟨_, rfl⟩
        have HC := hideIt hC
        rw [hC]
        clear hC
        go_wp2_with fail
        refine (nodesOr_no C _ _ w3 ⟨te, xe, rfl⟩ (Or.inl rfl) HE3.out.errs).mono ?_
        rintro e w4 ⟨rfl, hb4⟩
        have HB4 := hideIt (HB3.out.trans (hb4.mono HB3.out.size))
        clear hb4
        go_wp2_with fail
        go_ret2
        exact ⟨_, w.heap.size, fun _ => undef, fun _ => undef, by rw [HC.out]; rfl, Nat.le_refl _, HB4.out.size, by rw [HN.out]; exact Nest.nil _ _ _ _, HB4.out⟩

set_option maxHeartbeats 800000 in
theorem implPlus_any (B : Nat) (v1 v2 : Value) (us vs : List VN) (w : World) (hn1 : NodesAt B w v1 us) (hn2 : NodesAt B w v2 vs) (hB : B ≤ w.heap.size) (hE : Errs2 w) :
    Calls Tryz.prog 8 #[v1, v2] w fun e w' => ∃ r base KV IV, e = .returned (.tuple #[r, .int .i64 (plusC us vs)]) ∧ w.heap.size ≤ base ∧ base ≤ w'.heap.size ∧ Nest base w' r (plusNs us vs) KV IV ∧ Below w.heap.size w w' := by
  have H1 := hideIt hn1
  have H2 := hideIt hn2
  have HE := hideIt hE
  obtain ⟨_, a1, c1, rfl, _⟩ := hn1
  obtain ⟨_, a2, c2, rfl, _⟩ := hn2
  clear hE
  go_enter Tryz.func8, Tryz.ntmps8
  go_wp2_with fail
  refine (mergedPlus_any B _ _ us vs w H1.out H2.out hB HE.out H1.out.fits H2.out.fits).mono ?_
  rintro e w1 ⟨r, base, KV, IV, rfl, hb0, hb0', hn, hb⟩
  have HN := hideIt hn
  have HB := hideIt hb
  obtain ⟨C, hC⟩ : ∃ C, plusC us vs = C := ⟨_, rfl⟩
  have HC := hideIt hC
  rw [hC]
  obtain ⟨ar, cr, er⟩ := own_slice hn.row
  obtain ⟨N, hN⟩ : ∃ N, (plusNs us vs).length = N := ⟨_, rfl⟩
  rw [hN] at er
  subst er
  clear hn hb hN hC
  go_wp2_with fail
  go_ret2
  exact ⟨_, base, KV, IV, by rw [HC.out]; rfl, hb0, hb0', HN.out, HB.out⟩
end Go.Proofs.YtfijafbpdlakaaaGreatDoor

/-
  spec.LengthOf.
-/
namespace Go.Proofs.YtfijafbpdlakaaaGreatDoor
open Go.RowKit
set_option linter.unusedSimpArgs false
set_option linter.unusedVariables false

set_option maxHeartbeats 800000 in
theorem l1NumberX (n : Int) (w : World) : Calls Tryz.prog 45 #[.int .i64 n] w fun e w' => ∃ r KV IV, e = .returned r ∧ Nest w.heap.size w' r (leafN 3 n ByteArray.empty) KV IV ∧ Below w.heap.size w w' := by
  go_enter Tryz.func45, Tryz.ntmps45
  go_wp2_with fail
  go_ret
  exact ⟨_, _, _, rfl, leaf_nest w 3 n _, (Below.refl _ _).alloc (Nat.le_refl _) _⟩

end Go.Proofs.YtfijafbpdlakaaaGreatDoor

/-
  spec.Minus.
-/
namespace Go.Proofs.YtfijafbpdlakaaaGreatDoor
open Go.RowKit
set_option linter.unusedSimpArgs false
set_option linter.unusedVariables false

set_option maxHeartbeats 800000 in
theorem l8Right_yes (B : Nat) (v : Value) (vs : List VN) (w : World) (h : NodesAt B w v vs) (hB : B ≤ w.heap.size) (ok : okB vs = true) :
    Calls Tryz.prog 57 #[v] w fun e w' => e = .returned (.tuple #[v, .int .i64 0]) ∧ Below w.heap.size w w' := by
  have HV := hideIt h
  obtain ⟨_, a, cap, rfl, _⟩ := h
  go_enter Tryz.func57, Tryz.ntmps57
  go_wp2_with fail
  refine (specOk_any B _ vs _ HV.out hB).mono ?_
  rintro e w1 ⟨rfl, hb1⟩
  rw [ok]
  go_wp2_with fail
  go_ret2
  exact ⟨rfl, hb1⟩
set_option maxHeartbeats 800000 in
theorem l8Right_no (B : Nat) (v : Value) (vs : List VN) (w : World) (h : NodesAt B w v vs) (hB : B ≤ w.heap.size) (ok : okB vs = false) :
    Calls Tryz.prog 57 #[v] w fun e w' => e = .returned (.tuple #[.slice none 0 0, .int .i64 3]) ∧ Below w.heap.size w w' := by
  have HV := hideIt h
  obtain ⟨_, a, cap, rfl, _⟩ := h
  go_enter Tryz.func57, Tryz.ntmps57
  go_wp2_with fail
  refine (specOk_any B _ vs _ HV.out hB).mono ?_
  rintro e w1 ⟨rfl, hb1⟩
  rw [ok]
  go_wp2_with fail
  go_ret2
  exact ⟨rfl, hb1⟩

theorem call_compare (u v : Value) : ∀ w, (callFunc 61 #[u, v]).run Tryz.prog w = .ok (.enter 61 #[u, v]) w := fun w => by kernel_rfl

/-- Rows that were picked, as they are read. -/
theorem rows_pick {base B m : Nat} {w : World} {v : Value} {ps : List Nat} {cs : Nat → Value} {L : Nat → List VN} (h : w.ownsRow base 24 1 v ps.length (ps.map cs)) (hm : ps.length ≤ 1048576) (hB : B ≤ w.heap.size) (hps : ∀ x ∈ ps, x < m) (hc : ∀ i, i < m → NodesAt B w (cs i) (L i)) : RowsAt w.heap.size w v ps.length (fun j => L (ps.getD j 0)) := by
  obtain ⟨a, c, e⟩ := own_slice h
  subst e
  refine ⟨hm, a, c, rfl, fun hp => ?_⟩
  obtain ⟨g, c', e, _, hg⟩ := h.form hp
  cases e
  refine ⟨g, rfl, hg, fun i hi => ⟨cs (ps.getD i 0), ?_, ?_⟩⟩
  · rw [h.cellAt i (by omega), List.getElem?_map, List.getElem?_eq_getElem (by omega), List.getD_eq_getElem?_getD, List.getElem?_eq_getElem (by omega)]
    rfl
  · refine (hc _ ?_).wide hB
    apply hps
    rw [List.getD_eq_getElem?_getD, List.getElem?_eq_getElem (by omega)]
    exact List.getElem_mem _

theorem rows_vals {B m : Nat} {w : World} {u : Value} {L : Nat → List VN} (h : RowsAt B w u m L) : ∃ cs : Nat → Value, (∀ i, i < m → NodesAt B w (cs i) (L i)) ∧ ∃ a c, u = .slice a m c ∧ (0 < m → ∃ b, a = some ⟨b, 0, none⟩ ∧ b < B ∧ ∀ i, i < m → w.cell? ⟨b, i, none⟩ = some (cs i)) := by
  obtain ⟨hm, a, c, rfl, hc⟩ := h
  rcases Nat.eq_zero_or_pos m with e | e
  · exact ⟨fun _ => undef, fun i hi => by omega, a, c, rfl, fun hp => by omega⟩
  · obtain ⟨b, rfl, hb, hr⟩ := hc e
    refine ⟨fun i => (w.cell? ⟨b, i, none⟩).getD undef, fun i hi => ?_, _, c, rfl, fun _ => ⟨b, rfl, hb, fun i hi => ?_⟩⟩
    · obtain ⟨r, e1, hn⟩ := hr i hi
      simp only [e1]; exact hn
    · obtain ⟨r, e1, hn⟩ := hr i hi
      simp only [e1]; rfl

theorem info_row : (Tryz.prog.info? 24).map (fun i => (i.zero, i.size, i.bytes)) = some (some (.slice none 0 0), 1, 24) := by kernel_rfl

/-- A root's cells. -/
theorem root_cells {B : Nat} {w : World} {v : Value} {us : List VN} (h : NodesAt B w v us) (hl : 0 < us.length) : ∃ b o c aK nK cK aI nI cI, v = .slice (some ⟨b, o, none⟩) us.length c ∧ b < B ∧ nI = (rootN us).kids.length ∧ nK = (rootN us).keys.length ∧ w.cell? ⟨b, o + (us.length - 1) * 5, none⟩ = some (.int .i64 (rootN us).kind) ∧ w.cell? ⟨b, o + (us.length - 1) * 5 + 1, none⟩ = some (.int .i64 (rootN us).n) ∧ w.cell? ⟨b, o + (us.length - 1) * 5 + 2, none⟩ = some (.string (rootN us).s) ∧ w.cell? ⟨b, o + (us.length - 1) * 5 + 3, none⟩ = some (.slice aK nK cK) ∧ w.cell? ⟨b, o + (us.length - 1) * 5 + 4, none⟩ = some (.slice aI nI cI) := by
  obtain ⟨_, a, c, rfl, hc⟩ := h
  obtain ⟨b, o, rfl, hb, hcc⟩ := hc hl
  obtain ⟨ka, ki, hn⟩ := hcc (us.length - 1) (by omega)
  obtain ⟨_, _, aK, cK, eK, _⟩ := hn.inn.keys
  obtain ⟨_, _, aI, cI, eI, _⟩ := hn.inn.kids
  exact ⟨b, o, c, aK, _, cK, aI, _, cI, rfl, hb, rfl, rfl, hn.c0, hn.c1, hn.c2, by rw [hn.c3, eK]; rfl, by rw [hn.c4, eI]; rfl⟩

set_option maxRecDepth 100000 in
set_option maxHeartbeats 3200000 in
theorem l8Minus_flat (B : Nat) (v1 v2 : Value) (us vs : List VN) (w : World) (hn1 : NodesAt B w v1 us) (hn2 : NodesAt B w v2 vs) (hB : B ≤ w.heap.size) (ok1 : okB us = true) (ok2 : okB vs = true) (hno : ¬ ((rootN us).kind = 5 ∧ (rootN vs).kind = 5)) :
    Calls Tryz.prog 28 #[v1, v2] w fun e w' => ∃ r base KV IV, e = .returned (.tuple #[r, .int .i64 (minC us vs)]) ∧ w.heap.size ≤ base ∧ Nest base w' r (minNs us vs) KV IV ∧ Below w.heap.size w w' := by
  obtain ⟨p1a, p1b⟩ := (okB_parts ok1).1
  obtain ⟨p2a, p2b⟩ := (okB_parts ok2).1
  obtain ⟨b1, o1, c1, aK1, nK1, cK1, aI1, nI1, cI1, rfl, hb1, u1, u2, d0, d1, d2, d3, d4⟩ := root_cells hn1 (by omega)
  clear u1 u2
  obtain ⟨b2, o2, c2, aK2, nK2, cK2, aI2, nI2, cI2, rfl, hb2, u1, u2, g0, g1, g2, g3, g4⟩ := root_cells hn2 (by omega)
  clear u1 u2
  have HO := hideIt (fun a => min_other ok1 ok2 a hno)
  have HD := hideIt (fun a => min_diff ok1 ok2 a)
  have HRN1 := hideIt (fun a => root_n ok1 a)
  have HRN2 := hideIt (fun a => root_n ok2 a)
  have HDN : Hid (diffNs us vs = leafN 3 ((rootN us).n - (rootN vs).n) ByteArray.empty) := rfl
  obtain ⟨N1, hN1⟩ : ∃ N1, us.length = N1 := ⟨_, rfl⟩
  obtain ⟨N2, hN2⟩ : ∃ N2, vs.length = N2 := ⟨_, rfl⟩
  rw [hN1] at p1a p1b d0 d1 d2 d3 d4 ⊢
  rw [hN2] at p2a p2b g0 g1 g2 g3 g4 ⊢
  have z1 : ((N1 : Int) - 1).toNat = N1 - 1 := by omega
  have z2 : ((N2 : Int) - 1).toNat = N2 - 1 := by omega
  obtain ⟨kx, hkx⟩ : ∃ k, (rootN us).kind = k := ⟨_, rfl⟩
  obtain ⟨ky, hky⟩ : ∃ k, (rootN vs).kind = k := ⟨_, rfl⟩
  obtain ⟨nx, hnx⟩ : ∃ k, (rootN us).n = k := ⟨_, rfl⟩
  obtain ⟨ny, hny⟩ : ∃ k, (rootN vs).n = k := ⟨_, rfl⟩
  obtain ⟨sx, hsx⟩ : ∃ k, (rootN us).s = k := ⟨_, rfl⟩
  obtain ⟨sy, hsy⟩ : ∃ k, (rootN vs).s = k := ⟨_, rfl⟩
  rw [hkx] at d0 HO HD HRN1 hno
  rw [hky] at g0 HO HD HRN2 hno
  rw [hnx] at d1 HDN HRN1
  rw [hny] at g1 HDN HRN2
  rw [hsx] at d2
  rw [hsy] at g2
  have HBA : Hid (Below w.heap.size w ((w.alloc (.cells #[.int .i64 kx, .int .i64 nx, .string sx, .slice aK1 nK1 cK1, .slice aI1 nI1 cI1] 34)).alloc (.cells #[.int .i64 ky, .int .i64 ny, .string sy, .slice aK2 nK2 cK2, .slice aI2 nI2 cI2] 34))) := ((Below.refl _ _).alloc (Nat.le_refl _) _).alloc (by simp) _
  clear hn1 hn2 hN1 hN2 hkx hky hnx hny hsx hsy ok1 ok2
  have hbx : Below w.heap.size w (w.alloc (.cells #[.int .i64 kx, .int .i64 nx, .string sx, .slice aK1 nK1 cK1, .slice aI1 nI1 cI1] 34)) := (Below.refl _ _).alloc (Nat.le_refl _) _
  have e0 := (below_cell hbx (show b2 < w.heap.size by omega)).trans g0
  have e1 := (below_cell hbx (show b2 < w.heap.size by omega)).trans g1
  have e2 := (below_cell hbx (show b2 < w.heap.size by omega)).trans g2
  have e3 := (below_cell hbx (show b2 < w.heap.size by omega)).trans g3
  have e4 := (below_cell hbx (show b2 < w.heap.size by omega)).trans g4
  clear hbx g0 g1 g2 g3 g4
  by_cases h3 : kx = 3 ∧ ky = 3
  · obtain ⟨rfl, rfl⟩ := h3
    have HM := hideIt (HD.out ⟨rfl, rfl⟩)
    obtain ⟨n1a, n1b⟩ := HRN1.out rfl
    obtain ⟨n2a, n2b⟩ := HRN2.out rfl
    have HLF := hideIt (leaf_few (nx - ny) (by omega) (by omega))
    go_enter Tryz.func28, Tryz.ntmps28
    go_wp2_with fail
    refine (l1NumberX (nx - ny) _).mono ?_
    rintro e w3 ⟨r, KV, IV, rfl, hn, hb⟩
    have HB3 := hideIt (HBA.out.trans (hb.mono HBA.out.size))
    have HN3 := hideIt (hn.low HBA.out.size)
    have HND := hideIt (hn.nodes (by simp [leafN]) HLF.out.2)
    obtain ⟨ar, cr, er⟩ := own_slice hn.row
    simp only [leafN, List.length_cons, List.length_nil] at er
    subst er
    clear hn hb
    cases ok : okB (leafN 3 (nx - ny) ByteArray.empty)
    · go_wp2_with fail
      refine (l8Right_no w3.heap.size _ _ w3 HND.out (Nat.le_refl _) ok).mono ?_
      rintro e w4 ⟨rfl, hb4⟩
      have HB4 := hideIt (HB3.out.trans (hb4.mono HB3.out.size))
      clear hb4
      go_wp2_with fail
      go_ret2
      exact ⟨_, w.heap.size, fun _ => undef, fun _ => undef, by rw [HM.out.1, HDN.out, ok]; rfl, Nat.le_refl _, by rw [HM.out.2, HDN.out, ok]; exact Nest.nil _ _ _ _, HB4.out⟩
    · go_wp2_with fail
      refine (l8Right_yes w3.heap.size _ _ w3 HND.out (Nat.le_refl _) ok).mono ?_
      rintro e w4 ⟨rfl, hb4⟩
      have HB4 := hideIt (HB3.out.trans (hb4.mono HB3.out.size))
      have HN4 := hideIt (HN3.out.below hb4)
      clear hb4
      go_wp2_with fail
      go_ret2
      exact ⟨_, w.heap.size, KV, IV, by rw [HM.out.1, HDN.out, ok]; rfl, Nat.le_refl _, by rw [HM.out.2, HDN.out, ok]; exact HN4.out, HB4.out⟩
  · have HM := hideIt (HO.out h3)
    by_cases k3 : kx = 3
    · have q2 : (ky == 3) = false := by simp; intro e; exact h3 ⟨k3, e⟩
      have q1 : (kx == 3) = true := by simpa using k3
      have q3 : (kx != 5) = true := by simp; omega
      clear h3 k3 hno
      go_enter Tryz.func28, Tryz.ntmps28
      go_wp2_with fail
      go_ret2
      exact ⟨_, w.heap.size, fun _ => undef, fun _ => undef, by rw [HM.out.1]; rfl, Nat.le_refl _, by rw [HM.out.2]; exact Nest.nil _ _ _ _, HBA.out⟩
    · have q1 : (kx == 3) = false := by simpa using k3
      by_cases k5 : kx = 5
      · have q3 : (kx != 5) = false := by simpa using k5
        have q4 : (ky != 5) = true := by simp; intro e; exact hno ⟨k5, e⟩
        clear h3 k3 k5 hno
        go_enter Tryz.func28, Tryz.ntmps28
        go_wp2_with fail
        go_ret2
        exact ⟨_, w.heap.size, fun _ => undef, fun _ => undef, by rw [HM.out.1]; rfl, Nat.le_refl _, by rw [HM.out.2]; exact Nest.nil _ _ _ _, HBA.out⟩
      · have q3 : (kx != 5) = true := by simpa using k5
        clear h3 k3 k5 hno
        go_enter Tryz.func28, Tryz.ntmps28
        go_wp2_with fail
        go_ret2
        exact ⟨_, w.heap.size, fun _ => undef, fun _ => undef, by rw [HM.out.1]; rfl, Nat.le_refl _, by rw [HM.out.2]; exact Nest.nil _ _ _ _, HBA.out⟩
end Go.Proofs.YtfijafbpdlakaaaGreatDoor

/-
  spec.l8Plus where one side is null, where the kinds part, at two truth values, numbers, texts.
-/
namespace Go.Proofs.YtfijafbpdlakaaaGreatDoor
open Go.RowKit
set_option linter.unusedSimpArgs false
set_option linter.unusedVariables false

theorem l1WordX (s : ByteArray) (w : World) : Calls Tryz.prog 47 #[.string s] w fun e w' => ∃ r KV IV, e = .returned r ∧ Nest w.heap.size w' r (leafN 4 0 s) KV IV ∧ Below w.heap.size w w' := by
  go_enter Tryz.func47, Tryz.ntmps47
  go_wp2_with fail
  go_ret
  exact ⟨_, _, _, rfl, leaf_nest w 4 0 _, (Below.refl _ _).alloc (Nat.le_refl _) _⟩

theorem l1CopyX (B : Nat) (v : Value) (vs : List VN) (w : World) (h : NodesAt B w v vs) (ok : okB vs = true) (hB : B ≤ w.heap.size) :
    Calls Tryz.prog 56 #[v] w fun e w' => ∃ r KV IV, e = .returned r ∧ Nest w.heap.size w' r vs KV IV ∧ Below w.heap.size w w' := by
  have H := hideIt h
  obtain ⟨_, a, cap, rfl, _⟩ := h
  have hl := (okB_parts ok).1
  have HNR := hideIt (near_of (L := fun _ => vs) (m := 1) (fun i hi => ok) 0 (by omega)).2
  go_enter Tryz.func56, Tryz.ntmps56
  go_wp2_with fail
  refine (l1Add_any w.heap.size w.heap.size (.slice none 0 0) _ [] vs (fun _ => undef) (fun _ => undef) w (Nest.nil _ _ _ _) (NodesAt.wide H.out hB) (Nat.le_refl _) (Nat.le_refl _) (by simp; omega) HNR.out).mono ?_
  rintro e w2 ⟨r, KV, IV, rfl, hl2⟩
  have hb : Below w.heap.size w w2 := (Below.refl _ _).grown hl2.2.1 (Nat.le_refl _) (fun k hk => by simp [Value.ownBlock] at hk)
  have hn := hl2.1
  have e0 : vs.map (shiftN (([] : List VN).length : Int)) = vs := by
    have : ∀ x : VN, shiftN (([] : List VN).length : Int) x = x := fun x => shift_zero x
    rw [List.map_congr_left (fun x _ => this x)]; simp
  rw [List.nil_append, e0] at hn
  have HN := hideIt hn
  have HB := hideIt hb
  obtain ⟨ar, cr, er⟩ := own_slice hn.row
  obtain ⟨M, hM⟩ : ∃ M, vs.length = M := ⟨_, rfl⟩
  rw [hM] at er
  subst er
  clear hl2 hn hb hM
  go_wp2_with fail
  go_ret
  exact ⟨_, KV, IV, rfl, HN.out, HB.out⟩

theorem root_s' {us : List VN} (hok : okB us = true) (hk : (rootN us).kind = 4) : (rootN us).s.size ≤ 60 := by
  rcases root_says hok with k | k | ⟨k, a, b⟩ | ⟨k, a⟩ | ⟨k, a⟩ | ⟨k, a⟩
  · omega
  · omega
  · omega
  · exact a
  · omega
  · omega
theorem text_few' (s : ByteArray) (h : s.size ≤ 140737488355328) : ∀ i, i < (leafN 4 0 s).length → Fits (nodeAt (leafN 4 0 s) i) := by
  intro i hi
  obtain rfl : i = 0 := by simp [leafN] at hi; omega
  refine ⟨by simp [leafN, nodeAt], fun i hi => absurd hi (by simp [leafN, nodeAt]), by simp [leafN, nodeAt], fun i hi => absurd hi (by simp [leafN, nodeAt]), by simpa [leafN, nodeAt] using h, by simp [leafN, nodeAt], by simp [leafN, nodeAt], by simp [leafN, nodeAt], by simp [leafN, nodeAt]⟩

set_option maxRecDepth 100000 in
set_option maxHeartbeats 3200000 in
theorem l8Plus_flat (B : Nat) (v1 v2 : Value) (us vs : List VN) (w : World) (hn1 : NodesAt B w v1 us) (hn2 : NodesAt B w v2 vs) (hB : B ≤ w.heap.size) (ok1 : okB us = true) (ok2 : okB vs = true) (hno : (rootN us).kind ≠ (rootN vs).kind ∨ ((rootN us).kind ≠ 5 ∧ (rootN us).kind ≠ 6)) :
    Calls Tryz.prog 26 #[v1, v2] w fun e w' => ∃ r base KV IV, e = .returned (.tuple #[r, .int .i64 (plusC us vs)]) ∧ w.heap.size ≤ base ∧ Nest base w' r (plusNs us vs) KV IV ∧ Below w.heap.size w w' := by
  obtain ⟨p1a, p1b⟩ := (okB_parts ok1).1
  obtain ⟨p2a, p2b⟩ := (okB_parts ok2).1
  obtain ⟨b1, o1, c1, aK1, nK1, cK1, aI1, nI1, cI1, rfl, hb1, u1, u2, d0, d1, d2, d3, d4⟩ := root_cells hn1 (by omega)
  clear u1 u2
  obtain ⟨b2, o2, c2, aK2, nK2, cK2, aI2, nI2, cI2, rfl, hb2, u1, u2, g0, g1, g2, g3, g4⟩ := root_cells hn2 (by omega)
  clear u1 u2
  have H1 := hideIt (fun a => plus_null1 ok1 ok2 a)
  have H2 := hideIt (fun a b => plus_null2 ok1 ok2 a b)
  have H3 := hideIt (fun a b c => plus_unlike ok1 ok2 a b c)
  have H4 := hideIt (fun a b c => plus_raw ok1 ok2 a b c)
  have H5 := hideIt (fun a => raw_sum (us := us) (vs := vs) a)
  have H6 := hideIt (fun a => raw_text (us := us) (vs := vs) a)
  have HRN1 := hideIt (fun a => root_n ok1 a)
  have HRN2 := hideIt (fun a => root_n ok2 a)
  have HRS1 := hideIt (fun a => root_s' ok1 a)
  have HRS2 := hideIt (fun a => root_s' ok2 a)
  have HC1 := hideIt (fun W (hb : Below w.heap.size w W) => l1CopyX B _ us W (hn1.below (hb.mono hB)) ok1 (Nat.le_trans hB hb.size))
  have HC2 := hideIt (fun W (hb : Below w.heap.size w W) => l1CopyX B _ vs W (hn2.below (hb.mono hB)) ok2 (Nat.le_trans hB hb.size))
  have HSN : Hid (sumNs us vs = leafN 3 ((rootN us).n + (rootN vs).n) ByteArray.empty) := rfl
  have HTN : Hid (textNs us vs = leafN 4 0 ((rootN us).s ++ (rootN vs).s)) := rfl
  have HRT := hideIt (root_says ok1)
  obtain ⟨N1, hN1⟩ : ∃ N1, us.length = N1 := ⟨_, rfl⟩
  obtain ⟨N2, hN2⟩ : ∃ N2, vs.length = N2 := ⟨_, rfl⟩
  rw [hN1] at p1a p1b d0 d1 d2 d3 d4 HC1 ⊢
  rw [hN2] at p2a p2b g0 g1 g2 g3 g4 HC2 ⊢
  have HL1 := hideIt hN1
  have HL2 := hideIt hN2
  have z1 : ((N1 : Int) - 1).toNat = N1 - 1 := by omega
  have z2 : ((N2 : Int) - 1).toNat = N2 - 1 := by omega
  obtain ⟨kx, hkx⟩ : ∃ k, (rootN us).kind = k := ⟨_, rfl⟩
  obtain ⟨ky, hky⟩ : ∃ k, (rootN vs).kind = k := ⟨_, rfl⟩
  obtain ⟨nx, hnx⟩ : ∃ k, (rootN us).n = k := ⟨_, rfl⟩
  obtain ⟨ny, hny⟩ : ∃ k, (rootN vs).n = k := ⟨_, rfl⟩
  obtain ⟨sx, hsx⟩ : ∃ k, (rootN us).s = k := ⟨_, rfl⟩
  obtain ⟨sy, hsy⟩ : ∃ k, (rootN vs).s = k := ⟨_, rfl⟩
  have HKX := hideIt hkx
  have HKY := hideIt hky
  rw [hkx] at d0 H1 H2 H3 H4 H5 H6 HRN1 HRS1 hno
  rw [hky] at g0 H2 H3 H4 HRN2 HRS2 hno
  rw [hnx] at d1 HSN HRN1
  rw [hny] at g1 HSN HRN2
  rw [hsx] at d2 HTN HRS1
  rw [hsy] at g2 HTN HRS2
  have HKQ : Hid (kx = 1 ∨ kx = 2 ∨ kx = 3 ∨ kx = 4 ∨ kx = 5 ∨ kx = 6) := by
    rw [Hid, ← hkx]
    rcases HRT.out with k | k | ⟨k, _, _⟩ | ⟨k, _⟩ | ⟨k, _⟩ | ⟨k, _⟩ <;> omega
  have HBA : Hid (Below w.heap.size w ((w.alloc (.cells #[.int .i64 kx, .int .i64 nx, .string sx, .slice aK1 nK1 cK1, .slice aI1 nI1 cI1] 34)).alloc (.cells #[.int .i64 ky, .int .i64 ny, .string sy, .slice aK2 nK2 cK2, .slice aI2 nI2 cI2] 34))) := ((Below.refl _ _).alloc (Nat.le_refl _) _).alloc (by simp) _
  clear hn1 hn2 hN1 hN2 hkx hky hnx hny hsx hsy ok1 ok2 HRT
  have hbx : Below w.heap.size w (w.alloc (.cells #[.int .i64 kx, .int .i64 nx, .string sx, .slice aK1 nK1 cK1, .slice aI1 nI1 cI1] 34)) := (Below.refl _ _).alloc (Nat.le_refl _) _
  have e0 := (below_cell hbx (show b2 < w.heap.size by omega)).trans g0
  have e1 := (below_cell hbx (show b2 < w.heap.size by omega)).trans g1
  have e2 := (below_cell hbx (show b2 < w.heap.size by omega)).trans g2
  have e3 := (below_cell hbx (show b2 < w.heap.size by omega)).trans g3
  have e4 := (below_cell hbx (show b2 < w.heap.size by omega)).trans g4
  clear hbx g0 g1 g2 g3 g4
  by_cases k1 : kx = 1
  · have HM := hideIt (H1.out k1)
    have q1 : (kx == 1) = true := by simpa using k1
    clear k1 hno
    go_enter Tryz.func26, Tryz.ntmps26
    go_wp2_with fail
    refine (HC2.out _ HBA.out).mono ?_
    rintro e w3 ⟨r, KV, IV, rfl, hn, hb⟩
    have HB3 := hideIt (HBA.out.trans (hb.mono HBA.out.size))
    have HN3 := hideIt (hn.low HBA.out.size)
    obtain ⟨ar, cr, er⟩ := own_slice hn.row
    rw [HL2.out] at er
    subst er
    clear hn hb
    go_wp2_with fail
    go_ret2
    exact ⟨_, w.heap.size, KV, IV, by rw [HM.out.1]; rfl, Nat.le_refl _, by rw [HM.out.2]; exact HN3.out, HB3.out⟩
  have q1 : (kx == 1) = false := by simpa using k1
  by_cases k2 : ky = 1
  · have HM := hideIt (H2.out k1 k2)
    have q2 : (ky == 1) = true := by simpa using k2
    clear k1 k2 hno
    go_enter Tryz.func26, Tryz.ntmps26
    go_wp2_with fail
    refine (HC1.out _ HBA.out).mono ?_
    rintro e w3 ⟨r, KV, IV, rfl, hn, hb⟩
    have HB3 := hideIt (HBA.out.trans (hb.mono HBA.out.size))
    have HN3 := hideIt (hn.low HBA.out.size)
    obtain ⟨ar, cr, er⟩ := own_slice hn.row
    rw [HL1.out] at er
    subst er
    clear hn hb
    go_wp2_with fail
    go_ret2
    exact ⟨_, w.heap.size, KV, IV, by rw [HM.out.1]; rfl, Nat.le_refl _, by rw [HM.out.2]; exact HN3.out, HB3.out⟩
  have q2 : (ky == 1) = false := by simpa using k2
  by_cases k : kx = ky
  case neg =>
    have HM := hideIt (H3.out k1 k2 (fun h => k h.1))
    have q3 : (kx != ky) = true := by simpa using k
    clear k1 k2 k hno
    go_enter Tryz.func26, Tryz.ntmps26
    go_wp2_with fail
    go_ret2
    exact ⟨_, w.heap.size, fun _ => undef, fun _ => undef, by rw [HM.out.1]; rfl, Nat.le_refl _, by rw [HM.out.2]; exact Nest.nil _ _ _ _, HBA.out⟩
  case pos =>
  have q3 : (kx != ky) = false := by simpa using k
  have h56 : kx ≠ 5 ∧ kx ≠ 6 := by rcases hno with h | h; exact absurd k h; exact h
  by_cases k3 : kx = 3
  · have HM := hideIt (H4.out k1 k (by omega))
    rw [H5.out k3, HSN.out] at HM
    have q4 : (kx == 3) = true := by simpa using k3
    obtain ⟨n1a, n1b⟩ := HRN1.out k3
    obtain ⟨n2a, n2b⟩ := HRN2.out (by omega)
    have HLF := hideIt (leaf_few (nx + ny) (by omega) (by omega)).2
    clear k1 k2 k k3 hno h56
    go_enter Tryz.func26, Tryz.ntmps26
    go_wp2_with fail
    refine (l1NumberX (nx + ny) _).mono ?_
    rintro e w3 ⟨r, KV, IV, rfl, hn, hb⟩
    have HB3 := hideIt (HBA.out.trans (hb.mono HBA.out.size))
    have HN3 := hideIt (hn.low HBA.out.size)
    have HND := hideIt (hn.nodes (by simp [leafN]) HLF.out)
    obtain ⟨ar, cr, er⟩ := own_slice hn.row
    simp only [leafN, List.length_cons, List.length_nil] at er
    subst er
    clear hn hb
    cases ok : okB (leafN 3 (nx + ny) ByteArray.empty)
    · go_wp2_with fail
      refine (l8Right_no w3.heap.size _ _ w3 HND.out (Nat.le_refl _) ok).mono ?_
      rintro e w4 ⟨rfl, hb4⟩
      have HB4 := hideIt (HB3.out.trans (hb4.mono HB3.out.size))
      clear hb4
      go_wp2_with fail
      go_ret2
      exact ⟨_, w.heap.size, fun _ => undef, fun _ => undef, by rw [HM.out.1, ok]; rfl, Nat.le_refl _, by rw [HM.out.2, ok]; exact Nest.nil _ _ _ _, HB4.out⟩
    · go_wp2_with fail
      refine (l8Right_yes w3.heap.size _ _ w3 HND.out (Nat.le_refl _) ok).mono ?_
      rintro e w4 ⟨rfl, hb4⟩
      have HB4 := hideIt (HB3.out.trans (hb4.mono HB3.out.size))
      have HN4 := hideIt (HN3.out.below hb4)
      clear hb4
      go_wp2_with fail
      go_ret2
      exact ⟨_, w.heap.size, KV, IV, by rw [HM.out.1, ok]; rfl, Nat.le_refl _, by rw [HM.out.2, ok]; exact HN4.out, HB4.out⟩
  have q4 : (kx == 3) = false := by simpa using k3
  by_cases k4 : kx = 4
  · have HM := hideIt (H4.out k1 k (by omega))
    rw [H6.out k4, HTN.out] at HM
    have q5 : (kx == 4) = true := by simpa using k4
    have s1 := HRS1.out k4
    have s2 := HRS2.out (by omega)
    have hcat : ∀ w, (Op.stringOp .add sx sy).run Tryz.prog w = .ok (.string (sx ++ sy)) w := fun w => run_string_add_sum w sx sy (by omega)
    have hsum : ¬ (sx.size + sy.size > 9223372036854775807) := by omega
    have HLF := hideIt (text_few' (sx ++ sy) (by rw [ByteArray.size_append]; omega))
    clear k1 k2 k k3 k4 hno h56
    go_enter Tryz.func26, Tryz.ntmps26
    go_wp2_with fail
    refine (l1WordX (sx ++ sy) _).mono ?_
    rintro e w3 ⟨r, KV, IV, rfl, hn, hb⟩
    have HB3 := hideIt (HBA.out.trans (hb.mono HBA.out.size))
    have HN3 := hideIt (hn.low HBA.out.size)
    have HND := hideIt (hn.nodes (by simp [leafN]) HLF.out)
    obtain ⟨ar, cr, er⟩ := own_slice hn.row
    simp only [leafN, List.length_cons, List.length_nil] at er
    subst er
    clear hn hb
    cases ok : okB (leafN 4 0 (sx ++ sy))
    · go_wp2_with fail
      refine (l8Right_no w3.heap.size _ _ w3 HND.out (Nat.le_refl _) ok).mono ?_
      rintro e w4 ⟨rfl, hb4⟩
      have HB4 := hideIt (HB3.out.trans (hb4.mono HB3.out.size))
      clear hb4
      go_wp2_with fail
      go_ret2
      exact ⟨_, w.heap.size, fun _ => undef, fun _ => undef, by rw [HM.out.1, ok]; rfl, Nat.le_refl _, by rw [HM.out.2, ok]; exact Nest.nil _ _ _ _, HB4.out⟩
    · go_wp2_with fail
      refine (l8Right_yes w3.heap.size _ _ w3 HND.out (Nat.le_refl _) ok).mono ?_
      rintro e w4 ⟨rfl, hb4⟩
      have HB4 := hideIt (HB3.out.trans (hb4.mono HB3.out.size))
      have HN4 := hideIt (HN3.out.below hb4)
      clear hb4
      go_wp2_with fail
      go_ret2
      exact ⟨_, w.heap.size, KV, IV, by rw [HM.out.1, ok]; rfl, Nat.le_refl _, by rw [HM.out.2, ok]; exact HN4.out, HB4.out⟩
  have q5 : (kx == 4) = false := by simpa using k4
  · have k7 : kx = 2 := by rcases HKQ.out with h | h | h | h | h | h <;> omega
    have HM := hideIt (H3.out k1 k2 (fun h => h.2 k7))
    have q6 : (kx == 5) = false := by simp; omega
    have q7 : (kx == 6) = false := by simp; omega
    clear k1 k2 k k3 k4 k7 hno h56
    go_enter Tryz.func26, Tryz.ntmps26
    go_wp2_with fail
    go_ret2
    exact ⟨_, w.heap.size, fun _ => undef, fun _ => undef, by rw [HM.out.1]; rfl, Nat.le_refl _, by rw [HM.out.2]; exact Nest.nil _ _ _ _, HBA.out⟩
end Go.Proofs.YtfijafbpdlakaaaGreatDoor
