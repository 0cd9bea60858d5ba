/-
  spec.l8Plus at two lists.
-/
import Derived.Test.YtfijafbpdlakaaaGreatDoorSPls0
import Derived.Test.YtfijafbpdlakaaaGreatDoorLayG
import Derived.Test.YtfijafbpdlakaaaGreatDoorIWk
import Derived.Test.YtfijafbpdlakaaaGreatDoorStepN
import Derived.Test.YtfijafbpdlakaaaGreatDoorProg
import Derived.Deep.OwnRows
import Derived.KernelRfl
import Derived.Deep.QuietTactic
import Derived.BigQuiet
import Derived.WalkSmall
import Derived.Deep.RegionWith
import Derived.Test.YtfijafbpdlakaaaGreatDoorSpc2
import Derived.Test.YtfijafbpdlakaaaGreatDoorNs
import Derived.Test.YtfijafbpdlakaaaGreatDoorStbN
import Derived.Test.YtfijafbpdlakaaaGreatDoorWn1
import Derived.Test.YtfijafbpdlakaaaGreatDoorBSrch
import Derived.Deep.DrawnRows
namespace Go.Proofs.YtfijafbpdlakaaaGreatDoor
open Go.RowKit
set_option linter.unusedSimpArgs false
set_option linter.unusedVariables false

theorem rows_own {base B n : Nat} {w : World} {v : Value} {cs : Nat → Value} {L : Nat → List VN} (h : w.ownsRow base 24 1 v n ((List.range n).map cs)) (hn : n ≤ 1048576) (hB : B ≤ w.heap.size) (hc : ∀ i, i < n → NodesAt B w (cs i) (L i)) : RowsAt w.heap.size w v n L := by
  obtain ⟨a, c, e⟩ := own_slice h
  subst e
  refine ⟨hn, a, c, rfl, fun hp => ?_⟩
  obtain ⟨g, c', e, _, hg⟩ := h.form hp
  cases e
  exact ⟨g, rfl, hg, fun i hi => ⟨cs i, by rw [h.cellAt i (by omega)]; simp [hi], (hc i hi).wide hB⟩⟩

/-- Nodes stay where a row of rows grows. -/
theorem nest_far {base b' n' : Nat} {w w' : World} {v v' : Value} {vs : List VN} {KV IV : Nat → Value} {xs : List Value} (h : Nest base w v vs KV IV) (h' : w.ownsRow b' 24 1 v' n' xs) (hg : w.grownBy w' v'.ownBlock) : Nest base w' v vs KV IV :=
  h.kept hg (own_two h' h.row (by decide)) (fun i hi => own_two h' (h.rk i hi) (by decide)) (fun i hi => own_two h' (h.ri i hi) (by decide))

theorem rows_src {base n : Nat} {w : World} {a : Option Addr} {c : Nat} {cs : Nat → Value} (h : w.ownsRow base 24 1 (.slice a n c) n ((List.range n).map cs)) : 0 < n → ∃ ad, a = some ad ∧ ∀ j u, ((List.range n).map cs)[j]? = some u → w.cell? (ad.add j) = some u := by
  intro hp
  obtain ⟨g, c', e, _, hg⟩ := h.form hp
  cases e
  refine ⟨_, rfl, fun j u hj => ?_⟩
  have hj' : j < n := by have := (List.getElem?_eq_some_iff.1 hj).1; simpa using this
  rw [show (⟨g, 0, none⟩ : Addr).add j = ⟨g, j, none⟩ by simp [Addr.add]; omega, h.cellAt j (by omega)]
  exact hj

theorem rows_one {base : Nat} {w : World} {v : Value} {m : Nat} {L : Nat → List VN} {rs : Nat → Value} {KV IV : Nat → Nat → Value} {lo : Nat → Nat} (h : Rows2 base w v m L rs KV IV lo) : ∀ u ∈ (List.range m).map rs, u.oneCell' = true := by
  intro u hu
  obtain ⟨j, hj, rfl⟩ := List.mem_map.1 hu
  obtain ⟨a, c, e⟩ := own_slice (h.nest j (by simpa using hj)).row
  rw [e]; rfl

set_option maxRecDepth 100000 in
set_option maxHeartbeats 3200000 in
theorem l8Plus_list (B : Nat) (v1 v2 : Value) (us vs : List VN) (w : World) (hn1 : NodesAt B w v1 us) (hn2 : NodesAt B w v2 vs) (hB : B ≤ w.heap.size) (ok1 : okB us = true) (ok2 : okB vs = true) (hk1 : (rootN us).kind = 5) (hk2 : (rootN vs).kind = 5) :
    Calls Tryz.prog 26 #[v1, v2] w fun e w' => ∃ r base KV IV, e = .returned (.tuple #[r, .int .i64 (plusC us vs)]) ∧ w.heap.size ≤ base ∧ Nest base w' r (plusNs us vs) KV IV ∧ Below w.heap.size w w' := by
  obtain ⟨p1a, p1b⟩ := (okB_parts ok1).1
  obtain ⟨p2a, p2b⟩ := (okB_parts ok2).1
  obtain ⟨b1, o1, c1, aK1, nK1, cK1, aI1, nI1, cI1, rfl, hb1, u1, u2, d0, d1, d2, d3, d4⟩ := root_cells hn1 (by omega)
  clear u1 u2
  obtain ⟨b2, o2, c2, aK2, nK2, cK2, aI2, nI2, cI2, rfl, hb2, u1, u2, g0, g1, g2, g3, g4⟩ := root_cells hn2 (by omega)
  clear u1 u2
  have HM := hideIt (plus_raw ok1 ok2 (by omega) (by omega) (by omega))
  rw [raw_both hk1] at HM
  have HPT1 := hideIt (fun W (hb : Below w.heap.size w W) => l1Parts_any B _ us W (hn1.below (hb.mono hB)) (Nat.le_trans hB hb.size) ok1)
  have HPT2 := hideIt (fun W (hb : Below w.heap.size w W) => l1Parts_any B _ vs W (hn2.below (hb.mono hB)) (Nat.le_trans hB hb.size) ok2)
  have HF1 := hideIt (PL_few hn1.fits)
  have HF2 := hideIt (PL_few hn2.fits)
  have e1 : partsN us = (rootKids us).length := by unfold partsN; rw [if_pos ok1]
  have e2 : partsN vs = (rootKids vs).length := by unfold partsN; rw [if_pos ok2]
  rw [e1] at HF1
  rw [e2] at HF2
  have HOK := hideIt (both_ok ok1 ok2)
  have HBF := hideIt (both_fits ok1 ok2 hn1.fits hn2.fits)
  have HBN : Hid (bothNs us vs = makeNs 5 [] (bothL us vs) ((rootKids us).length + (rootKids vs).length)) := rfl
  have HBL : Hid (∀ j, bothL us vs j = if j < (rootKids us).length then PL us j else PL vs (j - (rootKids us).length)) := fun j => rfl
  clear e1 e2
  obtain ⟨N1, hN1⟩ : ∃ N1, us.length = N1 := ⟨_, rfl⟩
  obtain ⟨N2, hN2⟩ : ∃ N2, vs.length = N2 := ⟨_, rfl⟩
  rw [hN1] at p1a p1b d0 d1 d2 d3 d4 HPT1 ⊢
  rw [hN2] at p2a p2b g0 g1 g2 g3 g4 HPT2 ⊢
  have HL1 := hideIt hN1
  have HL2 := hideIt hN2
  have z1 : ((N1 : Int) - 1).toNat = N1 - 1 := by omega
  have z2 : ((N2 : Int) - 1).toNat = N2 - 1 := by omega
  obtain ⟨kx, hkx⟩ : ∃ k, (rootN us).kind = k := ⟨_, rfl⟩
  obtain ⟨ky, hky⟩ : ∃ k, (rootN vs).kind = k := ⟨_, rfl⟩
  obtain ⟨nx, hnx⟩ : ∃ k, (rootN us).n = k := ⟨_, rfl⟩
  obtain ⟨ny, hny⟩ : ∃ k, (rootN vs).n = k := ⟨_, rfl⟩
  obtain ⟨sx, hsx⟩ : ∃ k, (rootN us).s = k := ⟨_, rfl⟩
  obtain ⟨sy, hsy⟩ : ∃ k, (rootN vs).s = k := ⟨_, rfl⟩
  rw [hkx] at d0 hk1
  rw [hky] at g0 hk2
  rw [hnx] at d1
  rw [hny] at g1
  rw [hsx] at d2
  rw [hsy] at g2
  have HBA : Hid (Below w.heap.size w ((w.alloc (.cells #[.int .i64 kx, .int .i64 nx, .string sx, .slice aK1 nK1 cK1, .slice aI1 nI1 cI1] 34)).alloc (.cells #[.int .i64 ky, .int .i64 ny, .string sy, .slice aK2 nK2 cK2, .slice aI2 nI2 cI2] 34))) := ((Below.refl _ _).alloc (Nat.le_refl _) _).alloc (by simp) _
  clear hn1 hn2 hN1 hN2 hkx hky hnx hny hsx hsy ok1 ok2
  have hbx : Below w.heap.size w (w.alloc (.cells #[.int .i64 kx, .int .i64 nx, .string sx, .slice aK1 nK1 cK1, .slice aI1 nI1 cI1] 34)) := (Below.refl _ _).alloc (Nat.le_refl _) _
  have e0 := (below_cell hbx (show b2 < w.heap.size by omega)).trans g0
  have e1 := (below_cell hbx (show b2 < w.heap.size by omega)).trans g1
  have e2 := (below_cell hbx (show b2 < w.heap.size by omega)).trans g2
  have e3 := (below_cell hbx (show b2 < w.heap.size by omega)).trans g3
  have e4 := (below_cell hbx (show b2 < w.heap.size by omega)).trans g4
  clear hbx g0 g1 g2 g3 g4
  have q1 : (kx == 1) = false := by simp; omega
  have q2 : (ky == 1) = false := by simp; omega
  have q3 : (kx != ky) = false := by simp; omega
  have q4 : (kx == 3) = false := by simp; omega
  have q5 : (kx == 4) = false := by simp; omega
  have q6 : (kx == 5) = true := by simp; omega
  obtain ⟨i0, hi0, hz0, hs0, hy0⟩ := info_parts info_row
  obtain ⟨M, hM⟩ : ∃ M, (rootKids us).length = M := ⟨_, rfl⟩
  obtain ⟨M', hM'⟩ : ∃ M', (rootKids vs).length = M' := ⟨_, rfl⟩
  rw [hM] at HF1 HPT1 HOK HBN HBL
  rw [hM'] at HF2 HPT2 HOK HBN
  clear hM hM' hk1 hk2
  have hM80 : M ≤ 80 := HF1.out.1
  have hM80' : M' ≤ 80 := HF2.out.1
  go_enter Tryz.func26, Tryz.ntmps26
  go_wp2_with fail
  refine (HPT1.out _ HBA.out).mono ?_
  rintro e w1 ⟨r1, rs1, K1, I1, lo1, rfl, hr1, hb1'⟩
  have HB1 := hideIt (HBA.out.trans (hb1'.mono HBA.out.size))
  have HR1 := hideIt hr1
  obtain ⟨aM, cM, eM⟩ := own_slice hr1.row
  subst eM
  clear hr1 hb1'
  go_wp2_with fail
  refine (HPT2.out _ HB1.out).mono ?_
  rintro e w2 ⟨r2, rs2, K2, I2, lo2, rfl, hr2, hb2'⟩
  have HB2 := hideIt (HB1.out.trans (hb2'.mono HB1.out.size))
  have HR1W := hideIt (HR1.out.below hb2')
  have HR2 := hideIt hr2
  have z2 := hb2'.size
  obtain ⟨aG, cG, eG⟩ := own_slice hr2.row
  subst eG
  clear hr2 hb2' HR1
  have HSRC := hideIt (rows_src HR2.out.row)
  have HRO := hideIt (rows_one HR2.out)
  have zz := HB2.out.size
  have HRX := hideIt (own_mono HR1W.out.row (show w.heap.size ≤ _ from HBA.out.size))
  go_wp2_with (at_builtin; refine wpList_append_src rfl _ _ 36 rfl w.heap.size 24 i0 (.slice none 0 0) 1 24 Tryz.underlying36 hi0 hz0 hs0 hy0 rfl (by decide) _ M _ rfl HRX.out aG M' cG ((List.range M').map rs2) rfl (by simp) HSRC.out HRO.out ?c3 ?c4 ?c5 ?_)
  case c3 => unfold maxLen; omega
  case c4 => omega
  case c5 => exact zz
  intro v5 w5 hown hgrow _
  have HB5 : Hid (Below w.heap.size w w5) := HB2.out.grown hgrow zz (fun y hy => (HRX.out.lt y hy).1)
  have z5 := HB5.out.size
  have HRR : Hid (RowsAt w5.heap.size w5 v5 (M + M') (bothL us vs)) := by
    rw [range_both] at hown
    refine rows_own hown (by omega) (Nat.le_refl _) (fun i hi => ?_)
    rw [HBL.out i]
    by_cases hlt : i < M
    · rw [if_pos hlt, if_pos hlt]
      exact (nest_far (HR1W.out.nest i hlt) HR1W.out.row hgrow).nodes (Nat.le_trans (HF1.out.2 i hlt).1.1 (by omega)) (HF1.out.2 i hlt).2
    · rw [if_neg hlt, if_neg hlt]
      exact (nest_far (HR2.out.nest (i - M) (by omega)) HR1W.out.row hgrow).nodes (Nat.le_trans (HF2.out.2 (i - M) (by omega)).1.1 (by omega)) (HF2.out.2 (i - M) (by omega)).2
  have HCL : Hid ((catNs (bothL us vs) (M + M')).length + 1 ≤ 16001) := by
    have := HBF.out.1
    rw [HBN.out] at this
    unfold makeNs at this
    simpa [Hid] using this
  obtain ⟨av, cv, ev⟩ := own_slice hown
  subst ev
  clear hown hgrow HRX HSRC HRO
  go_wp2_with fail
  refine (l1Make_any w5.heap.size 5 _ _ [] (M + M') (bothL us vs) w5 ⟨by simp, fun i hi => absurd hi (by simp), none, 0, rfl, fun h => absurd h (by simp)⟩ HRR.out (Nat.le_refl _) (by omega) (by simp) (by have := HCL.out; omega) (near_of HOK.out)).mono ?_
  rintro e w6 ⟨r, KV, IV, rfl, hn6, hb6⟩
  rw [← HBN.out] at hn6
  have HB6 := hideIt (HB5.out.trans (hb6.mono z5))
  have HN6 := hideIt (hn6.low z5)
  have HND := hideIt (hn6.nodes (Nat.le_trans HBF.out.1 (by omega)) (fun i hi => (HBF.out.2 i hi).1))
  obtain ⟨ar, cr, er⟩ := own_slice hn6.row
  obtain ⟨NS, hNS⟩ : ∃ NS, bothNs us vs = NS := ⟨_, rfl⟩
  rw [hNS] at HM HN6 HND er
  obtain ⟨NN, hNN⟩ : ∃ NN, NS.length = NN := ⟨_, rfl⟩
  rw [hNN] at er
  subst er
  clear hn6 hb6 hNN hNS HBN HBF HRR HCL
  cases ok : okB NS
  · go_wp2_with fail
    refine (l8Right_no w6.heap.size _ _ w6 HND.out (Nat.le_refl _) ok).mono ?_
    rintro e w7 ⟨rfl, hb7⟩
    have HB7 := hideIt (HB6.out.trans (hb7.mono HB6.out.size))
    clear hb7
    go_wp2_with fail
    go_ret2
    exact ⟨_, w.heap.size, fun _ => undef, fun _ => undef, by rw [HM.out.1, ok]; rfl, Nat.le_refl _, by rw [HM.out.2, ok]; exact Nest.nil _ _ _ _, HB7.out⟩
  · go_wp2_with fail
    refine (l8Right_yes w6.heap.size _ _ w6 HND.out (Nat.le_refl _) ok).mono ?_
    rintro e w7 ⟨rfl, hb7⟩
    have HB7 := hideIt (HB6.out.trans (hb7.mono HB6.out.size))
    have HN7 := hideIt (HN6.out.below hb7)
    clear hb7
    go_wp2_with fail
    go_ret2
    exact ⟨_, w.heap.size, KV, IV, by rw [HM.out.1, ok]; rfl, Nat.le_refl _, by rw [HM.out.2, ok]; exact HN7.out, HB7.out⟩
end Go.Proofs.YtfijafbpdlakaaaGreatDoor

/-
  Paths that come in: what takes their sizes from a budget; what copies them into new memory; what holds two against each other.
-/
namespace Go.Proofs.YtfijafbpdlakaaaGreatDoor
open Go.RowKit
set_option linter.unusedSimpArgs false
set_option linter.unusedVariables false

abbrev RawSteps (B : Nat) (w : World) (v : Value) (ps : List PS) : Prop := StepsIn 9223372036854775807 9223372036854775807 B w v ps
abbrev StepsAt (B : Nat) (w : World) (v : Value) (ps : List PS) : Prop := StepsIn 1048576 1048576 B w v ps

def zeroStep : Value := .agg #[.bool false, .string ByteArray.empty, .int .i64 0]
theorem infoStep : (Tryz.prog.info? 100).map (fun i => (i.zero, i.size, i.bytes)) = some (some zeroStep, 3, 32) := by kernel_rfl
def madeSteps (n : Nat) : Array Value := madeCells zeroStep.cells (n * 3)
theorem size_madeSteps (n : Nat) : (madeSteps n).size = n * 3 := size_madeCells _ _

def stepCell (ps : List PS) (j : Nat) : Value :=
  if j % 3 = 0 then .bool (stepAt ps (j / 3)).named
  else if j % 3 = 1 then .string (stepAt ps (j / 3)).key
  else .int .i64 (stepAt ps (j / 3)).pl
theorem stepCell0 (ps : List PS) (i : Nat) : stepCell ps (i * 3) = .bool (stepAt ps i).named := by
  unfold stepCell
  rw [if_pos (by omega), show i * 3 / 3 = i by omega]
theorem stepCell1 (ps : List PS) (i : Nat) : stepCell ps (i * 3 + 1) = .string (stepAt ps i).key := by
  unfold stepCell
  rw [if_neg (by omega), if_pos (by omega), show (i * 3 + 1) / 3 = i by omega]
theorem stepCell2 (ps : List PS) (i : Nat) : stepCell ps (i * 3 + 2) = .int .i64 (stepAt ps i).pl := by
  unfold stepCell
  rw [if_neg (by omega), if_neg (by omega), show (i * 3 + 2) / 3 = i by omega]

def fillStep (ps : List PS) (z : Nat → Value) (k j : Nat) : Value := if j < k * 3 then stepCell ps j else z j

theorem fillStep_step {w : World} {b t m k : Nat} {ps : List PS} {z : Nat → Value} (h : w.rowIs b t m (fillStep ps z k)) :
    (((w.setCell ⟨b, k * 3, none⟩ (.bool (stepAt ps k).named)).setCell ⟨b, k * 3 + 1, none⟩ (.string (stepAt ps k).key)).setCell ⟨b, k * 3 + 2, none⟩ (.int .i64 (stepAt ps k).pl)).rowIs b t m (fillStep ps z (k + 1)) := by
  refine (((h.set (k * 3) _).set (k * 3 + 1) _).set (k * 3 + 2) _).congr fun j _ => ?_
  by_cases e2 : j = k * 3 + 2
  · subst e2
    rw [if_pos rfl, fillStep, if_pos (by omega), stepCell2]
  rw [if_neg e2]
  by_cases e1 : j = k * 3 + 1
  · subst e1
    rw [if_pos rfl, fillStep, if_pos (by omega), stepCell1]
  rw [if_neg e1]
  by_cases e0 : j = k * 3
  · subst e0
    rw [if_pos rfl, fillStep, if_pos (by omega), stepCell0]
  rw [if_neg e0]
  unfold fillStep
  by_cases hj : j < k * 3
  · rw [if_pos hj, if_pos (by omega)]
  · rw [if_neg hj, if_neg (by omega)]

theorem rowIs_below' {B b t n : Nat} {w w' : World} {f : Nat → Value} (h : w.rowIs b t n f) (hb : Below B w w') (hB : b < B) : w'.rowIs b t n f := h.of_block (hb.block b hB)

theorem ownSteps {w : World} {b : Nat} {ps : List PS} (h : w.rowIs b 100 (ps.length * 3) (stepCell ps)) (h1 : ps.length ≤ 1048576) (h2 : ∀ i, i < ps.length → (stepAt ps i).key.size ≤ 1048576 ∧ -9223372036854775808 ≤ (stepAt ps i).pl ∧ (stepAt ps i).pl ≤ 9223372036854775807) :
    StepsAt w.heap.size w (.slice (some ⟨b, 0, none⟩) ps.length ps.length) ps := by
  refine ⟨h1, h2, _, _, rfl, fun _ => ⟨b, 0, rfl, h.lt, fun i hi => ?_⟩⟩
  rw [Nat.zero_add]
  refine ⟨?_, ?_, ?_⟩
  · rw [h.cell (by omega), stepCell0]
  · rw [h.cell (by omega), stepCell1]
  · rw [h.cell (by omega), stepCell2]

end Go.Proofs.YtfijafbpdlakaaaGreatDoor

/-
  PathOk of the specification and of the program: both say the same of every path.
-/
namespace Go.Proofs.YtfijafbpdlakaaaGreatDoor
open Go.RowKit
set_option linter.unusedSimpArgs false
set_option linter.unusedVariables false

theorem stepB_named {x : PS} (h : x.named = true) : stepB x = (textB x.key && decide (x.pl = 0)) := by simp [stepB, h]
theorem stepB_plain {x : PS} (h : x.named = false) : stepB x = (decide (x.key.toList = []) && inB x.pl 0 80) := by simp [stepB, h, inB]

end Go.Proofs.YtfijafbpdlakaaaGreatDoor

/-
  impl.treeOf: the parts of a value as pointers.
-/
namespace Go.Proofs.YtfijafbpdlakaaaGreatDoor
open Go.RowKit
set_option linter.unusedSimpArgs false
set_option linter.unusedVariables false
attribute [local go_sem ↓] Go.wp_at_zero Go.wp_at_succ

theorem ta_bool_map (x : Value) (w : World) : (Instr.typeAssert (.iface 105 x) 54 94 true).run Tryz.prog w = .ok (.tuple #[.agg #[.slice none 0 0, .slice none 0 0], .bool false]) w := by kernel_rfl
theorem ta_int_map (x : Value) (w : World) : (Instr.typeAssert (.iface 86 x) 54 94 true).run Tryz.prog w = .ok (.tuple #[.agg #[.slice none 0 0, .slice none 0 0], .bool false]) w := by kernel_rfl
theorem ta_text_map (x : Value) (w : World) : (Instr.typeAssert (.iface 89 x) 54 94 true).run Tryz.prog w = .ok (.tuple #[.agg #[.slice none 0 0, .slice none 0 0], .bool false]) w := by kernel_rfl

theorem mp_1 (x : Value) (w : World) : (method 316 132 x "loop.example/g00345/impl.parts").run Tryz.prog w = .ok (155, x) w := by kernel_rfl
theorem mp_2 (x : Value) (w : World) : (method 316 105 x "loop.example/g00345/impl.parts").run Tryz.prog w = .ok (151, x) w := by kernel_rfl
theorem mp_3 (x : Value) (w : World) : (method 316 86 x "loop.example/g00345/impl.parts").run Tryz.prog w = .ok (143, x) w := by kernel_rfl
theorem mp_4 (x : Value) (w : World) : (method 316 89 x "loop.example/g00345/impl.parts").run Tryz.prog w = .ok (145, x) w := by kernel_rfl
theorem mp_5 (x : Value) (w : World) : (method 316 91 x "loop.example/g00345/impl.parts").run Tryz.prog w = .ok (147, x) w := by kernel_rfl
theorem mp_6 (x : Value) (w : World) : (method 316 94 x "loop.example/g00345/impl.parts").run Tryz.prog w = .ok (149, x) w := by kernel_rfl

end Go.Proofs.YtfijafbpdlakaaaGreatDoor

/-
  impl.treeOf at maps, and at every value.
-/
namespace Go.Proofs.YtfijafbpdlakaaaGreatDoor
open Go.RowKit
set_option linter.unusedSimpArgs false
set_option linter.unusedVariables false
attribute [local go_sem ↓] Go.wp_at_zero Go.wp_at_succ

end Go.Proofs.YtfijafbpdlakaaaGreatDoor

/-
  (*impl.treePart).find: where a step leads, in a part.
-/
namespace Go.Proofs.YtfijafbpdlakaaaGreatDoor
open Go.RowKit
set_option linter.unusedSimpArgs false
set_option linter.unusedVariables false

def findR (kind : Int) (keys : List ByteArray) (n : Nat) (x : PS) : Int × Bool :=
  if kind = 5 then (if x.named = false ∧ x.pl ≤ (n : Int) then (x.pl, decide (x.pl < (n : Int))) else (-1, false))
  else if kind = 6 ∧ x.named = true then ((posK keys x.key : Nat), hasK keys x.key)
  else (-1, false)

theorem findR_some {kind : Int} {keys : List ByteArray} {n k : Nat} {x : PS} (h0 : x.named = true ∨ 0 ≤ x.pl) (h : stepTo kind keys n x = some k) : findR kind keys n x = ((k : Int), true) := by
  unfold stepTo at h
  unfold findR
  split at h
  · rename_i hn
    split at h
    · rename_i h1
      simp only [Option.some.injEq] at h
      subst h
      rw [if_neg (by omega), if_pos ⟨h1.1, hn⟩, h1.2]
    · cases h
  · rename_i hn
    split at h
    · rename_i h1
      simp only [Option.some.injEq] at h
      subst h
      have hn2 : x.named = false := by simpa using hn
      have h0' : 0 ≤ x.pl := by rcases h0 with e | e; exact absurd e hn; exact e
      rw [if_pos h1.1, if_pos ⟨hn2, by omega⟩, decide_eq_true h1.2]
      congr 1
      omega
    · cases h

theorem findR_none {kind : Int} {keys : List ByteArray} {n : Nat} {x : PS} (h : stepTo kind keys n x = none) : (findR kind keys n x).2 = false := by
  unfold stepTo at h
  unfold findR
  split at h
  · rename_i hn
    split at h
    · cases h
    · rename_i h1
      by_cases h5 : kind = 5
      · rw [if_pos h5, if_neg (by rw [hn]; simp)]
      · rw [if_neg h5]
        by_cases h6 : kind = 6
        · rw [if_pos ⟨h6, hn⟩]
          cases e : hasK keys x.key
          · rfl
          · exact absurd ⟨h6, e⟩ h1
        · rw [if_neg (by rintro ⟨a, _⟩; exact h6 a)]
  · rename_i hn
    split at h
    · cases h
    · rename_i h1
      by_cases h5 : kind = 5
      · rw [if_pos h5]
        by_cases h2 : x.named = false ∧ x.pl ≤ (n : Int)
        · rw [if_pos h2]
          simp
          by_cases h3 : x.pl < (n : Int)
          · exact absurd ⟨h5, h3⟩ h1
          · omega
        · rw [if_neg h2]
      · rw [if_neg h5, if_neg (by rintro ⟨_, b⟩; exact hn b)]

theorem taf_null_list (x : Value) (w : World) : (Instr.typeAssert (.iface 132 x) 54 91 true).run Tryz.prog w = .ok (.tuple #[.agg #[.slice none 0 0], .bool false]) w := by kernel_rfl
theorem taf_bool_list (x : Value) (w : World) : (Instr.typeAssert (.iface 105 x) 54 91 true).run Tryz.prog w = .ok (.tuple #[.agg #[.slice none 0 0], .bool false]) w := by kernel_rfl
theorem taf_int_list (x : Value) (w : World) : (Instr.typeAssert (.iface 86 x) 54 91 true).run Tryz.prog w = .ok (.tuple #[.agg #[.slice none 0 0], .bool false]) w := by kernel_rfl
theorem taf_text_list (x : Value) (w : World) : (Instr.typeAssert (.iface 89 x) 54 91 true).run Tryz.prog w = .ok (.tuple #[.agg #[.slice none 0 0], .bool false]) w := by kernel_rfl
theorem taf_map_list (x : Value) (w : World) : (Instr.typeAssert (.iface 94 x) 54 91 true).run Tryz.prog w = .ok (.tuple #[.agg #[.slice none 0 0], .bool false]) w := by kernel_rfl
theorem taf_list_list (x : Value) (w : World) : (Instr.typeAssert (.iface 91 x) 54 91 true).run Tryz.prog w = .ok (.tuple #[x, .bool true]) w := by kernel_rfl

end Go.Proofs.YtfijafbpdlakaaaGreatDoor

/-
  (*impl.treePart).follow: the part to which steps lead.
-/
namespace Go.Proofs.YtfijafbpdlakaaaGreatDoor
open Go.RowKit
set_option linter.unusedSimpArgs false
set_option linter.unusedVariables false

theorem own_strs_ks {base : Nat} {w : World} {v : Value} {l : List ByteArray} (h : w.ownsRow base 9 1 v l.length (l.map .string)) (h1 : l.length ≤ 1048576) (h2 : ∀ i, i < l.length → (keyAt l i).size ≤ 140737488355328) : StrsAt w.heap.size w v l := own_strs h (by omega) h2

theorem tree_mk (vs : List VN) (f i : Nat) : treeOf vs (f + 1) i = .mk (nodeAt vs i).kind (nodeAt vs i).n (nodeAt vs i).s (nodeAt vs i).keys ((nodeAt vs i).kids.map fun k => treeOf vs f k.toNat) := rfl

/-- A node of kind 6 has keys that rise, as many as parts. -/
theorem node6 {vs : List VN} (hok : okB vs = true) {i : Nat} (hi : i < vs.length) (h6 : (nodeAt vs i).kind = 6) : Rise (nodeAt vs i).keys ∧ (nodeAt vs i).keys.length = (nodeAt vs i).kids.length ∧ (nodeAt vs i).keys.length ≤ 80 ∧ ∀ j, j < (nodeAt vs i).keys.length → (keyAt (nodeAt vs i).keys j).size ≤ 140737488355328 := by
  have hn := ((okB_parts hok).2.1 i hi).1
  have hk := keys_few hok i hi
  unfold nodeB namedB at hn
  simp [h6] at hn
  refine ⟨riseB_rise hn.2.2, hn.2.1, hk.2.2, fun j hj => ?_⟩
  have hr := hn.2.2
  unfold riseB at hr
  rw [List.all_eq_true] at hr
  have := hr j (List.mem_range.2 hj)
  unfold riseAt textB at this
  simp only [Bool.and_eq_true, decide_eq_true_eq] at this
  omega

/-- The node, if there is one, as the answer of follow. -/
def folPtr (o : Option Nat) (p : Nat) : Value := match o with
  | none => .pointer none
  | some _ => .pointer (some ⟨p, 0, none⟩)

end Go.Proofs.YtfijafbpdlakaaaGreatDoor
