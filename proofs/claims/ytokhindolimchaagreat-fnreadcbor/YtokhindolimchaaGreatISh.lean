/-
  impl.valuesAt: the values of all nodes.
-/
import Derived.Test.YtokhindolimchaaGreatLowN
import Derived.Test.YtokhindolimchaaGreatMapP
import Derived.Test.YtokhindolimchaaGreatICbT
import Derived.Test.YtokhindolimchaaGreatSCbT
import Derived.Test.YtokhindolimchaaGreatRdF
import Derived.Test.YtokhindolimchaaGreatNmT
import Derived.Test.YtokhindolimchaaGreatIHigh
namespace Go.Proofs.YtokhindolimchaaGreat
open Go.RowKit
set_option linter.unusedSimpArgs false
set_option linter.unusedVariables false

/-- One more value is laid. -/
theorem valStep {s N k : Nat} {w W0 W : World} {vs : List VN} {VV : Nat → Value} {u : Value} (hrow : W.rowIs s 54 N (fillI VV k)) (hall : ∀ j, j < k → ValIs s W0.heap.size W0 vs (j + 1) j (VV j)) (hk : Keep s W0.heap.size W0 W) (hsz : W0.heap.size ≤ W.heap.size) (hs : s < W0.heap.size) (hb : Below s w W)
    (hv : ValIs s W.heap.size W vs (k + 1) k u) :
    (W.setCell ⟨s, k, none⟩ u).rowIs s 54 N (fillI (fun j => if j = k then u else VV j) (k + 1)) ∧ (∀ j, j < k + 1 → ValIs s (W.setCell ⟨s, k, none⟩ u).heap.size (W.setCell ⟨s, k, none⟩ u) vs (j + 1) j (if j = k then u else VV j)) ∧ Below s w (W.setCell ⟨s, k, none⟩ u) := by
  have hsz2 : (W.setCell ⟨s, k, none⟩ u).heap.size = W.heap.size := World.size_setCell _ _ _
  refine ⟨fillI_step hrow, fun j hj => ?_, hb.setCell (Nat.le_refl _) _⟩
  by_cases e : j = k
  · subst e
    rw [if_pos rfl]
    exact ValIs.keep (Keep.setCell W u) (by omega) (by omega) hv
  · rw [if_neg e]
    exact ValIs.keep (hk.trans (Keep.setCell W u)) (by omega) (by omega) (hall j (by omega))

set_option maxRecDepth 100000 in
set_option maxHeartbeats 6400000 in
theorem valuesAt_any (B : Nat) (v : Value) (vs : List VN) (w : World) (h : NodesAt B w v vs) (hB : B ≤ w.heap.size) (hn1 : 1 ≤ vs.length) (hn80 : vs.length ≤ 80) (hok : ∀ k, k < vs.length → nodeB (nodeAt vs k) = true ∧ kidsIn vs k = true) (hkn : ∀ k, k < vs.length → (nodeAt vs k).kids.length ≤ k) :
    Calls Tryz.prog 67 #[v] w fun e w' => ∃ VV : Nat → Value, e = .returned (.slice (some ⟨w.heap.size, 0, none⟩) vs.length vs.length) ∧
      w'.rowIs w.heap.size 54 vs.length VV ∧ (∀ j, j < vs.length → ValIs w.heap.size w'.heap.size w' vs (j + 1) j (VV j)) ∧ Below w.heap.size w w' := by
  obtain ⟨hlen, a, cap, rfl, hcell⟩ := h
  obtain ⟨b0, o0, rfl, hb0, hc⟩ := hcell (by omega)
  clear hcell
  have HOK := hideIt hok
  have HC := hideIt hc
  clear hok hc
  have hmk := run_make_row' (P := Tryz.prog) 104 54 .nilIface 16 Tryz.underlying104 infoVal rfl .i64 .i64 vs.length (by omega) (by omega)
  obtain ⟨i0, hi, hz0, hz1, hz2⟩ := info_parts infoVal
  go_enter Tryz.func67, Tryz.ntmps67
  go_wp2_with fail
  clear hmk
  have hr0 : (w.alloc (.cells (madeCells #[Value.nilIface] vs.length) 54)).rowIs w.heap.size 54 vs.length (fillI (fun _ => undef) 0) := (World.rowIs_made w _ _ _).congr fun i _ => by simp [fillI]
  have hbz : Below w.heap.size w (w.alloc (.cells (madeCells #[Value.nilIface] vs.length) 54)) := (Below.refl _ _).alloc (Nat.le_refl _) _
  go_loopw [14] (fun i wr => ∃ (k : Nat) (VV : Nat → Value), k ≤ vs.length ∧ i = .int .i64 k ∧ wr.rowIs w.heap.size 54 vs.length (fillI VV k) ∧ (∀ j, j < k → ValIs w.heap.size wr.heap.size wr vs (j + 1) j (VV j)) ∧ Below w.heap.size w wr) (fun i _ => vs.length - (intOf i).toNat)
  case atStart => exact ⟨0, _, Nat.zero_le _, rfl, hr0, fun j hj => by omega, hbz⟩
  case round =>
    obtain ⟨k, VV, hk, rfl, hrow, hall, hbel⟩ := hrel
    obtain ⟨W0, rfl⟩ : ∃ W0, W0 = wr := ⟨_, rfl⟩
    have HA := hideIt hall
    clear hall hr0 hbz
    by_cases hlt : k < vs.length
    · obtain ⟨ka, ki, hn⟩ := HC.out k hlt
      have hn' := hn.below (hbel.mono hB) hb0
      have c0 := hn'.c0
      have c1 := hn'.c1
      have c2 := hn'.c2
      have c3 := hn'.c3
      have c4 := hn'.c4
      have hsize := hbel.size
      have hlt0 := hrow.lt
      have HK := hideIt hn.inn.keys
      obtain ⟨_, _, aK, cK, eK, _⟩ := hn'.inn.keys
      obtain ⟨hkl, hkb, aI, cI, eI, hkc⟩ := hn'.inn.kids
      subst eK eI
      have HR := hideIt hrow
      clear hn hn' hrow
      go_wp2_with fail
      have x0 : (W0.alloc (.cells #[.int .i64 (nodeAt vs k).kind, .int .i64 (nodeAt vs k).n, .string (nodeAt vs k).s, .slice aK (nodeAt vs k).keys.length cK, .slice aI (nodeAt vs k).kids.length cI] 52)).cell? ⟨W0.heap.size, 0, none⟩ = some (.int .i64 (nodeAt vs k).kind) := by simp
      have x1 : (W0.alloc (.cells #[.int .i64 (nodeAt vs k).kind, .int .i64 (nodeAt vs k).n, .string (nodeAt vs k).s, .slice aK (nodeAt vs k).keys.length cK, .slice aI (nodeAt vs k).kids.length cI] 52)).cell? ⟨W0.heap.size, 1, none⟩ = some (.int .i64 (nodeAt vs k).n) := by simp
      have x2 : (W0.alloc (.cells #[.int .i64 (nodeAt vs k).kind, .int .i64 (nodeAt vs k).n, .string (nodeAt vs k).s, .slice aK (nodeAt vs k).keys.length cK, .slice aI (nodeAt vs k).kids.length cI] 52)).cell? ⟨W0.heap.size, 2, none⟩ = some (.string (nodeAt vs k).s) := by simp
      have x3 : (W0.alloc (.cells #[.int .i64 (nodeAt vs k).kind, .int .i64 (nodeAt vs k).n, .string (nodeAt vs k).s, .slice aK (nodeAt vs k).keys.length cK, .slice aI (nodeAt vs k).kids.length cI] 52)).cell? ⟨W0.heap.size, 3, none⟩ = some (.slice aK (nodeAt vs k).keys.length cK) := by simp
      have sW1 : (W0.alloc (.cells #[.int .i64 (nodeAt vs k).kind, .int .i64 (nodeAt vs k).n, .string (nodeAt vs k).s, .slice aK (nodeAt vs k).keys.length cK, .slice aI (nodeAt vs k).kids.length cI] 52)).heap.size = W0.heap.size + 1 := by simp
      have bW1 : Below W0.heap.size W0 (W0.alloc (.cells #[.int .i64 (nodeAt vs k).kind, .int .i64 (nodeAt vs k).n, .string (nodeAt vs k).s, .slice aK (nodeAt vs k).keys.length cK, .slice aI (nodeAt vs k).kids.length cI] 52)) := (Below.refl _ _).alloc (Nat.le_refl _) _
      have rW1 := hideIt (HR.out.alloc (.cells #[.int .i64 (nodeAt vs k).kind, .int .i64 (nodeAt vs k).n, .string (nodeAt vs k).s, .slice aK (nodeAt vs k).keys.length cK, .slice aI (nodeAt vs k).kids.length cI] 52))
      generalize (W0.alloc (.cells #[.int .i64 (nodeAt vs k).kind, .int .i64 (nodeAt vs k).n, .string (nodeAt vs k).s, .slice aK (nodeAt vs k).keys.length cK, .slice aI (nodeAt vs k).kids.length cI] 52)) = W1 at *
      have HsW := hideIt sW1
      have hW1gt : W0.heap.size < W1.heap.size := by omega
      have HX := hideIt (And.intro x0 (And.intro x1 (And.intro x2 x3)))
      have hsub : Below w.heap.size w W1 := hbel.trans (bW1.mono hsize)
      clear sW1 x0 x1 x2 x3 c0 c1 c2 c3 c4
      go_loopw [6, 22] (fun it i wr => ∃ c : Nat, c ≤ (nodeAt vs k).kids.length ∧ i = .int .i64 c ∧ wr.ownsRow W1.heap.size 54 1 it c ((List.range c).map fun j => VV (intAt (nodeAt vs k).kids j).toNat) ∧ Below W1.heap.size W1 wr) (fun _ i _ => (nodeAt vs k).kids.length - (intOf i).toNat)
      case atStart => exact ⟨0, Nat.zero_le _, rfl, World.ownsRow_nil _ _ _ _, Below.refl _ _⟩
      case round =>
        obtain ⟨c, hcl, rfl, hown, hb2⟩ := hrel
        by_cases hcc : c < (nodeAt vs k).kids.length
        · obtain ⟨b1, o1, rfl, hb1', hkc1⟩ := hkc (by omega)
          have hkr := kidsIn_get (HOK.out k hlt).2 hcc
          obtain ⟨q, hq⟩ : ∃ q : Nat, intAt (nodeAt vs k).kids c = (q : Int) := ⟨(intAt (nodeAt vs k).kids c).toNat, by omega⟩
          have hqk : q < k := by omega
          have hck : wr.cell? ⟨b1, o1 + c, none⟩ = some (.int .i64 (q : Int)) := by
            rw [← hq]; exact (below_cell hb2 (by omega)).trans ((below_cell bW1 (by omega)).trans (hkc1 c hcc))
          obtain ⟨tq, xq, hvq⟩ := (HA.out q hqk).iface
          have hcq : wr.cell? ⟨w.heap.size, q, none⟩ = some (.iface tq xq) := by
            refine (below_cell hb2 (by omega)).trans ?_
            rw [rW1.out.cell (by omega), fillI, if_pos hqk, hvq]
          have hqN : (q : Int) < (vs.length : Int) := by omega
          have HQ : Hid ((List.range (c + 1)).map (fun j => VV (intAt (nodeAt vs k).kids j).toNat) = (List.range c).map (fun j => VV (intAt (nodeAt vs k).kids j).toNat) ++ [.iface tq xq]) := by
            rw [Hid, List.range_succ, List.map_append]
            simp [hq, hvq]
          have hb2s := hb2.size
          have HB2 := hideIt hb2
          have h80 : (nodeAt vs k).kids.length ≤ 80 := by have := hkn k hlt; omega
          clear hkc hkc1 hq hkr hvq
          go_wp2_with (at_builtin; refine wpList_append_own _ rfl _ _ 104 rfl W1.heap.size 54 i0 .nilIface 1 16 Tryz.underlying104 hi hz0 hz1 hz2 rfl (by decide) _ _ _ rfl (hown.alloc _) ⟨wr.heap.size, 0, none⟩ 1 1 [.iface tq xq] rfl rfl ?c1 ?c2 ?c3 ?c4 ?c5 ?_)
          case c1 =>
            intro j u hj
            match j, hj with
            | 0, hj => simp at hj; subst hj; simp [Addr.add]
          case c2 => intro u hu; simp at hu; subst hu; rfl
          case c3 => unfold maxLen; omega
          case c4 => omega
          case c5 => simp; omega
          intro v' w3 hown' hgrow _
          have hb3 : Below W1.heap.size W1 w3 := (HB2.out.alloc hb2s _).grown hgrow (by simp; omega) (fun r hr => by
            rcases hown.2 with ⟨rfl, _⟩ | ⟨g, cp, cu, rfl, hbg, _⟩
            · simp [Value.ownBlock] at hr
            · simp [Value.ownBlock] at hr; omega)
          rw [← HQ.out] at hown'
          clear hgrow hown
          go_wp2_with fail
          go_roundw
          case rel => exact ⟨c + 1, by omega, by go_num, hown', hb3⟩
          case measure => simp [intOf]; omega
        · obtain rfl : c = (nodeAt vs k).kids.length := by omega
          have hb2s := hb2.size
          have hIt := hideIt (items_of_own (lo := w.heap.size) (P := fun j u => ValIs w.heap.size wr.heap.size wr vs k (intAt (nodeAt vs k).kids j).toNat u) hown (by omega) (fun j hj => by
            have hkr := kidsIn_get (HOK.out k hlt).2 hj
            obtain ⟨t, x, e⟩ := (HA.out (intAt (nodeAt vs k).kids j).toNat (by omega)).iface
            refine ⟨t, x, e, ?_⟩
            rw [← e]
            exact ValIs.more (by omega) (ValIs.keep ((Keep.of_below (bW1)).trans (Keep.of_below (hb2.mono (by omega)))) (by omega) (by omega) (HA.out _ (by omega)))))
          have hitv := hIt.out
          obtain ⟨ait, cpt, rfl, _⟩ := hitv
          have y0 : wr.cell? ⟨W0.heap.size, 0, none⟩ = some (.int .i64 (nodeAt vs k).kind) := (below_cell hb2 (by omega)).trans HX.out.1
          have y1 : wr.cell? ⟨W0.heap.size, 1, none⟩ = some (.int .i64 (nodeAt vs k).n) := (below_cell hb2 (by omega)).trans HX.out.2.1
          have y2 : wr.cell? ⟨W0.heap.size, 2, none⟩ = some (.string (nodeAt vs k).s) := (below_cell hb2 (by omega)).trans HX.out.2.2.1
          have y3 : wr.cell? ⟨W0.heap.size, 3, none⟩ = some (.slice aK (nodeAt vs k).keys.length cK) := (below_cell hb2 (by omega)).trans HX.out.2.2.2
          have rwr := rowIs_below rW1.out hb2 (by omega)
          have z0 := rwr.cell hlt
          have z1 := rwr.frozen k
          have HRW := hideIt rwr
          have HKE : Hid (Keep w.heap.size W0.heap.size W0 wr) := (Keep.of_below (bW1)).trans (Keep.of_below (hb2.mono (by omega)))
          have HBE : Hid (Below w.heap.size w wr) := hsub.trans (hb2.mono (by omega))
          have hszz : W0.heap.size ≤ wr.heap.size := by omega
          have HKY : Hid (StrsAt w.heap.size wr (.slice aK (nodeAt vs k).keys.length cK) (nodeAt vs k).keys) := (HK.out.wide hB).below HBE.out
          have HNB := hideIt (HOK.out k hlt).1
          clear hown rwr
          by_cases g2 : (nodeAt vs k).kind = 2
          · have S := valStep (u := .iface 90 (.agg #[.int .i64 (nodeAt vs k).n])) HRW.out HA.out HKE.out hszz hlt0 HBE.out (Or.inr (Or.inl ⟨g2, rfl⟩))
            have HS := hideIt S
            clear S
            go_wp2_with fail
            go_roundw
            case rel => exact ⟨k + 1, _, by omega, by go_num, HS.out.1, HS.out.2.1, HS.out.2.2⟩
            case measure => simp [intOf]; omega
          by_cases g3 : (nodeAt vs k).kind = 3
          · have S := valStep (u := .iface 92 (.agg #[.int .i64 (nodeAt vs k).n])) HRW.out HA.out HKE.out hszz hlt0 HBE.out (Or.inr (Or.inr (Or.inl ⟨g3, rfl⟩)))
            have HS := hideIt S
            clear S g2
            go_wp2_with fail
            go_roundw
            case rel => exact ⟨k + 1, _, by omega, by go_num, HS.out.1, HS.out.2.1, HS.out.2.2⟩
            case measure => simp [intOf]; omega
          by_cases g4 : (nodeAt vs k).kind = 4
          · have S := valStep (u := .iface 95 (.agg #[.string (nodeAt vs k).s])) HRW.out HA.out HKE.out hszz hlt0 HBE.out (Or.inr (Or.inr (Or.inr (Or.inl ⟨g4, rfl⟩))))
            have HS := hideIt S
            clear S g2 g3
            go_wp2_with fail
            go_roundw
            case rel => exact ⟨k + 1, _, by omega, by go_num, HS.out.1, HS.out.2.1, HS.out.2.2⟩
            case measure => simp [intOf]; omega
          by_cases g5 : (nodeAt vs k).kind = 5
          · have S := valStep (u := .iface 113 (.agg #[.slice ait (nodeAt vs k).kids.length cpt])) HRW.out HA.out HKE.out hszz hlt0 HBE.out (Or.inr (Or.inr (Or.inr (Or.inr (Or.inl ⟨g5, _, rfl, hIt.out⟩)))))
            have HS := hideIt S
            clear S g2 g3 g4
            go_wp2_with fail
            go_roundw
            case rel => exact ⟨k + 1, _, by omega, by go_num, HS.out.1, HS.out.2.1, HS.out.2.2⟩
            case measure => simp [intOf]; omega
          by_cases g6 : (nodeAt vs k).kind = 6
          · have S := valStep (u := .iface 116 (.agg #[.slice aK (nodeAt vs k).keys.length cK, .slice ait (nodeAt vs k).kids.length cpt])) HRW.out HA.out HKE.out hszz hlt0 HBE.out (Or.inr (Or.inr (Or.inr (Or.inr (Or.inr ⟨g6, _, _, rfl, HKY.out, hIt.out⟩)))))
            have HS := hideIt S
            clear S g2 g3 g4 g5
            go_wp2_with fail
            go_roundw
            case rel => exact ⟨k + 1, _, by omega, by go_num, HS.out.1, HS.out.2.1, HS.out.2.2⟩
            case measure => simp [intOf]; omega
          · have g1 : (nodeAt vs k).kind = 1 := by
              have := HNB.out
              unfold nodeB namedB at this
              by_cases e1 : (nodeAt vs k).kind = 1
              · exact e1
              · simp [e1, g2, g3, g4, g5, g6] at this
            have S := valStep (u := .iface 88 (.agg #[])) HRW.out HA.out HKE.out hszz hlt0 HBE.out (Or.inl ⟨g1, rfl⟩)
            have HS := hideIt S
            clear S g2 g3 g4 g5 g6
            go_wp2_with fail
            go_roundw
            case rel => exact ⟨k + 1, _, by omega, by go_num, HS.out.1, HS.out.2.1, HS.out.2.2⟩
            case measure => simp [intOf]; omega
    · obtain rfl : k = vs.length := by omega
      go_wp2_with fail
      go_ret
      exact ⟨VV, rfl, hrow.congr fun i hi => by simp [fillI, hi], HA.out, hbel⟩
end Go.Proofs.YtokhindolimchaaGreat

/-
  impl.valueOf: the value of right nodes.
-/
namespace Go.Proofs.YtokhindolimchaaGreat
open Go.RowKit
set_option linter.unusedSimpArgs false
set_option linter.unusedVariables false

set_option maxRecDepth 100000 in
set_option maxHeartbeats 1600000 in
theorem valueOf_no (B : Nat) (v : Value) (vs : List VN) (w : World) (h : NodesAt B w v vs) (hB : B ≤ w.heap.size) (hno : okB vs = false) :
    Calls Tryz.prog 32 #[v] w fun e w' => e = .returned (.tuple #[.nilIface, .bool false]) ∧ Below w.heap.size w w' := by
  have HV := hideIt h
  obtain ⟨_, a, cap, rfl, _⟩ := h
  go_enter Tryz.func32, Tryz.ntmps32
  go_wp2_with fail
  refine (implOk_any B _ vs _ HV.out hB).mono ?_
  rintro e w1 ⟨rfl, hb1⟩
  go_wp2_with fail
  go_ret2
  exact ⟨rfl, hb1⟩

set_option maxRecDepth 100000 in
set_option maxHeartbeats 1600000 in
theorem valueOf_yes (B : Nat) (v : Value) (vs : List VN) (w : World) (h : NodesAt B w v vs) (hB : B ≤ w.heap.size) (hyes : okB vs = true) :
    Calls Tryz.prog 32 #[v] w fun e w' => ∃ lo t x, e = .returned (.tuple #[.iface t x, .bool true]) ∧ w.heap.size ≤ lo ∧ lo < w'.heap.size ∧ ValIs lo w'.heap.size w' vs vs.length (vs.length - 1) (.iface t x) ∧ Below w.heap.size w w' := by
  have HV := hideIt h
  obtain ⟨_, a, cap, rfl, _⟩ := h
  obtain ⟨⟨hn1, hn2⟩, hok, _, hkn⟩ := okB_parts hyes
  have HOK := hideIt hok
  have HKN := hideIt hkn
  clear hok hkn
  go_enter Tryz.func32, Tryz.ntmps32
  go_wp2_with fail
  refine (implOk_any B _ vs _ HV.out hB).mono ?_
  rintro e w1 ⟨rfl, hb1⟩
  have z1 := hb1.size
  go_wp2_with fail
  refine (valuesAt_any B _ vs _ (HV.out.below (hb1.mono hB)) (by omega) hn1 hn2 HOK.out HKN.out).mono ?_
  rintro e w2 ⟨VV, rfl, hrow, hvals, hb2⟩
  have z2 := hb2.size
  obtain ⟨t, x, hx⟩ := (hvals (vs.length - 1) (by omega)).iface
  have hc : w2.cell? ⟨w1.heap.size, vs.length - 1, none⟩ = some (.iface t x) := by rw [hrow.cell (by omega), hx]
  have hlt := hrow.lt
  have hval := hvals (vs.length - 1) (by omega)
  rw [hx] at hval
  have HVL := hideIt hval
  have p0 : ((vs.length : Int) - 1).toNat = vs.length - 1 := by omega
  clear hrow hvals hx hval
  go_wp2_with fail
  go_ret2
  exact ⟨w1.heap.size, t, x, rfl, by omega, hlt, ValIs.more (by omega) HVL.out, hb1.trans (hb2.mono z1)⟩
end Go.Proofs.YtokhindolimchaaGreat

/-
  The program's and the specification's CborText.
-/
namespace Go.Proofs.YtokhindolimchaaGreat
open Go.RowKit
set_option linter.unusedSimpArgs false
set_option linter.unusedVariables false

def cborV (vs : List VN) : List UInt8 := if okB vs = true then cborT vs.length (treeOf vs vs.length (vs.length - 1)) else []
theorem ft_cbor : FT 61 0 := ⟨by kernel_rfl, by decide⟩

set_option maxRecDepth 100000 in
set_option maxHeartbeats 1600000 in
theorem implCbor_any (B : Nat) (v : Value) (vs : List VN) (w : World) (h : NodesAt B w v vs) (hB : B ≤ w.heap.size) :
    Calls Tryz.prog 13 #[v] w fun e w' => e = .returned (.string (txt (cborV vs))) ∧ Below w.heap.size w w' := by
  have HV := hideIt h
  obtain ⟨_, a, cap, rfl, _⟩ := h
  have HP : Hid (cborV vs = if okB vs = true then cborT vs.length (treeOf vs vs.length (vs.length - 1)) else []) := rfl
  go_enter Tryz.func13, Tryz.ntmps13
  go_wp2_with fail
  cases ok1 : okB vs
  · refine (valueOf_no B _ vs _ HV.out hB ok1).mono ?_
    rintro e w1 ⟨rfl, hb1⟩
    rw [ok1] at HP
    go_wp2_with fail
    go_ret
    exact ⟨by rw [HP.out]; rfl, hb1⟩
  · refine (valueOf_yes B _ vs _ HV.out hB ok1).mono ?_
    rintro e w1 ⟨lo1, t, x, rfl, hl1, hl1', hv1, hb1⟩
    have z1 := hb1.size
    obtain ⟨p1, p2, _, p4⟩ := okB_parts ok1
    have ht := ValIs.tree (by omega) p2 p4 p1.2 (by omega) hv1
    have HFIT := hideIt (tfit_of ok1 vs.length (vs.length - 1) (by omega))
    have H16 := hideIt (cborT_16k ok1 (f := vs.length) (i := vs.length - 1) (by omega) (by omega))
    have HPOS : Hid (1 ≤ (cborT vs.length (treeOf vs vs.length (vs.length - 1))).length) := by
      obtain ⟨f, hf⟩ : ∃ f, vs.length = f + 1 := ⟨vs.length - 1, by omega⟩
      have := cborT_pos ok1 f (i := vs.length - 1) (by omega)
      rw [← hf] at this
      exact this
    rw [ok1, if_pos rfl] at HP
    have HB1 := hideIt hb1
    obtain ⟨W2, hW2⟩ : ∃ W2, w1.alloc (.cells #[.pointer none, .slice none 0 0] 61) = W2 := ⟨_, rfl⟩
    have HW2 := hideIt hW2
    have HT2 : Hid (TreeAt w1.heap.size W2 vs.length (treeOf vs vs.length (vs.length - 1)) (.iface t x)) := TreeAt.keep (fun c hc => by rw [← hW2]; exact Below.heap_alloc _ _ _ hc) (Nat.le_refl _) ht
    have HFB : Hid (FB 61 w1.heap.size w1.heap.size [] [] W2) := by
      refine ⟨Nat.le_refl _, .pointer none, .slice none 0 0, .inl rfl, ?_, ?_, by simp [Value.ownBlock]⟩
      · rw [← hW2]; exact heap_alloc_new w1 _
      · exact World.ownsRow_nil _ _ _ _
    have hz2 : w1.heap.size ≤ W2.heap.size := by rw [← hW2]; simp
    have HBW : Hid (Below w1.heap.size w1 W2) := by rw [Hid, ← hW2]; exact (Below.refl _ _).alloc (Nat.le_refl _) _
    clear hv1 p2 p4 hb1 ht hW2
    go_wp2_with fail
    rw [HW2.out]
    refine (cbWrite_any w1.heap.size w1.heap.size ft_cbor vs.length _ _ [] W2 HFB.out HT2.out HFIT.out hz2 (by rw [List.nil_append]; have := H16.out; omega)).mono ?_
    rintro e w3 ⟨rfl, f3, b3, _⟩
    rw [List.nil_append] at f3
    have HF3 := hideIt f3
    have HB3 := hideIt (HBW.out.trans b3)
    clear f3 b3
    go_wp2_with (go_at_call 34; refine (fb_string HF3.out (fun e => by have := HPOS.out; rw [e] at this; simp at this)).mono ?_; rintro e w4 ⟨rfl, b4⟩)
    go_ret
    exact ⟨by rw [HP.out]; rfl, HB1.out.trans ((HB3.out.trans b4).mono z1)⟩

set_option maxRecDepth 100000 in
set_option maxHeartbeats 1600000 in
theorem specCbor_any (B : Nat) (v : Value) (vs : List VN) (w : World) (h : NodesAt B w v vs) (hB : B ≤ w.heap.size) :
    Calls Tryz.prog 22 #[v] w fun e w' => e = .returned (.string (txt (cborV vs))) ∧ Below w.heap.size w w' := by
  have HV := hideIt h
  obtain ⟨_, a, cap, rfl, _⟩ := h
  have HP : Hid (cborV vs = if okB vs = true then cborT vs.length (treeOf vs vs.length (vs.length - 1)) else []) := rfl
  go_enter Tryz.func22, Tryz.ntmps22
  go_wp2_with fail
  refine (specOk_any B _ vs _ HV.out hB).mono ?_
  rintro e w1 ⟨rfl, hb1⟩
  have z1 := hb1.size
  cases ok1 : okB vs
  · rw [ok1] at HP
    go_wp2_with fail
    go_ret
    exact ⟨by rw [HP.out]; rfl, hb1⟩
  · rw [ok1, if_pos rfl] at HP
    obtain ⟨p1, _⟩ := okB_parts ok1
    have HTX := hideIt (l3Text_any B vs ok1 vs.length _ (vs.length - 1) w1 (HV.out.below (hb1.mono hB)) (by omega) (by omega) (by omega))
    obtain ⟨N, hN⟩ : ∃ N, vs.length = N := ⟨_, rfl⟩
    have e1 : ((N - 1 : Nat) : Int) = (N : Int) - 1 := by omega
    rw [hN] at HTX HP p1 ⊢
    rw [e1] at HTX
    clear hN
    go_wp2_with (first | (go_at_call 31; go_in) | (go_at_call 66; refine HTX.out.mono ?_; rintro e w2 ⟨rfl, hb2⟩))
    go_ret
    exact ⟨by rw [HP.out]; rfl, hb1.trans (hb2.mono z1)⟩
end Go.Proofs.YtokhindolimchaaGreat

/-
  Shortest: the program's and the specification's.
-/
namespace Go.Proofs.YtokhindolimchaaGreat
open Go.RowKit
set_option linter.unusedSimpArgs false
set_option linter.unusedVariables false

/-- What is written of nodes is read as those, to its end. -/
theorem cbor_again {ns : List VN} (hok : okB ns = true) {s : ByteArray} (hs : s.size ≤ 4000) (he : s.data.toList = cborV ns) : rdC s.data.toList (s.size + 1) 0 = some (treeOf ns ns.length (ns.length - 1), s.size) := by
  have hl := len_is s
  have hv : cborV ns = cborT ns.length (treeOf ns ns.length (ns.length - 1)) := by unfold cborV; rw [if_pos hok]
  obtain ⟨p1, _⟩ := okB_parts hok
  have hg := good_tree hok ns.length (ns.length - 1) (by omega) (by omega)
  have hsit : Sit s.data.toList 0 (cborT ns.length (treeOf ns ns.length (ns.length - 1))) := ⟨Nat.zero_le _, [], by rw [List.drop_zero, List.append_nil, he, hv]⟩
  have hb : s.data.toList.length ≤ 1000000000000000 := by omega
  have h1 := read_cbor hb ns.length ns.length _ 0 (Nat.le_refl _) hg hsit
  have h2 := (rdC_ok s.data.toList (by omega) ns.length 0 _ _ h1).2.2.1
  rw [whole_len hok, ← hv, ← he, Nat.zero_add, Nat.sub_zero, hl] at h2
  have h3 := read_cbor hb ns.length (s.size + 1) _ 0 (by omega) hg hsit
  rw [← hv, ← he, Nat.zero_add, hl] at h3
  exact h3
theorem cborF_ok {s : ByteArray} {ns : List VN} {q : Nat} (h : cborF s = some (ns, q)) : okB ns = true ∧ s.size ≤ 4000 ∧ SmNs ns ∧ ∃ t, rdC s.data.toList (s.size + 1) 0 = some (t, q) := by
  by_cases hs : s.size ≤ 4000
  · have hsm := cborF_small s
    rw [h] at hsm
    have hl := len_is s
    unfold cborF frontV at h
    rw [if_neg (by omega)] at h
    cases e : rdC s.data.toList (s.size + 1) 0 with
    | none => rw [e] at h; cases h
    | some x =>
      obtain ⟨t, r⟩ := x
      rw [e] at h
      unfold okOf at h
      dsimp only at h
      split at h
      · rename_i hok
        simp only [Option.some.injEq, Prod.mk.injEq] at h
        obtain ⟨rfl, rfl⟩ := h
        refine ⟨hok, hs, ?_, t, rfl⟩
        rcases hsm with hx | hx
        · obtain ⟨p1, _⟩ := okB_parts hok
          exfalso
          have : (layT (s.data.toList.length + 1) t 0).length = 0 := by rw [show layT (s.data.toList.length + 1) t 0 = [] from hx]; rfl
          omega
        · exact hx
      · cases h
  · rw [cborF_big (by omega)] at h; cases h
def shortB (s : ByteArray) : Bool := match cborF s with | none => false | some (ns, _) => (txt (cborV ns)).toList == s.toList
theorem short_all {s : ByteArray} {ns : List VN} {q : Nat} (h : cborF s = some (ns, q)) (he : ((txt (cborV ns)).toList == s.toList) = true) : q = s.size := by
  obtain ⟨h1, h2, _, t, h3⟩ := cborF_ok h
  have e := str_eq he
  have h4 := cbor_again h1 h2 (by rw [← e, bytes_txt])
  rw [h3] at h4
  simp only [Option.some.injEq, Prod.mk.injEq] at h4
  exact h4.2

set_option maxRecDepth 100000 in
set_option maxHeartbeats 3200000 in
theorem implShort_any (s : ByteArray) (w : World) (hs : s.size ≤ 9223372036854775807) : Calls Tryz.prog 11 #[.string s] w fun e w' => e = .returned (.bool (shortB s)) ∧ Below w.heap.size w w' := by
  have HC := hideB (implReadCbor_any s hs w)
  cases hV : cborF s with
  | none =>
    have HSB : Hid (shortB s = false) := by rw [Hid, shortB, hV]
    rw [hV] at HC
    rw [HSB.out]
    clear hV
    go_enter Tryz.func11, Tryz.ntmps11
    go_wp2_with fail
    refine HC.out.mono ?_
    rintro e w1 ⟨r, base, KV, IV, rfl, _, _, hn, hb⟩
    obtain ⟨ar, cr, er⟩ := own_slice hn.row
    subst er
    have HB := hideB hb
    clear hn hb
    go_wp2_with fail
    go_ret
    exact ⟨rfl, HB.out⟩
  | some x =>
    obtain ⟨ns, q⟩ := x
    have HSB : Hid (shortB s = ((txt (cborV ns)).toList == s.toList)) := by rw [Hid, shortB, hV]
    obtain ⟨_, _, hsm, _⟩ := cborF_ok hV
    rw [hV] at HC
    rw [HSB.out]
    have HSM := hideB hsm
    clear hV hsm
    obtain ⟨T, hT⟩ : ∃ T, txt (cborV ns) = T := ⟨_, rfl⟩
    have HTT := hideB hT
    rw [hT] at HSB ⊢
    clear hT
    go_enter Tryz.func11, Tryz.ntmps11
    go_wp2_with fail
    refine HC.out.mono ?_
    rintro e w1 ⟨r, base, KV, IV, rfl, _, _, hn, hb⟩
    have HCT := hideB (implCbor_any w1.heap.size r ns w1 (Nest.nodes (vs := ns) hn (by have := HSM.out.2.1; omega) (fun j hj => HSM.out.few.2 j hj)) (Nat.le_refl _))
    obtain ⟨ar, cr, er⟩ := own_slice hn.row
    have er' : r = .slice ar ns.length cr := er
    subst er'
    have HB := hideB hb
    have z1 := hb.size
    clear hn hb er
    obtain ⟨M, hM⟩ : ∃ M, ns.length = M := ⟨_, rfl⟩
    rw [hM] at HCT ⊢
    clear hM
    rw [HTT.out] at HCT
    go_wp2_with fail
    refine HCT.out.mono ?_
    rintro e w2 ⟨rfl, hb2⟩
    have HB2 := hideB (HB.out.trans (hb2.mono z1))
    clear hb2
    go_wp2_with fail
    go_ret
    exact ⟨rfl, HB2.out⟩

set_option maxRecDepth 100000 in
set_option maxHeartbeats 3200000 in
theorem specShort_any (s : ByteArray) (w : World) (hs : s.size ≤ 9223372036854775807) : Calls Tryz.prog 12 #[.string s] w fun e w' => e = .returned (.bool (shortB s)) ∧ Below w.heap.size w w' := by
  have HC := hideB (specReadCbor_any s hs w)
  cases hV : cborF s with
  | none =>
    have HSB : Hid (shortB s = false) := by rw [Hid, shortB, hV]
    rw [hV] at HC
    rw [HSB.out]
    clear hV
    go_enter Tryz.func12, Tryz.ntmps12
    go_wp2_with fail
    refine HC.out.mono ?_
    rintro e w1 ⟨r, base, KV, IV, rfl, _, _, hn, hb⟩
    obtain ⟨ar, cr, er⟩ := own_slice hn.row
    subst er
    have HB := hideB hb
    clear hn hb
    go_wp2_with fail
    go_ret
    exact ⟨rfl, HB.out⟩
  | some x =>
    obtain ⟨ns, q⟩ := x
    have HSB : Hid (shortB s = ((txt (cborV ns)).toList == s.toList)) := by rw [Hid, shortB, hV]
    obtain ⟨hok, _, hsm, _⟩ := cborF_ok hV
    have HALL := hideB (short_all hV)
    rw [hV] at HC
    rw [HSB.out]
    have HSM := hideB hsm
    have HOK := hideB hok
    clear hV hsm
    obtain ⟨T, hT⟩ : ∃ T, txt (cborV ns) = T := ⟨_, rfl⟩
    have HTT := hideB hT
    rw [hT] at HSB HALL ⊢
    clear hT
    go_enter Tryz.func12, Tryz.ntmps12
    go_wp2_with fail
    refine HC.out.mono ?_
    rintro e w1 ⟨r, base, KV, IV, rfl, _, _, hn, hb⟩
    have hU : usedOf (some (ns, q)) = q := rfl
    rw [hU]
    clear hU
    obtain ⟨p1, _⟩ := okB_parts HOK.out
    have HTX := hideB (l3Text_any w1.heap.size ns HOK.out ns.length r (ns.length - 1) w1 (Nest.nodes (vs := ns) hn (by have := HSM.out.2.1; omega) (fun j hj => HSM.out.few.2 j hj)) (by omega) (by omega) (by omega))
    have HVV : Hid (cborT ns.length (treeOf ns ns.length (ns.length - 1)) = cborV ns) := by rw [Hid]; unfold cborV; rw [if_pos HOK.out]
    rw [HVV.out] at HTX
    obtain ⟨ar, cr, er⟩ := own_slice hn.row
    have er' : r = .slice ar ns.length cr := er
    subst er'
    have HB := hideB hb
    have z1 := hb.size
    clear hn hb er HVV
    obtain ⟨M, hM⟩ : ∃ M, ns.length = M := ⟨_, rfl⟩
    have e1 : ((M - 1 : Nat) : Int) = (M : Int) - 1 := by omega
    rw [hM] at HTX p1 ⊢
    rw [e1] at HTX
    clear hM hok
    rw [HTT.out] at HTX
    by_cases hq : q = s.size
    · have hq' : ((q : Int) == (s.size : Int)) = true := by simp; omega
      clear hq
      go_wp2_with (first | (go_at_call 31; go_in) | (go_at_call 66; refine HTX.out.mono ?_; rintro e w2 ⟨rfl, hb2⟩))
      go_ret
      exact ⟨rfl, HB.out.trans (hb2.mono z1)⟩
    · have hq' : ((q : Int) == (s.size : Int)) = false := by simp; omega
      have HNO : Hid ((T.toList == s.toList) = false) := by
        rw [Hid]
        cases hx : (T.toList == s.toList)
        · rfl
        · exact absurd (HALL.out hx) hq
      clear hq
      go_wp2_with fail
      go_ret
      exact ⟨by rw [HNO.out]; rfl, HB.out⟩
end Go.Proofs.YtokhindolimchaaGreat
