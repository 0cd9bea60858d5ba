/-
  impl.valueOf: the value of right nodes.
-/
import Derived.Test.YtiamkmkbkehldaaDoorVAt
import Derived.Test.YtiamkmkbkehldaaDoorImp3
import Derived.Test.YtiamkmkbkehldaaDoorIJw
import Derived.Test.YtiamkmkbkehldaaDoorSJt
import Derived.Test.YtiamkmkbkehldaaDoorRows
import Derived.Lib.LaidTab
import Derived.LaidLaws
import Derived.ProofKit
import Derived.Test.YtiamkmkbkehldaaDoorPkT
namespace Go.Proofs.YtiamkmkbkehldaaDoor
open Go.RowKit
set_option linter.unusedSimpArgs false
set_option linter.unusedVariables false

set_option maxRecDepth 100000 in
set_option maxHeartbeats 1600000 in
theorem valueOf_no (B : Nat) (v : Value) (vs : List VN) (w : World) (h : NodesAt B w v vs) (hB : B ≤ w.heap.size) (hno : okB vs = false) :
    Calls Tryd.prog 22 #[v] w fun e w' => e = .returned (.tuple #[.nilIface, .bool false]) ∧ Below w.heap.size w w' := by
  have HV := hideIt h
  obtain ⟨_, a, cap, rfl, _⟩ := h
  go_enter Tryd.func22, Tryd.ntmps22
  go_wp2_with fail
  refine (implOk_any B _ vs _ HV.out hB).mono ?_
  rintro e w1 ⟨rfl, hb1⟩
  go_wp2_with fail
  go_ret2
  exact ⟨rfl, hb1⟩

set_option maxRecDepth 100000 in
set_option maxHeartbeats 1600000 in
theorem valueOf_yes (B : Nat) (v : Value) (vs : List VN) (w : World) (h : NodesAt B w v vs) (hB : B ≤ w.heap.size) (hyes : okB vs = true) :
    Calls Tryd.prog 22 #[v] w fun e w' => ∃ lo t x, e = .returned (.tuple #[.iface t x, .bool true]) ∧ w.heap.size ≤ lo ∧ lo < w'.heap.size ∧ ValIs lo w'.heap.size w' vs vs.length (vs.length - 1) (.iface t x) ∧ Below w.heap.size w w' := by
  have HV := hideIt h
  obtain ⟨_, a, cap, rfl, _⟩ := h
  obtain ⟨⟨hn1, hn2⟩, hok, _, hkn⟩ := okB_parts hyes
  have HOK := hideIt hok
  have HKN := hideIt hkn
  clear hok hkn
  go_enter Tryd.func22, Tryd.ntmps22
  go_wp2_with fail
  refine (implOk_any B _ vs _ HV.out hB).mono ?_
  rintro e w1 ⟨rfl, hb1⟩
  have z1 := hb1.size
  go_wp2_with fail
  refine (valuesAt_any B _ vs _ (HV.out.below (hb1.mono hB)) (by omega) hn1 hn2 HOK.out HKN.out).mono ?_
  rintro e w2 ⟨VV, rfl, hrow, hvals, hb2⟩
  have z2 := hb2.size
  obtain ⟨t, x, hx⟩ := (hvals (vs.length - 1) (by omega)).iface
  have hc : w2.cell? ⟨w1.heap.size, vs.length - 1, none⟩ = some (.iface t x) := by rw [hrow.cell (by omega), hx]
  have hlt := hrow.lt
  have hval := hvals (vs.length - 1) (by omega)
  rw [hx] at hval
  have HVL := hideIt hval
  have p0 : ((vs.length : Int) - 1).toNat = vs.length - 1 := by omega
  clear hrow hvals hx hval
  go_wp2_with fail
  go_ret2
  exact ⟨w1.heap.size, t, x, rfl, by omega, hlt, ValIs.more (by omega) HVL.out, hb1.trans (hb2.mono z1)⟩
end Go.Proofs.YtiamkmkbkehldaaDoor

/-
  The program's and the specification's JsonText and Indented.
-/
namespace Go.Proofs.YtiamkmkbkehldaaDoor
open Go.RowKit
set_option linter.unusedSimpArgs false
set_option linter.unusedVariables false

theorem ft_json : FT 75 1 := ⟨by kernel_rfl, by decide⟩
end Go.Proofs.YtiamkmkbkehldaaDoor

/-
  What the row's condition gives: the table of powers of ten.
-/
namespace Go.Proofs.YtiamkmkbkehldaaDoor
open Go.RowKit
set_option linter.unusedVariables false

theorem js_own : ownKnob Tryd.prog.godebug = none := by kernel_rfl
theorem js_laidOut : laidOutB Tryd.prog = true := by kernel_rfl
theorem js_tab : (Rows.laid_internal_strconv_uint64pow10 : DataW Unit) = Lib.tabData .u64 Lib.pow10Tab := by rfl
theorem js_g : Tryd.prog.globalNamed "internal/strconv.uint64pow10" = some 4 := by kernel_rfl
theorem js_gt : (Tryd.prog.globals[4]?).map (·.type) = some 139 := by kernel_rfl
theorem js_c1 : Tryd.prog.cellsOf 107 = 1 := by kernel_rfl
theorem js_c20 : Tryd.prog.cellsOf 139 = 20 := by kernel_rfl
theorem js_tabIs {W : World} {a b : String × DataW Unit} {r : List (String × DataW Unit)} (h : laidMet Tryd.prog (a :: b :: ("internal/strconv.uint64pow10", Rows.laid_internal_strconv_uint64pow10) :: r) W) : Lib.TabIs Tryd.prog W "internal/strconv.uint64pow10" .u64 Lib.pow10Tab := by
  obtain ⟨ps, ⟨_, _, _, _, _, _, _, _, _, _, ⟨_, _, _, _, _, _, _, _, _, _, ⟨g', t', cs, fuel, p, q, hg', ht', hvar, hd, _, _⟩, _⟩, _⟩, _⟩ := h
  obtain rfl := Option.some.inj (js_g.symm.trans hg')
  obtain rfl := Option.some.inj (js_gt.symm.trans ht')
  unfold Lib.TabIs
  rw [js_tab] at hd
  rw [hvar, ← Lib.cells_of_tab Tryd.underlying139 Tryd.underlying107 js_c1 js_c20 hd]
theorem js_tabB {W : World} (h : Lib.TabIs Tryd.prog W "internal/strconv.uint64pow10" .u64 Lib.pow10Tab) : TabB W.heap.size W := by
  intro w' hb
  have hc := h.cell js_g 0 (by decide)
  have hlt : 4 < W.heap.size := by
    rcases Nat.lt_or_ge 4 W.heap.size with h' | h'
    · exact h'
    · simp [World.cell?, Array.getElem?_eq_none h'] at hc
  unfold Lib.TabIs World.var? at h ⊢
  simp only [js_g, Option.bind_some] at h ⊢
  rw [hb.block _ hlt]
  exact h
end Go.Proofs.YtiamkmkbkehldaaDoor

/-
  A nest of nodes, from a lower block on.
-/
namespace Go.Proofs.YtiamkmkbkehldaaDoor
open Go.RowKit

theorem Nest.low {base base' : Nat} {w : World} {v : Value} {vs : List VN} {KV IV : Nat → Value} (h : Nest base w v vs KV IV) (hb : base' ≤ base) : Nest base' w v vs KV IV :=
  ⟨own_mono h.row hb, fun i hi => own_mono (h.rk i hi) hb, fun i hi => own_mono (h.ri i hi) hb, h.dkk, h.dii⟩
end Go.Proofs.YtiamkmkbkehldaaDoor
