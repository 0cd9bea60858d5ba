/-
  What the row's condition gives: the table of powers of ten.
-/
import Derived.Test.YtgikginlgjglfaaDoorRows
import Derived.Test.YtgikginlgjglfaaDoorIJson
import Derived.Lib.LaidTab
import Derived.LaidLaws
import Derived.ProofKit
namespace Go.Proofs.YtgikginlgjglfaaDoor
open Go.RowKit
set_option linter.unusedVariables false

theorem js_own : ownKnob Tryd.prog.godebug = none := by kernel_rfl
theorem js_laidOut : laidOutB Tryd.prog = true := by kernel_rfl
theorem js_tab : (Rows.laid_internal_strconv_uint64pow10 : DataW Unit) = Lib.tabData .u64 Lib.pow10Tab := by rfl
theorem js_g : Tryd.prog.globalNamed "internal/strconv.uint64pow10" = some 0 := by kernel_rfl
theorem js_gt : (Tryd.prog.globals[0]?).map (·.type) = some 111 := by kernel_rfl
theorem js_c1 : Tryd.prog.cellsOf 102 = 1 := by kernel_rfl
theorem js_c20 : Tryd.prog.cellsOf 111 = 20 := by kernel_rfl
theorem js_tabIs {W : World} {a b : String × DataW Unit} (h : laidMet Tryd.prog [a, b, ("internal/strconv.uint64pow10", Rows.laid_internal_strconv_uint64pow10)] W) : Lib.TabIs Tryd.prog W "internal/strconv.uint64pow10" .u64 Lib.pow10Tab := by
  obtain ⟨ps, ⟨_, _, _, _, _, _, _, _, _, _, ⟨_, _, _, _, _, _, _, _, _, _, ⟨g', t', cs, fuel, p, q, hg', ht', hvar, hd, _, _⟩, _⟩, _⟩, _⟩ := h
  obtain rfl := Option.some.inj (js_g.symm.trans hg')
  obtain rfl := Option.some.inj (js_gt.symm.trans ht')
  unfold Lib.TabIs
  rw [js_tab] at hd
  rw [hvar, ← Lib.cells_of_tab Tryd.underlying111 Tryd.underlying102 js_c1 js_c20 hd]
theorem js_tabB {W : World} (h : Lib.TabIs Tryd.prog W "internal/strconv.uint64pow10" .u64 Lib.pow10Tab) : TabB W.heap.size W := by
  intro w' hb
  have hc := h.cell js_g 0 (by decide)
  have hlt : 0 < W.heap.size := by
    rcases Nat.lt_or_ge 0 W.heap.size with h' | h'
    · exact h'
    · simp [World.cell?, Array.getElem?_eq_none h'] at hc
  unfold Lib.TabIs World.var? at h ⊢
  simp only [js_g, Option.bind_some] at h ⊢
  rw [hb.block _ hlt]
  exact h
end Go.Proofs.YtgikginlgjglfaaDoor
