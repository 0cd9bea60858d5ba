import Derived.Test.YtcidjhnogldgmaaGreatDoorVarsF
import Derived.Test.YtcidjhnogldgmaaGreatDoorFrRg
import Derived.LaidLaws
namespace Go.Proofs.YtcidjhnogldgmaaGreatDoor
open Go.RowKit
set_option linter.unusedVariables false
set_option linter.unusedSimpArgs false
set_option maxRecDepth 100000 in
theorem rv_tab : (Rows.laid_strings_asciiSpace : DataW Unit) = Lib.tabData .u8 Lib.asciiSpaceTab := by rfl
theorem rv_sg : Tryz.prog.globalNamed "strings.asciiSpace" = some 5 := by kernel_rfl
theorem rv_sgt : (Tryz.prog.globals[5]?).map (·.type) = some 153 := by kernel_rfl
theorem rv_c1 : Tryz.prog.cellsOf 5 = 1 := by kernel_rfl
theorem rv_c256 : Tryz.prog.cellsOf 153 = 256 := by kernel_rfl
theorem rv_spIs {W : World} {l : List (String × DataW Unit)} (h : laidMet Tryz.prog l W) (hm : ("strings.asciiSpace", Rows.laid_strings_asciiSpace) ∈ l) : Lib.TabIs Tryz.prog W "strings.asciiSpace" .u8 Lib.asciiSpaceTab := by
  obtain ⟨g', t', cs, fuel, p, hg', ht', hvar, hd⟩ := Lib.laidMet.reads h hm
  obtain rfl := Option.some.inj (rv_sg.symm.trans hg')
  obtain rfl := Option.some.inj (rv_sgt.symm.trans ht')
  unfold Lib.TabIs
  rw [rv_tab] at hd
  rw [hvar, ← Lib.cells_of_tab Tryz.underlying153 Tryz.underlying5 rv_c1 rv_c256 hd]
set_option maxRecDepth 100000 in
theorem rv_spB {W : World} (h : Lib.TabIs Tryz.prog W "strings.asciiSpace" .u8 Lib.asciiSpaceTab) : SpB W.heap.size W := by
  intro w' hb
  have hc := h.cell rv_sg 0 (by decide)
  have hlt : 5 < W.heap.size := by
    rcases Nat.lt_or_ge 5 W.heap.size with h' | h'
    · exact h'
    · simp [World.cell?, Array.getElem?_eq_none h'] at hc
  unfold Lib.TabIs World.var? at h ⊢
  simp only [rv_sg, Option.bind_some] at h ⊢
  rw [hb.block _ hlt]
  exact h
theorem rv_yg : Tryz.prog.globalNamed "strconv.ErrSyntax" = some 12 := by kernel_rfl
theorem rv_ygt : (Tryz.prog.globals[12]?).map (·.type) = some 47 := by kernel_rfl
theorem rv_rg : Tryz.prog.globalNamed "strconv.ErrRange" = some 13 := by kernel_rfl
theorem rv_rgt : (Tryz.prog.globals[13]?).map (·.type) = some 47 := by kernel_rfl
theorem rv_syn {W : World} {l : List (String × DataW Unit)} (h : laidMet Tryz.prog l W) (hm : ("strconv.ErrSyntax", Rows.laid_strconv_ErrSyntax) ∈ l) : ∃ t v, W.cell? ⟨12, 0, none⟩ = some (.iface t v) := by
  obtain ⟨g', t', cs, fuel, p, hg', ht', hvar, hd⟩ := Lib.laidMet.reads h hm
  obtain rfl := Option.some.inj (rv_yg.symm.trans hg')
  obtain rfl := Option.some.inj (rv_ygt.symm.trans ht')
  obtain ⟨f1, u, v, e, _⟩ := iface_of_trod Tryz.underlying47 hd
  have := World.var?_cell rv_yg hvar 0
  refine ⟨u, v, by rw [this]; simp [e, ← Array.getElem?_toList]⟩
theorem rv_ran {W : World} {l : List (String × DataW Unit)} (h : laidMet Tryz.prog l W) (hm : ("strconv.ErrRange", Rows.laid_strconv_ErrRange) ∈ l) : ∃ t v, W.cell? ⟨13, 0, none⟩ = some (.iface t v) := by
  obtain ⟨g', t', cs, fuel, p, hg', ht', hvar, hd⟩ := Lib.laidMet.reads h hm
  obtain rfl := Option.some.inj (rv_rg.symm.trans hg')
  obtain rfl := Option.some.inj (rv_rgt.symm.trans ht')
  obtain ⟨f1, u, v, e, _⟩ := iface_of_trod Tryz.underlying47 hd
  have := World.var?_cell rv_rg hvar 0
  refine ⟨u, v, by rw [this]; simp [e, ← Array.getElem?_toList]⟩
theorem rv_cellN {w w' : World} {B g o : Nat} {u : Value} (hb : Below B w w') (hB : w.heap.size ≤ B) (h : w.cell? ⟨g, o, none⟩ = some u) : w'.cell? ⟨g, o, none⟩ = some u := by
  have hlt : g < w.heap.size := by
    rcases Nat.lt_or_ge g w.heap.size with h' | h'
    · exact h'
    · simp [World.cell?, Array.getElem?_eq_none h'] at h
  exact (below_cell hb (Nat.lt_of_lt_of_le hlt hB)).trans h
theorem rv_erB {W : World} {t1 t2 : TypeId} {v1 v2 : Value} (h1 : W.cell? ⟨12, 0, none⟩ = some (.iface t1 v1)) (h2 : W.cell? ⟨13, 0, none⟩ = some (.iface t2 v2)) : ErrF W.heap.size W :=
  fun w' hb => ⟨⟨_, rv_cellN hb (Nat.le_refl _) h1, .inr ⟨_, _, rfl⟩⟩, ⟨_, rv_cellN hb (Nat.le_refl _) h2, .inr ⟨_, _, rfl⟩⟩⟩
theorem rv_tabsR {W : World} {l : List (String × DataW Unit)} (h : laidMet Tryz.prog l W) (m1 : ("internal/strconv.uint64pow10", Rows.laid_internal_strconv_uint64pow10) ∈ l) (m2 : ("loop.example/g00345/impl.joints", Rows.laid_loop_example_g00345_impl_joints) ∈ l)
    (m3 : ("loop.example/g00345/impl.words", Rows.laid_loop_example_g00345_impl_words) ∈ l) (m4 : ("strings.asciiSpace", Rows.laid_strings_asciiSpace) ∈ l) (m5 : ("strconv.ErrSyntax", Rows.laid_strconv_ErrSyntax) ∈ l) (m6 : ("strconv.ErrRange", Rows.laid_strconv_ErrRange) ∈ l) : TabsR W.heap.size W := by
  obtain ⟨t1, v1, e1⟩ := rv_syn h m5
  obtain ⟨t2, v2, e2⟩ := rv_ran h m6
  exact ⟨⟨fv_wd h m3, js_tabB (fv_tabIs h m1), rv_erB e1 e2⟩, fv_jt h m2, rv_spB (rv_spIs h m4)⟩
end Go.Proofs.YtcidjhnogldgmaaGreatDoor
