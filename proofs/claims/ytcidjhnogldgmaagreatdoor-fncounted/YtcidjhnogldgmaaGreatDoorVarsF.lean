import Derived.Test.YtcidjhnogldgmaaGreatDoorVarsJ
import Derived.Test.YtcidjhnogldgmaaGreatDoorIFj
import Derived.Test.YtcidjhnogldgmaaGreatDoorFBk
import Derived.Lib.LaidU8
import Derived.OpenShut
namespace Go.Proofs.YtcidjhnogldgmaaGreatDoor
open Go.RowKit
set_option linter.unusedVariables false
set_option linter.unusedSimpArgs false
theorem fv_tabIs {W : World} {l : List (String × DataW Unit)} (h : laidMet Tryz.prog l W) (hm : ("internal/strconv.uint64pow10", Rows.laid_internal_strconv_uint64pow10) ∈ l) : Lib.TabIs Tryz.prog W "internal/strconv.uint64pow10" .u64 Lib.pow10Tab := by
  obtain ⟨g', t', cs, fuel, p, hg', ht', hvar, hd⟩ := Lib.laidMet.reads h hm
  obtain rfl := Option.some.inj (js_g.symm.trans hg')
  obtain rfl := Option.some.inj (js_gt.symm.trans ht')
  unfold Lib.TabIs
  rw [js_tab] at hd
  rw [hvar, ← Lib.cells_of_tab Tryz.underlying277 Tryz.underlying131 js_c1 js_c20 hd]
theorem chunks {k : Nat} : ∀ {n : Nat} {cs : List Value} {rows : List (List Value)}, cs.length = n * k → rows.length = n → (∀ i, i < n → (cs.drop (i * k)).take k = rows.getD i []) → cs = rows.flatten := by
  intro n
  induction n with
  | zero =>
    intro cs rows h1 h2 _
    rw [List.eq_nil_of_length_eq_zero h2, List.eq_nil_of_length_eq_zero (show cs.length = 0 by omega)]; rfl
  | succ n ih =>
    intro cs rows h1 h2 h3
    match rows, h2 with
    | r :: rows, h2 =>
      have e0 := h3 0 (by omega)
      simp at e0
      have := ih (cs := cs.drop k) (rows := rows) (by rw [List.length_drop, h1, Nat.succ_mul]; omega) (by simpa using h2) (fun i hi => by
        have := h3 (i + 1) (by omega)
        simp only [List.getD_cons_succ] at this
        rw [List.drop_drop, ← this]
        congr 2
        rw [Nat.succ_mul]; omega)
      rw [List.flatten_cons, ← this, ← e0, List.take_append_drop]
theorem rows_all {α : Type} {X : List α} {D : α → DataW Unit} {V : α → List Value} {n k : Nat} {xs : List (DataW Unit × List MemPlace)} {cs : List Value} {T : List Value → Option (DataW Unit × List MemPlace)} (hx1 : xs.map (·.1) = X.map D) (hn : X.length = n) (hf : ∀ i, i < n → T ((cs.drop (i * k)).take k) = xs[i]?)
    (hrow : ∀ c x p, T c = some (D x, p) → c = V x) (hl : cs.length = n * k) : cs = (X.map V).flatten := by
  have hxl : xs.length = n := by have := congrArg List.length hx1; simp at this; omega
  refine chunks hl (by simpa using hn) (fun i hi => ?_)
  have h1 := hf i hi
  have h2 : i < xs.length := by omega
  have h2' : i < X.length := by omega
  rw [List.getElem?_eq_getElem h2] at h1
  have h3 : (xs[i]).1 = D (X[i]) := by
    have := congrArg (fun l => l[i]?) hx1
    simpa [h2, h2'] using this
  have h4 : xs[i] = (D (X[i]), (xs[i]).2) := by rw [← h3]
  rw [h4] at h1
  rw [hrow _ _ _ h1]
  simp [h2']
def rowD (x : Int × List UInt8 × Int × Int × Int) : DataW Unit := .agg [.lit (.int .i64 x.1), .lit (.string x.2.1), .lit (.int .i64 x.2.2.1), .lit (.int .i64 x.2.2.2.1), .lit (.int .i64 x.2.2.2.2)]
def rowV (x : Int × List UInt8 × Int × Int × Int) : List Value := [.int .i64 x.1, .string (txt x.2.1), .int .i64 x.2.2.1, .int .i64 x.2.2.2.1, .int .i64 x.2.2.2.2]
def jointX (k : Int) : Int × List UInt8 × Int × Int × Int := (k, sgnJ k, levF k, lftJ k, rgtJ k)
def jointsX : List (Int × List UInt8 × Int × Int × Int) := [jointX 6, jointX 7, jointX 21, jointX 17, jointX 18, jointX 19, jointX 20, jointX 15, jointX 16, jointX 23]
theorem fv_joints : (Rows.laid_loop_example_g00345_impl_joints : DataW Unit) = .agg (jointsX.map rowD) := by rfl
theorem fv_jc : Tryz.prog.cellsOf 116 = 5 := by kernel_rfl
theorem fv_j50 : Tryz.prog.cellsOf 117 = 50 := by kernel_rfl
theorem fv_i1 : Tryz.prog.cellsOf 2 = 1 := by kernel_rfl
theorem fv_i2 : Tryz.prog.cellsOf 3 = 1 := by kernel_rfl
theorem fv_s1 : Tryz.prog.cellsOf 9 = 1 := by kernel_rfl
theorem txt_ofF {s : ByteArray} {l : List UInt8} (h : s.data.toList = l) : s = txt l := by subst h; simp [txt]
set_option maxRecDepth 100000 in
theorem fv_row {W : World} {fuel : Nat} {cs : List Value} {x : Int × List UInt8 × Int × Int × Int} {p : List MemPlace} (h : DataW.trod (fun _ => ()) Tryz.prog W 0 (fun _ => true) false fuel 116 cs = some (rowD x, p)) : cs = rowV x := by
  obtain ⟨xs, n, _, hx, hl, hlen, hf⟩ := DataW.trod_struct Tryz.underlying116 h
  rw [fv_jc] at hl
  match cs, hl with
  | [v0, v1, v2, v3, v4], _ =>
    have f0 := hf 0 _ rfl
    have f1 := hf 1 _ rfl
    have f2 := hf 2 _ rfl
    have f3 := hf 3 _ rfl
    have f4 := hf 4 _ rfl
    match xs, hlen with
    | [y0, y1, y2, y3, y4], _ =>
      simp [fv_i1, fv_i2, fv_s1] at f0 f1 f2 f3 f4
      obtain ⟨k0, e0, g0, _⟩ := DataW.trod_int Tryz.underlying2 f0
      obtain ⟨s1, e1, g1, _⟩ := DataW.trod_string Tryz.underlying9 f1
      obtain ⟨k2, e2, g2, _⟩ := DataW.trod_int Tryz.underlying3 f2
      obtain ⟨k3, e3, g3, _⟩ := DataW.trod_int Tryz.underlying3 f3
      obtain ⟨k4, e4, g4, _⟩ := DataW.trod_int Tryz.underlying3 f4
      subst g0 g1 g2 g3 g4
      simp only [List.cons.injEq, and_true] at e0 e1 e2 e3 e4
      subst e0 e1 e2 e3 e4
      have hx1 := congrArg Prod.fst hx
      simp [rowD] at hx1
      obtain ⟨q0, q1, q2, q3, q4⟩ := hx1
      unfold rowV
      rw [q0, q1, q2, q3, q4, ← txt_ofF rfl]
theorem fv_jg : Tryz.prog.globalNamed "loop.example/g00345/impl.joints" = some 1 := by kernel_rfl
theorem fv_jgt : (Tryz.prog.globals[1]?).map (·.type) = some 117 := by kernel_rfl
theorem var_range {W : World} {name : String} {g : Nat} {cs : Array Value} (hg : Tryz.prog.globalNamed name = some g) (h : W.var? Tryz.prog name = some cs) : (∃ T z, W.heap[g]? = some (.cells cs T z)) ∧ W.rangeAt g 0 cs.toList := by
  unfold World.var? at h
  rw [hg] at h
  simp only [Option.bind_some] at h
  match hh : W.heap[g]?, h with
  | some (.cells c T z), h =>
    injection h with h
    subst h
    refine ⟨⟨T, z, rfl⟩, fun j v hv => ?_⟩
    rw [Nat.zero_add]
    exact cellAt hh (by simpa using hv)
theorem fv_jt {W : World} {l : List (String × DataW Unit)} (h : laidMet Tryz.prog l W) (hm : ("loop.example/g00345/impl.joints", Rows.laid_loop_example_g00345_impl_joints) ∈ l) : JtB W.heap.size W := by
  obtain ⟨g', t', cs, fuel, p, hg', ht', hvar, hd⟩ := Lib.laidMet.reads h hm
  obtain rfl := Option.some.inj (fv_jg.symm.trans hg')
  obtain rfl := Option.some.inj (fv_jgt.symm.trans ht')
  rw [fv_joints] at hd
  obtain ⟨xs, m, _, hx, hl, hlen, hf⟩ := DataW.trod_array Tryz.underlying117 hd
  rw [fv_j50] at hl
  have hx1 : xs.map (·.1) = jointsX.map rowD := by
    have := congrArg Prod.fst hx
    simpa using this.symm
  have hcs : cs.toList = jointC := by
    have := rows_all (n := 10) (k := 5) (V := rowV) hx1 rfl (fun i hi => by have := hf i hi; rw [fv_jc] at this; exact this) (fun c x p h => fv_row h) (by omega)
    rw [this]; rfl
  obtain ⟨⟨T, z, hh⟩, hr⟩ := var_range fv_jg hvar
  rw [hcs] at hr
  intro w' hb j v hv
  exact (below_cell hb (lt_heap hh)).trans (hr j v hv)
def wrowD (x : Int × List UInt8) : DataW Unit := .agg [.lit (.int .i64 x.1), .lit (.string x.2)]
def wrowV (x : Int × List UInt8) : List Value := [.int .i64 x.1, .string (txt x.2)]
def wordsX : List (Int × List UInt8) := [(11, [108, 101, 110, 103, 116, 104]), (12, [107, 101, 121, 115]), (13, [110, 111, 116]), (14, [101, 109, 112, 116, 121])]
theorem fv_words : (Rows.laid_loop_example_g00345_impl_words : DataW Unit) = .agg (wordsX.map wrowD) := by rfl
theorem fv_wc : Tryz.prog.cellsOf 218 = 2 := by kernel_rfl
theorem fv_w8 : Tryz.prog.cellsOf 219 = 8 := by kernel_rfl
set_option maxRecDepth 100000 in
theorem fv_wrow {W : World} {fuel : Nat} {cs : List Value} {x : Int × List UInt8} {p : List MemPlace} (h : DataW.trod (fun _ => ()) Tryz.prog W 0 (fun _ => true) false fuel 218 cs = some (wrowD x, p)) : cs = wrowV x := by
  obtain ⟨xs, n, _, hx, hl, hlen, hf⟩ := DataW.trod_struct Tryz.underlying218 h
  rw [fv_wc] at hl
  match cs, hl with
  | [v0, v1], _ =>
    have f0 := hf 0 _ rfl
    have f1 := hf 1 _ rfl
    match xs, hlen with
    | [y0, y1], _ =>
      simp [fv_i1, fv_i2, fv_s1] at f0 f1
      obtain ⟨k0, e0, g0, _⟩ := DataW.trod_int Tryz.underlying2 f0
      obtain ⟨s1, e1, g1, _⟩ := DataW.trod_string Tryz.underlying9 f1
      subst g0 g1
      simp only [List.cons.injEq, and_true] at e0 e1
      subst e0 e1
      have hx1 := congrArg Prod.fst hx
      simp [wrowD] at hx1
      obtain ⟨q0, q1⟩ := hx1
      unfold wrowV
      rw [q0, q1, ← txt_ofF rfl]
theorem fv_wg : Tryz.prog.globalNamed "loop.example/g00345/impl.words" = some 7 := by kernel_rfl
theorem fv_wgt : (Tryz.prog.globals[7]?).map (·.type) = some 219 := by kernel_rfl
theorem w_undv : Tryz.prog.underlying 219 = some (.array 4 218) := by kernel_rfl
theorem fv_wd {W : World} {l : List (String × DataW Unit)} (h : laidMet Tryz.prog l W) (hm : ("loop.example/g00345/impl.words", Rows.laid_loop_example_g00345_impl_words) ∈ l) : WdB W.heap.size W := by
  obtain ⟨g', t', cs, fuel, p, hg', ht', hvar, hd⟩ := Lib.laidMet.reads h hm
  obtain rfl := Option.some.inj (fv_wg.symm.trans hg')
  obtain rfl := Option.some.inj (fv_wgt.symm.trans ht')
  rw [fv_words] at hd
  obtain ⟨xs, m, _, hx, hl, hlen, hf⟩ := DataW.trod_array w_undv hd
  rw [fv_w8] at hl
  have hx1 : xs.map (·.1) = wordsX.map wrowD := by
    have := congrArg Prod.fst hx
    simpa using this.symm
  have hcs : cs.toList = wordC := by
    have := rows_all (n := 4) (k := 2) (V := wrowV) hx1 rfl (fun i hi => by have := hf i hi; rw [fv_wc] at this; exact this) (fun c x p h => fv_wrow h) (by omega)
    rw [this]; rfl
  obtain ⟨⟨T, z, hh⟩, hr⟩ := var_range fv_wg hvar
  rw [hcs] at hr
  intro w' hb j v hv
  exact (below_cell hb (lt_heap hh)).trans (hr j v hv)
end Go.Proofs.YtcidjhnogldgmaaGreatDoor
