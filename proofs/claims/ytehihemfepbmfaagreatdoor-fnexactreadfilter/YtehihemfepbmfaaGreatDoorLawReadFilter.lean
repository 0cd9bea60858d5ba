/-
  The program's ReadFilter.
-/
import Derived.Test.YtehihemfepbmfaaGreatDoorFrRd
import Derived.Test.YtehihemfepbmfaaGreatDoorFrSi
import Derived.Test.YtehihemfepbmfaaGreatDoorFrFt
import Derived.Test.YtehihemfepbmfaaGreatDoorGupN
import Derived.Test.YtehihemfepbmfaaGreatDoorFSpc1
import Derived.Test.YtehihemfepbmfaaGreatDoorSgV
import Derived.Test.YtehihemfepbmfaaGreatDoorFSpc3
import Derived.Test.YtehihemfepbmfaaGreatDoorMkG
import Derived.Test.YtehihemfepbmfaaGreatDoorFEq
namespace Go.Proofs.YtehihemfepbmfaaGreatDoor
open Go.RowKit
set_option linter.unusedSimpArgs false
set_option linter.unusedVariables false

theorem FNest.nodes {base : Nat} {w : World} {v : Value} {fs : List FN} {C N I : Nat → Value} (h : FNest base w v fs C N I) (hn : fs.length ≤ 1048576) (hf : AllF fs) : FNodesAt w.heap.size w v fs := by
  have fit : ∀ i, i < fs.length → FitF (fnAt fs i) := fun i hi => hf _ (by unfold fnAt; rw [List.getD_eq_getElem?_getD, List.getElem?_eq_getElem hi]; exact List.getElem_mem hi)
  refine ⟨hn, ?_⟩
  rcases Nat.eq_zero_or_pos fs.length with e | e
  · rcases h.row.2 with ⟨rfl, _⟩ | ⟨g, cap, cur, rfl, _⟩
    · exact ⟨none, 0, by rw [e], fun hp => by omega⟩
    · exact ⟨_, cap, rfl, fun hp => by omega⟩
  · obtain ⟨g, cap, rfl, _, hlt⟩ := h.row.form e
    refine ⟨_, cap, rfl, fun _ => ⟨g, 0, rfl, hlt, fun i hi => ⟨C i, N i, I i, ?_⟩⟩⟩
    have f := fit i hi
    have q : ∀ k, k < 6 → (i * 6 + k) % 6 = k ∧ (i * 6 + k) / 6 = i := fun k hk => by omega
    have q0 := q 0 (by omega)
    rw [Nat.add_zero] at q0
    rw [Nat.zero_add]
    have hcst : NodesAt w.heap.size w (C i) (fnAt fs i).cst := (h.rc i hi).nodes (by have := f.cst.1; omega) (fun j hj => by
      have hm : nodeAt (fnAt fs i).cst j ∈ (fnAt fs i).cst := by unfold nodeAt; rw [List.getD_eq_getElem?_getD, List.getElem?_eq_getElem hj]; exact List.getElem_mem hj
      obtain ⟨a1, a2, a3, a4, a5, a6, a7⟩ := f.cst.2 _ hm
      exact ⟨by rw [a1]; simp, fun x hx => by rw [a1] at hx; simp at hx, by rw [a2]; simp, fun x hx => by rw [a2] at hx; simp at hx, by omega, by omega, by omega, a6, a7⟩)
    have hstr : StrsAt w.heap.size w (N i) (fnAt fs i).names := own_strs (h.rn i hi) (by have := f.names.1; omega) (fun j hj => by
      have hm : keyAt (fnAt fs i).names j ∈ (fnAt fs i).names := by unfold keyAt; rw [List.getD_eq_getElem?_getD, List.getElem?_eq_getElem hj]; exact List.getElem_mem hj
      have := f.names.2 _ hm; omega)
    have hint : IntsAt w.heap.size w (I i) (fnAt fs i).kids := own_ints (h.ri i hi) (by have := f.kids.1; omega) (fun j hj => by
      have hm : intAt (fnAt fs i).kids j ∈ (fnAt fs i).kids := by unfold intAt; rw [List.getD_eq_getElem?_getD, List.getElem?_eq_getElem hj]; exact List.getElem_mem hj
      have := f.kids.2 _ hm; omega)
    refine ⟨?_, ?_, ?_, ?_, ?_, ?_, ⟨hcst, hstr, hint, by have := f.name; omega, by have := f.kind; omega, by have := f.kind; omega, f.place.1, f.place.2⟩⟩
    · rw [h.row.cellAt _ (by omega), fCells_get _ _ _ _ (by omega), fCell, q0.1, q0.2]; rfl
    · rw [h.row.cellAt _ (by omega), fCells_get _ _ _ _ (by omega), fCell, (q 1 (by omega)).1, (q 1 (by omega)).2]; rfl
    · rw [h.row.cellAt _ (by omega), fCells_get _ _ _ _ (by omega), fCell, (q 2 (by omega)).1, (q 2 (by omega)).2]; rfl
    · rw [h.row.cellAt _ (by omega), fCells_get _ _ _ _ (by omega), fCell, (q 3 (by omega)).1, (q 3 (by omega)).2]; rfl
    · rw [h.row.cellAt _ (by omega), fCells_get _ _ _ _ (by omega), fCell, (q 4 (by omega)).1, (q 4 (by omega)).2]; rfl
    · rw [h.row.cellAt _ (by omega), fCells_get _ _ _ _ (by omega), fCell, (q 5 (by omega)).1, (q 5 (by omega)).2]; rfl

/-- All that the text says, be it right or not. -/
def rdA (L : List UInt8) : Option (List FN) := match readP WPr L (L.length + 1) 1 [] (skF L 0) with
  | none => none
  | some (_, fs, q) => if q = L.length then some fs else none
set_option maxRecDepth 100000 in
set_option maxHeartbeats 3200000 in
theorem readAll_any {rb mb base : Nat} {Z : Nat → Prop} {s : ByteArray} {w : World} (h : FrAt w rb mb base Z s 0 []) (hZ : ∀ x, Z x → x < w.heap.size) (hs : s.size ≤ 1000) :
    Calls Tryz.prog 36 #[.pointer (some ⟨rb, 0, none⟩)] w fun e w' => ButF rb base w w' ∧ ((∃ v fs, rdA s.data.toList = some fs ∧ e = .returned v ∧ FRow base Z w' v fs ∧ AllF fs ∧ fs.length ≤ 1000) ∨ (rdA s.data.toList = none ∧ e = gup)) := by
  have HLN := hideB (len_is s)
  have HSK := hideB (fSkip_any h (by omega))
  have HZ : Hid (∀ x, Z x → x < w.heap.size) := hZ
  clear h hZ
  go_enter Tryz.func36, Tryz.ntmps36
  go_wp2_with fail
  refine HSK.out.mono ?_
  rintro e w1 ⟨rfl, h1, b1⟩
  have HB1 := hideB b1
  have HRD := hideB (readF_all (rb := rb) (mb := mb) (base := base) hs (goodP s.data.toList) (s.size + 1) 1 Z [] _ w1 (by decide) (by decide) (fun x hx => Nat.lt_of_lt_of_le (HZ.out x hx) b1.size) h1 (by simp) (by omega))
  clear h1 b1
  go_wp2_with fail
  refine HRD.out.mono ?_
  rintro e w2 ⟨b2, ⟨n, fs, q, hr, rfl, h2⟩ | ⟨hr, rfl⟩⟩
  rotate_left
  · have HB2 := hideB (HB1.out.trans b2)
    have HR2 := hideB hr
    clear b2 hr
    unfold gup
    go_wp2_with fail
    exact ⟨rfl, HB2.out, .inr ⟨by unfold rdA; rw [HLN.out, HR2.out], rfl⟩⟩
  have HB2 := hideB (HB1.out.trans b2)
  have HR2 := hideB hr
  have hsk0 : skF s.data.toList 0 ≤ s.data.toList.length := skF_le (by omega)
  have wt := readP_goes (goodP s.data.toList) _ _ _ _ _ _ _ hsk0 hr
  have HALL := hideB (fit_readP (goodP s.data.toList) (wfitP s.data.toList) (by rw [HLN.out]; omega) _ _ _ _ allF_nil (by simp) hsk0 _ _ _ hr)
  have hcn := wt.cnt
  have hle := wt.le
  rw [HLN.out] at hle
  have hfl : fs.length ≤ 1000 := by simp at hcn; omega
  obtain ⟨c0, c1, f1, lt0⟩ := h2.cells
  obtain ⟨v, hsf, hrow⟩ := h2.ex
  have c4 : w2.cell? ⟨rb, 4, none⟩ = some v := hsf.bl 4 (by decide)
  have HROW := hideB hrow
  have HSF := hideB hsf
  obtain ⟨av, cv, ev⟩ := hrow.slice
  obtain ⟨lv, hlv⟩ : ∃ l, fs.length = l := ⟨_, rfl⟩
  rw [hlv] at ev
  subst ev
  clear b2 hr wt h2 hsf hrow hlv hsk0
  by_cases hq : q < s.size
  · have hq' : (q : Int) < (s.size : Int) := by omega
    have hqd : decide ((q : Int) < (s.size : Int)) = true := by simpa using hq'
    have HN : Hid (rdA s.data.toList = none) := by rw [Hid]; unfold rdA; rw [HLN.out, HR2.out]; simp only; rw [if_neg (by omega)]
    go_wp2_with fail
    go_quiet (fail)
    have HD := hideB (below_drewB (w := w2) nq)
    generalize w2.drewN nq = W3 at HD ⊢
    go_wp2_with fail
    exact ⟨rfl, HB2.out.trans (ButF.of_below HD.out), .inr ⟨HN.out, rfl⟩⟩
  · have hq' : ¬ (q : Int) < (s.size : Int) := by omega
    have hqd : decide ((q : Int) < (s.size : Int)) = false := by simpa using hq'
    have HN : Hid (rdA s.data.toList = some fs) := by rw [Hid]; unfold rdA; rw [HLN.out, HR2.out]; simp only; rw [if_pos (by omega)]
    go_wp2_with fail
    go_quiet (fail)
    have HD := hideB (below_drewB (w := w2) nq)
    have HROW3 := hideB (HROW.out.below HD.out)
    have HSF3 := hideB (HSF.out.below HD.out)
    have c43 := HSF3.out.bl 4 (by decide)
    generalize w2.drewN nq = W3 at HD HROW3 HSF3 c43 ⊢
    have c44 : W3.cell? ⟨rb, 4, none⟩ = some (.slice av lv cv) := c43
    clear c43 c0 c1 f1 c4
    go_wp2_with fail
    go_ret
    exact ⟨HB2.out.trans (ButF.of_below HD.out), .inl ⟨_, fs, HN.out, rfl, HROW3.out, HALL.out, by omega⟩⟩
end Go.Proofs.YtehihemfepbmfaaGreatDoor

/-
  The program's ReadFilter: all of it.
-/
namespace Go.Proofs.YtehihemfepbmfaaGreatDoor
open Go.RowKit
set_option linter.unusedSimpArgs false
set_option linter.unusedVariables false

/-- What ReadFilter answers. -/
def fltF (L : List UInt8) : Option (List FN) := if 1000 < L.length then none else match rdA L with
  | none => none
  | some fs => if okF fs = true then some fs else none
/-- The tables that ReadFilter looks into. -/
structure TabsR (B : Nat) (w : World) : Prop where
  tb : Tabs B w
  jt : JtB B w
  sp : SpB B w
theorem TabsR.next {B : Nat} {w w' : World} (h : TabsR B w) (hb : Below B w w') : TabsR B w' := ⟨h.tb.next hb, h.jt.next hb, h.sp.next hb⟩
theorem TabsR.wide {B C : Nat} {w : World} (h : TabsR B w) (hBC : B ≤ C) : TabsR C w := ⟨h.tb.wide hBC, fun w2 h2 => h.jt w2 (h2.mono hBC), fun w2 h2 => h.sp w2 (h2.mono hBC)⟩
/-- A filter in new memory, or none. -/
def RdFlt (L : List UInt8) (w : World) (e : Ending) (w' : World) : Prop := Below w.heap.size w w' ∧ ((∃ v fs, fltF L = some fs ∧ e = .returned (.tuple #[v, .bool true]) ∧ FRow w.heap.size (fun _ => False) w' v fs ∧ AllF fs) ∨ (fltF L = none ∧ e = .returned (.tuple #[.slice none 0 0, .bool false])))

set_option maxRecDepth 100000 in
set_option maxHeartbeats 1600000 in
theorem fSign_any (s b : ByteArray) (w : World) : Calls Tryz.prog 33 #[.string s, .string b] w fun e w' => e = .returned (.agg #[.string s, .int .i64 0, .string b]) ∧ Below w.heap.size w w' := by
  go_enter Tryz.func33, Tryz.ntmps33
  go_wp2_with fail
  refine bodyPost_ret (v := .agg #[.string s, .int .i64 0, .string b]) (by simp [results, Tryz.results33, go_sem]) rfl ?_
  exact ⟨rfl, (Below.refl _ _).alloc (Nat.le_refl _) _⟩
theorem call_all (x : Value) : ∀ w, (callFunc 36 #[x]).run Tryz.prog w = .ok (.enter 36 #[x]) w := fun w => by kernel_rfl
theorem frow_set {base b0 : Nat} {Z : Nat → Prop} {w : World} {v : Value} {fs : List FN} {cs : Array Value} {T : TypeId} {z : Nat × Nat} (h : FRow base Z w v fs) (hx : w.heap[b0]? = some (.cells cs T z)) (hT : 51 ≠ T) (hZ : Z b0) (o : Nat) (u : Value) : FRow base Z (w.setCell ⟨b0, o, none⟩ u) v fs := by
  obtain ⟨C, N, I, hN, hS⟩ := h
  refine ⟨C, N, I, hN.keep (fun x hx' => Below.heap_setCell _ _ _ _ (fun e => ?_)) (fun x hx' => Below.heap_setCell _ _ _ _ (fun e => ?_)), hS⟩
  · have e' : x = b0 := e
    rw [e'] at hx'
    rcases hN.row.2 with ⟨e2, _⟩ | ⟨g, cap, cur, e2, _, hg, _⟩
    · rw [e2] at hx'; cases hx'
    · rw [e2] at hx'
      have eg : g = b0 := by simpa [Value.ownBlock] using hx'
      rw [eg, hx] at hg
      simp at hg
      exact hT hg.2.1.symm
  · have e' : x = b0 := e
    rw [e'] at hx'
    exact hS b0 hx' hZ
theorem frow_base {base base' : Nat} {Z Z' : Nat → Prop} {w : World} {v : Value} {fs : List FN} (h : FRow base Z w v fs) (hb : base' ≤ base) (hz : ∀ x, Z' x → Z x) : FRow base' Z' w v fs := by
  obtain ⟨C, N, I, hN, hS⟩ := h
  exact ⟨C, N, I, ⟨ownB hN.row hb, fun i hi => nestB (hN.rc i hi) hb, fun i hi => ownB (hN.rn i hi) hb, fun i hi => ownB (hN.ri i hi) hb, hN.dc, hN.dn, hN.di⟩, fun x hx hz' => hS x hx (hz x hz')⟩

set_option maxRecDepth 100000 in
set_option maxHeartbeats 6400000 in
theorem implReadFilter_any {s : ByteArray} {w : World} (ht : TabsR w.heap.size w) (hs : s.size ≤ 1048576) :
    Calls Tryz.prog 13 #[.string s] w (RdFlt s.data.toList w) := by
  have HLN := hideB (len_is s)
  have HT := hideB ht
  clear ht
  by_cases hbig : 1000 < s.size
  · have hbig' : (1000 : Int) < (s.size : Int) := by omega
    have HN : Hid (fltF s.data.toList = none) := by rw [Hid]; unfold fltF; rw [if_pos (by rw [HLN.out]; exact hbig)]
    go_enter Tryz.func13, Tryz.ntmps13
    go_wp2_with fail
    go_returns
    exact ⟨Below.refl _ _, .inr ⟨HN.out, rfl⟩⟩
  have hbig' : ¬ (1000 : Int) < (s.size : Int) := by omega
  have HFL : Hid (fltF s.data.toList = match rdA s.data.toList with | none => none | some fs => if okF fs = true then some fs else none) := by rw [Hid]; unfold fltF; rw [if_neg (by rw [HLN.out]; exact hbig)]
  have HNS := hideB (fSign_any s ⟨#[10, 32]⟩ w)
  go_enter Tryz.func13, Tryz.ntmps13
  go_wp2_with fail
  refine HNS.out.mono ?_
  rintro e w1 ⟨rfl, b1⟩
  have HB1 := hideB b1
  have z1 := b1.size
  have HJS := hideB (jointSigns_any w1 (((HT.out.next b1).wide b1.size).jt) (((HT.out.next b1).wide b1.size).sp))
  clear b1
  go_wp2_with fail
  refine HJS.out.mono ?_
  rintro e w2 ⟨rfl, hmp, b2⟩
  have HB2 := hideB (HB1.out.trans (b2.mono z1))
  have HMP := hideB hmp
  have z2 := b2.size
  have hmlt : w1.heap.size < w2.heap.size := ltHF hmp
  obtain ⟨W3, hW3⟩ : ∃ W3, w2.alloc (.cells #[.string s, .int .i64 0, .string ⟨#[10, 32]⟩, .map (some w1.heap.size), .slice none 0 0] 65) = W3 := ⟨_, rfl⟩
  have hb3 : Below w2.heap.size w2 W3 := by rw [← hW3]; exact (Below.refl _ _).alloc (Nat.le_refl _) _
  have hx3 : W3.heap[w2.heap.size]? = some (.cells #[.string s, .int .i64 0, .string ⟨#[10, 32]⟩, .map (some w1.heap.size), .slice none 0 0] 65 (0, 0)) := by rw [← hW3]; exact heap_alloc_new w2 _
  have hz3 : W3.heap.size = w2.heap.size + 1 := by rw [← hW3]; simp
  have HF3 : Hid (FrAt W3 w2.heap.size w1.heap.size (w2.heap.size + 1) (fun x => x = W3.heap.size) s 0 []) := by
    refine ⟨⟨(hb3.block _ hmlt).trans hmp, ((HT.out.next HB2.out).tb.next (hb3.mono (by omega))).wide (by omega), by omega, by omega, by omega, by omega⟩, .slice none 0 0, ⟨⟨by omega, cellAt hx3 rfl, cellAt hx3 rfl, Lib.frozen_of_heap hx3 1, Nat.zero_le _⟩, fun j hj => ?_, fun j => Lib.frozen_of_heap hx3 j⟩, FRow.nil _ _ _⟩
    match j, hj with
    | 0, _ => exact cellAt hx3 rfl
    | 2, _ => exact cellAt hx3 rfl
    | 3, _ => exact cellAt hx3 rfl
    | 4, _ => exact cellAt hx3 rfl
    | (k + 5), _ => rw [Lib.cell_of_heap hx3]; rfl
  have HB3 := hideB (HB2.out.trans (hb3.mono (by omega)))
  have HZ3 := hideB hz3
  have HW3 := hideB hW3
  obtain ⟨WA, hWA⟩ : ∃ WA, W3.alloc (.cells #[.bool false] 4) = WA := ⟨_, rfl⟩
  have hbA : Below W3.heap.size W3 WA := by rw [← hWA]; exact (Below.refl _ _).alloc (Nat.le_refl _) _
  have hxA : WA.heap[W3.heap.size]? = some (.cells #[.bool false] 4 (0, 0)) := by rw [← hWA]; exact heap_alloc_new W3 _
  have hzA : WA.heap.size = W3.heap.size + 1 := by rw [← hWA]; simp
  have HXA := hideB hxA
  have HBA := hideB hbA
  have HRA := hideB (readAll_any (HF3.out.below hbA) (fun x hx => by omega) (by omega))
  have HKEEP : Hid (∀ w', ButF w2.heap.size (w2.heap.size + 1) WA w' → w'.heap[W3.heap.size]? = some (.cells #[.bool false] 4 (0, 0))) := fun w' hb' => hb'.box HXA.out (by decide) (by omega)
  rw [← hWA] at HRA
  have HWA := hideB hWA
  clear hmp b2 hb3 hx3 hz3 hW3 hbA hxA hWA
  cases hrd : rdA s.data.toList with
  | none =>
    have HN : Hid (fltF s.data.toList = none) := by rw [Hid, HFL.out, hrd]
    have HU := hideB (unlessN_no 36 (.pointer (some ⟨w2.heap.size, 0, none⟩)) W3 (fun w' => ButF w2.heap.size (w2.heap.size + 1) WA w') (call_all _) (HRA.out.mono (fun e w' h => by
      obtain ⟨h1, ⟨v, fs, h2, _⟩ | ⟨_, h3⟩⟩ := h
      · rw [hrd] at h2; cases h2
      · exact ⟨h3, by rw [HWA.out] at h1; exact h1⟩)) (fun w' hw' => ⟨cellAt (HKEEP.out w' hw') rfl, Lib.frozen_of_heap (HKEEP.out w' hw') 0⟩))
    clear hrd
    go_upto_region 4 with fail
    rw [HW3.out]
    go_wp2_with fail
    refine HU.out.mono ?_
    rintro e w5 ⟨rfl, w4, hb4, rfl⟩
    have HB5 : Hid (Below w.heap.size w (w4.setCell ⟨W3.heap.size, 0, none⟩ (.bool false))) := by
      have h1 : Below w.heap.size WA w4 := (hb4.below (by have := HZ3.out; omega)).mono (by omega)
      exact ((HB3.out.trans (HBA.out.mono (by have := HZ3.out; omega))).trans h1).setCell (p := ⟨W3.heap.size, 0, none⟩) (by show w.heap.size ≤ W3.heap.size; have := HZ3.out; omega) _
    clear hb4
    go_wp2_with fail
    go_returns
    exact ⟨HB5.out, .inr ⟨HN.out, rfl⟩⟩
  | some fs =>
    have HU := hideB (unlessN_yes 36 (.pointer (some ⟨w2.heap.size, 0, none⟩)) W3 (fun v w' => ButF w2.heap.size (w2.heap.size + 1) WA w' ∧ FRow (w2.heap.size + 1) (fun x => x = W3.heap.size) w' v fs ∧ AllF fs ∧ fs.length ≤ 1000) (call_all _) (HRA.out.mono (fun e w' h => by
      obtain ⟨h1, ⟨v, fs', h2, h3, h4, h5, h6⟩ | ⟨h2, _⟩⟩ := h
      · rw [hrd] at h2
        simp only [Option.some.injEq] at h2
        subst h2
        exact ⟨v, h3, by rw [HWA.out] at h1; exact h1, h4, h5, h6⟩
      · rw [hrd] at h2; cases h2)) (fun v w' hw' => ⟨cellAt (HKEEP.out w' hw'.1) rfl, Lib.frozen_of_heap (HKEEP.out w' hw'.1) 0⟩))
    have HRD := hideB hrd
    clear hrd
    go_upto_region 4 with fail
    rw [HW3.out]
    go_wp2_with fail
    refine HU.out.mono ?_
    rintro e w5 ⟨v, rfl, w4, ⟨hb4, hrow, hall, hlen⟩, rfl⟩
    have hrow5 := frow_set hrow (HKEEP.out w4 hb4) (by decide) rfl 0 (.bool true)
    have HB5 : Hid (Below w.heap.size w (w4.setCell ⟨W3.heap.size, 0, none⟩ (.bool true))) := by
      have h1 : Below w.heap.size WA w4 := (hb4.below (by have := HZ3.out; omega)).mono (by omega)
      exact ((HB3.out.trans (HBA.out.mono (by have := HZ3.out; omega))).trans h1).setCell (p := ⟨W3.heap.size, 0, none⟩) (by show w.heap.size ≤ W3.heap.size; have := HZ3.out; omega) _
    obtain ⟨av, cv, ev⟩ := hrow5.slice
    obtain ⟨lv, hlv⟩ : ∃ l, fs.length = l := ⟨_, rfl⟩
    rw [hlv] at ev
    subst ev
    obtain ⟨W5, hW5⟩ : ∃ W5, w4.setCell ⟨W3.heap.size, 0, none⟩ (.bool true) = W5 := ⟨_, rfl⟩
    rw [hW5] at hrow5 HB5 ⊢
    have HROW5 := hideB hrow5
    have hnodes : FNodesAt W5.heap.size W5 (.slice av lv cv) fs := by
      obtain ⟨C, N, I, hN, _⟩ := hrow5
      exact hN.nodes (by omega) hall
    have HOK := hideB (implFilterOk_any W5.heap.size _ fs W5 hnodes (Nat.le_refl _))
    have HALL := hideB hall
    clear hb4 hrow hall hlen hrow5 hnodes hW5 hlv
    cases hok : okF fs
    · have HN : Hid (fltF s.data.toList = none) := by rw [Hid, HFL.out, HRD.out]; simp only; rw [if_neg (by rw [hok]; simp)]
      rw [hok] at HOK
      clear hok
      go_wp2_with fail
      refine HOK.out.mono ?_
      rintro e w6 ⟨rfl, b6⟩
      have HB6 := hideB (HB5.out.trans (b6.mono HB5.out.size))
      clear b6
      go_wp2_with fail
      go_returns
      exact ⟨HB6.out, .inr ⟨HN.out, rfl⟩⟩
    · have HN : Hid (fltF s.data.toList = some fs) := by rw [Hid, HFL.out, HRD.out]; simp only; rw [if_pos hok]
      rw [hok] at HOK
      clear hok
      go_wp2_with fail
      refine HOK.out.mono ?_
      rintro e w6 ⟨rfl, b6⟩
      have HB6 := hideB (HB5.out.trans (b6.mono HB5.out.size))
      have HROW6 := hideB (HROW5.out.below b6)
      clear b6
      go_wp2_with fail
      go_returns
      exact ⟨HB6.out, .inl ⟨_, fs, HN.out, rfl, frow_base HROW6.out (by omega) (fun x hx => hx.elim), HALL.out⟩⟩
end Go.Proofs.YtehihemfepbmfaaGreatDoor

/-
  The specification's ReadFilter: all of it.
-/
namespace Go.Proofs.YtehihemfepbmfaaGreatDoor
open Go.RowKit
set_option linter.unusedSimpArgs false
set_option linter.unusedVariables false

/-- What the specification reads. -/
theorem fltF_S {L : List UInt8} (h : L.length ≤ 1000) : fltF L = match readS WSp L (L.length + 1) 1 [] (skF L 0) with
    | none => none
    | some (_, fs, q) => if q = L.length ∧ okF fs = true then some fs else none := by
  have h1 := same_filter (wrel L) (goodS L) (L.length + 1)
  have h2 : fltF L = allF (readP WPr L (L.length + 1)) L := by
    unfold fltF rdA allF
    rw [if_neg (by omega)]
    cases readP WPr L (L.length + 1) 1 [] (skF L 0) with
    | none => rfl
    | some x =>
      obtain ⟨n, fs, q⟩ := x
      simp only
      by_cases e : q = L.length
      · rw [if_pos e]
        simp only [e, true_and]
      · rw [if_neg e, if_neg (fun e2 => e e2.1)]
  rw [h2, h1]
  rfl

set_option maxRecDepth 100000 in
set_option maxHeartbeats 6400000 in
theorem specReadFilter_any {s : ByteArray} {w : World} (hs : s.size ≤ 1048576) :
    Calls Tryz.prog 16 #[.string s] w (RdFlt s.data.toList w) := by
  have HLN := hideB (len_is s)
  by_cases hbig : 1000 < s.size
  · have hbig' : (1000 : Int) < (s.size : Int) := by omega
    have HN : Hid (fltF s.data.toList = none) := by rw [Hid]; unfold fltF; rw [if_pos (by rw [HLN.out]; exact hbig)]
    go_enter Tryz.func16, Tryz.ntmps16
    go_wp2_with fail
    go_returns
    exact ⟨Below.refl _ _, .inr ⟨HN.out, rfl⟩⟩
  have hbig' : ¬ (1000 : Int) < (s.size : Int) := by omega
  have HFL := hideB (fltF_S (L := s.data.toList) (by rw [HLN.out]; omega))
  obtain ⟨rb, hrb⟩ : ∃ rb, w.heap.size = rb := ⟨_, rfl⟩
  obtain ⟨W1, hW1⟩ : ∃ W1, w.alloc (.cells #[.string s, .int .i64 0, .bool false, .slice none 0 0] 77) = W1 := ⟨_, rfl⟩
  have hb1 : Below w.heap.size w W1 := by rw [← hW1]; exact (Below.refl _ _).alloc (Nat.le_refl _) _
  have hx1 : W1.heap[rb]? = some (.cells #[.string s, .int .i64 0, .bool false, .slice none 0 0] 77 (0, 0)) := by rw [← hW1, ← hrb]; exact heap_alloc_new w _
  have hz1 : W1.heap.size = rb + 1 := by rw [← hW1, ← hrb]; simp
  have HF1 : Hid (LfAt W1 rb (rb + 1) (fun _ => False) s 0 false []) := ⟨⟨_, hx1, FRow.nil _ _ _, fun x hx => by cases hx⟩, Nat.zero_le _, by omega, by omega, fun x hx => hx.elim⟩
  have HLV := hideB (lfLevel_any (rb := rb) (base := rb + 1) (s := s) (by omega) (s.size + 1) 1 (fun _ => False) [] 0 W1 (by decide) (by decide) (fun x hx => hx.elim) HF1.out (by simp) (by omega))
  have HW1 := hideIt hW1
  have HZ1 := hideIt hz1
  have HB1 := hideIt hb1
  have HRB := hideIt hrb
  clear hW1 hb1 hx1 hz1
  go_enter Tryz.func16, Tryz.ntmps16
  go_wp2_with fail
  rw [HW1.out]
  (try rw [HRB.out])
  refine HLV.out.mono ?_
  rintro e w2 ⟨b2, n2, fs, p2, rfl, hp2, hc2⟩
  have HB2 := hideIt b2
  have HFIN : Hid (∀ w', LB rb (rb + 1) (fun _ => False) W1 w' → Below w.heap.size w w') := fun w' h => by
    have h1 := h.below (by have := HZ1.out; omega)
    rw [show min rb (rb + 1) = rb by omega] at h1
    have h2 := HB1.out
    rw [HRB.out] at h2 ⊢
    exact h2.trans h1
  clear b2 HLV
  rcases hc2 with ⟨hr, ha, hl⟩ | ⟨hr, hl, ha⟩
  rotate_left
  · have HN : Hid (fltF s.data.toList = none) := by rw [Hid, HFL.out, HLN.out, hr]
    have HBK := hideIt (lfBlanks_any ha (by omega))
    clear hr ha hl
    go_wp2_with fail
    refine HBK.out.mono ?_
    rintro e w3 ⟨rfl, h3, b3⟩
    obtain ⟨c0, c1, c2⟩ := h3.cells
    have HB3 := hideIt (HB2.out.trans b3)
    clear h3 b3
    go_wp2_with fail
    go_returns
    exact ⟨HFIN.out _ HB3.out, .inr ⟨HN.out, rfl⟩⟩
  have HSK0 := hideIt (skF_le (L := s.data.toList) (p := 0) (by omega))
  have HALL := hideIt (fit_readS (goodS s.data.toList) (wfitS s.data.toList) (by rw [HLN.out]; omega) _ _ _ _ allF_nil (by simp) HSK0.out _ _ _ hr)
  have HR := hideIt hr
  have HBK := hideIt (lfBlanks_any ha (by omega))
  clear hr ha
  go_wp2_with fail
  refine HBK.out.mono ?_
  rintro e w3 ⟨rfl, h3, b3⟩
  obtain ⟨q, hq⟩ : ∃ q, skF s.data.toList p2 = q := ⟨_, rfl⟩
  rw [hq] at h3 HR
  obtain ⟨c0, c1, c2⟩ := h3.cells
  have HB3 := hideIt (HB2.out.trans b3)
  have HF3 := hideIt h3
  clear b3 hq
  by_cases hqs : q = s.size
  rotate_left
  · have hqs' : ¬ (q : Int) = (s.size : Int) := by omega
    have dq : ((q : Int) != (s.size : Int)) = true := by simpa using hqs'
    have HN : Hid (fltF s.data.toList = none) := by rw [Hid, HFL.out, HLN.out, HR.out]; simp only; rw [if_neg (fun e => hqs e.1)]
    clear h3
    go_wp2_with fail
    go_returns
    exact ⟨HFIN.out _ HB3.out, .inr ⟨HN.out, rfl⟩⟩
  have dq : ((q : Int) != (s.size : Int)) = false := by simp; omega
  have hqs' : (q : Int) = (s.size : Int) := by omega
  obtain ⟨v, hblk, hrow, _⟩ := h3.blk
  obtain ⟨av, cv, ev⟩ := hrow.slice
  obtain ⟨L, hL⟩ : ∃ L, fs.length = L := ⟨_, rfl⟩
  rw [hL] at ev hl
  subst ev
  have c3 : w3.cell? ⟨rb, 3, none⟩ = some (.slice av L cv) := cellAt hblk rfl
  have hnodes : FNodesAt w3.heap.size w3 (.slice av L cv) fs := by
    obtain ⟨C, N, I, hN, _⟩ := hrow
    exact hN.nodes (by omega) HALL.out
  have HOK := hideIt (specFilterOk_any w3.heap.size _ fs w3 hnodes (Nat.le_refl _))
  have HROW := hideIt hrow
  have HBLK := hideIt hblk
  have HRS : Hid (fltF s.data.toList = if okF fs = true then some fs else none) := by
    rw [Hid, HFL.out, HLN.out, HR.out]; simp only
    by_cases e : okF fs = true
    · rw [if_pos e, if_pos ⟨hqs, e⟩]
    · rw [if_neg e, if_neg (fun e2 => e e2.2)]
  clear h3 hnodes hrow hblk hL hqs
  cases hok : okF fs
  · have HN : Hid (fltF s.data.toList = none) := by rw [Hid, HRS.out, if_neg (by rw [hok]; simp)]
    rw [hok] at HOK
    clear hok
    go_wp2_with fail
    refine HOK.out.mono ?_
    rintro e w6 ⟨rfl, b6⟩
    have HB6 := hideIt (HB3.out.trans (LB.of_below b6))
    clear b6
    go_wp2_with fail
    go_returns
    exact ⟨HFIN.out _ HB6.out, .inr ⟨HN.out, rfl⟩⟩
  · have HN : Hid (fltF s.data.toList = some fs) := by rw [Hid, HRS.out, if_pos hok]
    rw [hok] at HOK
    clear hok
    go_wp2_with fail
    refine HOK.out.mono ?_
    rintro e w6 ⟨rfl, b6⟩
    have HB6 := hideIt (HB3.out.trans (LB.of_below b6))
    have HROW6 := hideIt (HROW.out.below b6)
    have hb6 : w6.heap[rb]? = some (.cells #[.string s, .int .i64 (q : Int), .bool false, .slice av L cv] 77 (0, 0)) := (b6.block rb (ltH HBLK.out)).trans HBLK.out
    have d3 : w6.cell? ⟨rb, 3, none⟩ = some (.slice av L cv) := cellAt hb6 rfl
    clear b6 hb6
    go_wp2_with fail
    go_returns
    exact ⟨HFIN.out _ HB6.out, .inl ⟨_, fs, HN.out, rfl, frow_base HROW6.out (by have := HRB.out; omega) (fun x hx => hx.elim), HALL.out⟩⟩
end Go.Proofs.YtehihemfepbmfaaGreatDoor

/-
  The law of ReadFilter: the call returns true and turns nothing that was there.
-/
namespace Go.Proofs.YtehihemfepbmfaaGreatDoor
open Go.RowKit
set_option linter.unusedSimpArgs false
set_option linter.unusedVariables false

/-- What both ReadFilters answer, said at once. -/
def fltN (L : List UInt8) : List FN := (fltF L).getD []
def FltN (L : List UInt8) (w : World) (e : Ending) (w' : World) : Prop := Below w.heap.size w w' ∧ ∃ v, e = .returned (.tuple #[v, .bool (fltF L).isSome]) ∧ FRow w.heap.size (fun _ => False) w' v (fltN L)
theorem RdFlt.n {L : List UInt8} {w w' : World} {e : Ending} (h : RdFlt L w e w') : FltN L w e w' ∧ AllF (fltN L) := by
  obtain ⟨hb, ⟨v, fs, h1, h2, h3, h4⟩ | ⟨h1, h2⟩⟩ := h
  · refine ⟨⟨hb, v, by rw [h1]; exact h2, ?_⟩, ?_⟩
    · have : fltN L = fs := by unfold fltN; rw [h1]; rfl
      rw [this]; exact h3
    · have : fltN L = fs := by unfold fltN; rw [h1]; rfl
      rw [this]; exact h4
  · have : fltN L = [] := by unfold fltN; rw [h1]; rfl
    refine ⟨⟨hb, _, by rw [h1]; exact h2, by rw [this]; exact FRow.nil _ _ _⟩, by rw [this]; exact allF_nil⟩
theorem fltN_few (L : List UInt8) : (fltN L).length ≤ 40 := by
  unfold fltN
  cases e : fltF L with
  | none => exact Nat.zero_le _
  | some fs =>
    show fs.length ≤ 40
    have hok : okF fs = true := by
      unfold fltF at e
      split at e
      · cases e
      · split at e
        · cases e
        · split at e
          · rename_i h; cases e; exact h
          · cases e
    unfold okF fsizeB at hok
    simp only [Bool.and_eq_true, decide_eq_true_eq] at hok
    exact hok.1.1.2
theorem FRow.nodes {base : Nat} {Z : Nat → Prop} {w : World} {v : Value} {fs : List FN} (h : FRow base Z w v fs) (hn : fs.length ≤ 1048576) (hf : AllF fs) : FNodesAt w.heap.size w v fs := by
  obtain ⟨C, N, I, hN, _⟩ := h
  exact hN.nodes hn hf
theorem Below.nextF {A : Nat} {a b c : World} (h : Below A a b) (h2 : Below b.heap.size b c) (hA : A ≤ b.heap.size) : Below A a c := h.trans (h2.mono hA)

set_option maxRecDepth 100000 in
set_option maxHeartbeats 6400000 in
theorem lawReadFilter_walk (s : ByteArray) (w : World) (ht : TabsR w.heap.size w) :
    Calls Tryz.prog 6 #[.string s] w fun e w' => e = .returned (.bool true) ∧ Below w.heap.size w w' := by
  by_cases hs : 1048576 < s.size
  · have hs' : (1048576 : Int) < (s.size : Int) := by omega
    clear ht
    by_cases hs2 : s.size ≤ 9223372036854775807
    · go_enter Tryz.func6, Tryz.ntmps6
      go_wp2_with fail
      go_ret
      exact ⟨rfl, Below.refl _ _⟩
    · go_enter Tryz.func6, Tryz.ntmps6
      go_wp2_with fail
      go_ret
      exact ⟨rfl, Below.refl _ _⟩
  have hs' : ¬ (1048576 : Int) < (s.size : Int) := by omega
  have HT := hideIt ht
  have CS : Hid (∀ w, Calls Tryz.prog 16 #[.string s] w fun e w' => FltN s.data.toList w e w' ∧ AllF (fltN s.data.toList)) := fun w => (specReadFilter_any (w := w) (by omega)).mono fun e w' h => h.n
  have CI : Hid (∀ w, TabsR w.heap.size w → Calls Tryz.prog 13 #[.string s] w fun e w' => FltN s.data.toList w e w' ∧ AllF (fltN s.data.toList)) := fun w h => (implReadFilter_any (w := w) h (by omega)).mono fun e w' h => h.n
  have hfew := fltN_few s.data.toList
  unfold FltN at CS CI
  obtain ⟨fs, hfs⟩ : ∃ fs, fltN s.data.toList = fs := ⟨_, rfl⟩
  obtain ⟨b, hb⟩ : ∃ b, (fltF s.data.toList).isSome = b := ⟨_, rfl⟩
  rw [hfs] at hfew CS CI
  rw [hb] at CS CI
  obtain ⟨N, hL⟩ : ∃ N, fs.length = N := ⟨_, rfl⟩
  have HLL := hideIt hL
  rw [hL] at hfew
  have hbe : (b != b) = false := by simp
  clear ht hfs hb hL
  go_enter Tryz.func6, Tryz.ntmps6
  go_wp2_with fail
  refine (CS.out w).mono ?_
  rintro e w1 ⟨⟨hb1, v0, rfl, hr0⟩, hall⟩
  have HALL := hideIt hall
  obtain ⟨a0, c0, e0⟩ := hr0.slice
  rw [HLL.out] at e0
  subst e0
  have HR0 := hideIt hr0
  have HB1 := hideIt hb1
  have z1 := hb1.size
  clear hr0 hb1 hall
  go_wp2_with fail
  refine (CI.out w1 ((HT.out.next HB1.out).wide z1)).mono ?_
  rintro e w5 ⟨⟨hb5, v5, rfl, hr5⟩, -⟩
  obtain ⟨a5, c5, e5⟩ := hr5.slice
  rw [HLL.out] at e5
  subst e5
  have HR5 := hideIt hr5
  have H15 := hideIt hb5
  have HB5 := hideIt (Below.nextF HB1.out hb5 z1)
  have z5 := hb5.size
  have hlen : fs.length ≤ 1048576 := by rw [HLL.out]; omega
  have HLEN := hideIt hlen
  clear hr5 hb5 hlen
  go_wp2_with fail
  refine (eqFNodeS_any w5.heap.size _ _ fs _ (HR5.out.nodes HLEN.out HALL.out) ((HR0.out.below H15.out).nodes HLEN.out HALL.out) (Nat.le_refl _)).mono ?_
  rintro e w10 ⟨rfl, hb10⟩
  have H110 := hideIt (Below.nextF H15.out hb10 z5)
  have HB10 := hideIt (Below.nextF HB5.out hb10 (by omega))
  have z10 := hb10.size
  obtain ⟨C, NN, I, hN5, _⟩ := HR5.out.below hb10
  have HMK := hideIt (hN5.mky HLL.out (by omega) HALL.out)
  clear hb10 hN5
  obtain ⟨bb, hbb⟩ : ∃ bb, ((Value.slice a5 N c5).ownBlock).getD 0 = bb := ⟨_, rfl⟩
  rw [hbb] at HMK
  clear hbb
  have HLE : Hid (∀ i, i < N → ncF fs i ≤ 1 ∧ nnF fs i ≤ 100000 ∧ niF fs i ≤ 100000) := fun i hi => (HMK.out (by omega)).2.le i hi
  go_wp2_with fail
  refine (markFNodeS_any w1.heap.size bb N c5 1 a5 (ncF fs) (nnF fs) (niF fs) (blF C) (blF NN) (blF I) w10 HMK.out (by omega) (by omega) (by omega) (by omega)).mono ?_
  rintro e w11 ⟨rfl, hh11, hb11⟩
  have H111 := hideIt (H110.out.trans hb11)
  have HB11 := hideIt (HB10.out.trans (hb11.mono z1))
  have HH11 := hideIt hh11
  have z11 := hb11.size
  clear hh11 hb11
  have HAD : Hid (0 < N → a5 = some ⟨bb, 0, none⟩) := fun hp => (HMK.out hp).1
  go_wp2_with fail
  refine (heldFNodeS_any bb N c5 1 a5 (ncF fs) (nnF fs) (niF fs) (blF C) (blF NN) (blF I) w11 HAD.out (by omega) HLE.out (by omega) (by omega) HH11.out).mono ?_
  rintro e w12 ⟨rfl, hb12⟩
  have H112 := hideIt (Below.nextF H111.out hb12 (by omega))
  have HB12 := hideIt (Below.nextF HB11.out hb12 (by omega))
  have H1112 := hideIt hb12
  have z12 := hb12.size
  clear hb12
  have HOFF : Hid (∃ M, offF (ncF fs) (nnF fs) (niF fs) 1 N = M) := ⟨_, rfl⟩
  obtain ⟨M12, hM12⟩ := HOFF.out
  rw [hM12]
  have HM12 := hideIt hM12
  have hM0 : ¬ ((M12 : Int) < 0) := by omega
  clear hM12
  go_wp2_with fail
  refine (CI.out w12 ((HT.out.next HB12.out).wide (by omega))).mono ?_
  rintro e w14 ⟨⟨hb14, v14, rfl, hr14⟩, -⟩
  obtain ⟨a14, c14, e14⟩ := hr14.slice
  rw [HLL.out] at e14
  subst e14
  have HR14 := hideIt hr14
  have H114 := hideIt (Below.nextF H112.out hb14 (by omega))
  have HB14 := hideIt (Below.nextF HB12.out hb14 (by omega))
  have H1114 := hideIt (Below.nextF H1112.out hb14 (by omega))
  have z14 := hb14.size
  clear hr14 hb14
  go_wp2_with fail
  refine (eqFNodeS_any w14.heap.size _ _ fs _ (HR14.out.nodes HLEN.out HALL.out) ((HR0.out.below H114.out).nodes HLEN.out HALL.out) (Nat.le_refl _)).mono ?_
  rintro e w15 ⟨rfl, hb15⟩
  have HB15 := hideIt (Below.nextF HB14.out hb15 (by omega))
  have H1115 := hideIt (Below.nextF H1114.out hb15 (by omega))
  have z15 := hb15.size
  clear hb15
  go_wp2_with fail
  refine (heldFNodeS_any bb N c5 1 a5 (ncF fs) (nnF fs) (niF fs) (blF C) (blF NN) (blF I) w15 HAD.out (by omega) HLE.out (by omega) (by omega) (fun i hi => (HH11.out i hi).below H1115.out)).mono ?_
  rintro e w16 ⟨rfl, hb16⟩
  have HB16 := hideIt (Below.nextF HB15.out hb16 (by omega))
  clear hb16
  rw [HM12.out]
  go_wp2_with fail
  go_ret
  exact ⟨rfl, HB16.out⟩
end Go.Proofs.YtehihemfepbmfaaGreatDoor
