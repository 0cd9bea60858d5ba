/-
  What the arguments read as: slices of nodes of the laws' own type.
-/
import Derived.Test.YtbcbcmbheglfhaaGreatDoorStbP
import Derived.Test.YtbcbcmbheglfhaaGreatDoorProg
import Derived.Deep.Slices
import Derived.Deep.Strs
import Derived.KernelRfl
import Derived.OpenShut
import Derived.Test.YtbcbcmbheglfhaaGreatDoorSz
import Derived.Test.YtbcbcmbheglfhaaGreatDoorLawMinus
import Derived.Test.YtbcbcmbheglfhaaGreatDoorCards
import Derived.Test.YtbcbcmbheglfhaaGreatDoorTie
import Derived.SevenTiedAt
namespace Go.Proofs.YtbcbcmbheglfhaaGreatDoor
open Go.RowKit Go.Deep Go.ChangeShapes Go.WideShapes
set_option linter.unusedSimpArgs false
set_option linter.unusedVariables false

theorem wf64 {n : Int} (h : (Lit.int .i64 n).wf = true) : -9223372036854775808 ≤ n ∧ n ≤ 9223372036854775807 := by
  simp [Lit.wf, IntKind.min, IntKind.max, IntKind.signed, IntKind.bits] at h
  omega

theorem cells1i : Tryz.prog.cellsOf 2 = 1 := by kernel_rfl
theorem cells1s : Tryz.prog.cellsOf 9 = 1 := by kernel_rfl
theorem cells1ks : Tryz.prog.cellsOf 36 = 1 := by kernel_rfl
theorem cells1ki : Tryz.prog.cellsOf 37 = 1 := by kernel_rfl
theorem cells5 : Tryz.prog.cellsOf 44 = 5 := by kernel_rfl

theorem lt_cell {w : World} {b o : Nat} {v : Value} (h : w.cell? ⟨b, o, none⟩ = some v) : b < w.heap.size := by
  unfold World.cell? at h
  cases hb : w.heap[b]? with
  | none => simp [hb] at h
  | some x => exact (Array.getElem?_eq_some_iff.1 hb).1

section
variable {H : Type} {enc : TypeId × Value → H} {W : World} {base : Nat} {spare : Nat → Bool} {held : Bool}

theorem raw_ints {fuel : Nat} {v : Value} {x : DataW H × List MemPlace} (h : DataW.trod enc Tryz.prog W base spare held fuel 37 [v] = some x) : ∃ l, RawInts W.heap.size W v l := by
  rcases open_ints Tryz.underlying37 Tryz.underlying2 cells1i h with ⟨hcs, _⟩ | ⟨a, len, cap, zs, hcs, _, hl, hm, hz, _, hcell, hwz⟩
  · refine ⟨[], by simp, fun i hi => absurd hi (by simp), none, 0, by simpa using hcs, fun hl => absurd hl (by simp)⟩
  · have hlen : len ≤ zs.length := by rw [hz]; split <;> omega
    have hlt : (zs.take len).length = len := by rw [List.length_take]; omega
    have hat : ∀ i, i < len → intAt (zs.take len) i = zs.getD i 0 := fun i hi => by simp [intAt, hi]
    have hm' : len ≤ 9223372036854775807 := by unfold maxLen at hm; omega
    refine ⟨zs.take len, by omega, fun i hi => ?_, some a, cap, by rw [hlt]; simpa using hcs, fun hl0 => ?_⟩
    · rw [hat i (by omega)]
      refine wf64 (hwz _ ?_)
      rw [List.getD_eq_getElem?_getD, List.getElem?_eq_getElem (by omega)]
      exact List.getElem_mem _
    · obtain ⟨b, o, spot⟩ := a
      have hc0 := hcell 0 (by omega)
      have hspot : spot = none := by simpa [Addr.add] using World.cell?_spot hc0
      subst hspot
      have hc' : ∀ i, i < len → W.cell? ⟨b, o + i, none⟩ = some (.int .i64 (zs.getD i 0)) := fun i hi => by
        have := hcell i (by omega)
        by_cases e : i = 0
        · subst e; simpa [Addr.add] using this
        · simpa [Addr.add, e] using this
      refine ⟨b, o, rfl, lt_cell (hc' 0 (by omega)), fun i hi => ?_⟩
      rw [hat i (by omega)]
      exact hc' i (by omega)

theorem raw_strs {fuel : Nat} {v : Value} {x : DataW H × List MemPlace} (h : DataW.trod enc Tryz.prog W base spare held fuel 36 [v] = some x) : ∃ l, RawStrs W.heap.size W v l := by
  rcases open_strs Tryz.underlying36 Tryz.underlying9 cells1s h with ⟨hcs, _⟩ | ⟨a, len, cap, m, Sx, hcs, _, hl, hm, hmm, _, hcell⟩
  · refine ⟨[], by simp, fun i hi => absurd hi (by simp), none, 0, by simpa using hcs, fun hl => absurd hl (by simp)⟩
  · have hlen : len ≤ m := by rw [hmm]; split <;> omega
    have hlt : ((List.range len).map Sx).length = len := by simp
    have hat : ∀ i, i < len → keyAt ((List.range len).map Sx) i = Sx i := fun i hi => by simp [keyAt, hi]
    have hm' : len ≤ 9223372036854775807 := by unfold maxLen at hm; omega
    refine ⟨(List.range len).map Sx, by omega, fun i hi => ?_, some a, cap, by rw [hlt]; simpa using hcs, fun hl0 => ?_⟩
    · rw [hat i (by omega)]
      have := (hcell i (by omega)).2
      unfold maxLen at this
      omega
    · obtain ⟨b, o, spot⟩ := a
      have hc0 := (hcell 0 (by omega)).1
      have hspot : spot = none := by simpa [Addr.add] using World.cell?_spot hc0
      subst hspot
      have hc' : ∀ i, i < len → W.cell? ⟨b, o + i, none⟩ = some (.string (Sx i)) := fun i hi => by
        have := (hcell i (by omega)).1
        by_cases e : i = 0
        · subst e; simpa [Addr.add] using this
        · simpa [Addr.add, e] using this
      refine ⟨b, o, rfl, lt_cell (hc' 0 (by omega)), fun i hi => ?_⟩
      rw [hat i (by omega)]
      exact hc' i (by omega)

set_option maxRecDepth 100000 in
theorem raw_node {fuel : Nat} {cs : List Value} {x : DataW H × List MemPlace} (h : DataW.trod enc Tryz.prog W base spare held fuel 44 cs = some x) :
    ∃ (y : VN) (ka ki : Value), cs = [.int .i64 y.kind, .int .i64 y.n, .string y.s, ka, ki] ∧ RawIn W.heap.size W y ka ki := by
  obtain ⟨xs, n, _, _, hl, hlen, hf⟩ := DataW.trod_struct Tryz.underlying44 h
  rw [cells5] at hl
  match cs, hl with
  | [v0, v1, v2, v3, v4], _ =>
    have f0 := hf 0 _ rfl
    have f1 := hf 1 _ rfl
    have f2 := hf 2 _ rfl
    have f3 := hf 3 _ rfl
    have f4 := hf 4 _ rfl
    match xs, hlen with
    | [y0, y1, y2, y3, y4], _ =>
      simp [cells1i, cells1s, cells1ks, cells1ki] at f0 f1 f2 f3 f4
      obtain ⟨k, e0, _, w0⟩ := DataW.trod_int Tryz.underlying2 f0
      obtain ⟨n', e1, _, w1⟩ := DataW.trod_int Tryz.underlying2 f1
      obtain ⟨s, e2, _, w2⟩ := DataW.trod_string Tryz.underlying9 f2
      obtain ⟨ks, r3⟩ := raw_strs f3
      obtain ⟨is, r4⟩ := raw_ints f4
      simp only [List.cons.injEq, and_true] at e0 e1 e2
      subst e0 e1 e2
      unfold maxLen at w2
      exact ⟨⟨k, n', s, ks, is⟩, v3, v4, rfl, r3, r4, by simp only; omega, (wf64 w0).1, (wf64 w0).2, (wf64 w1).1, (wf64 w1).2⟩

theorem raw_nodes {fuel : Nat} {v : Value} {x : DataW H × List MemPlace} (h : DataW.trod enc Tryz.prog W base spare held fuel 22 [v] = some x) : ∃ vs, RawNodes W.heap.size W v vs := by
  rcases open_slice Tryz.underlying22 h with ⟨hcs, _⟩ | ⟨a, len, cap, m, n, D, Pl, hcs, _, hl, hm, hmm, _, hx⟩
  · refine ⟨[], by simp, none, 0, by simpa using hcs, fun hl => absurd hl (by simp)⟩
  · have hlen : len ≤ m := by rw [hmm]; split <;> omega
    have hm' : len ≤ 9223372036854775807 := by unfold maxLen at hm; omega
    rw [cells5] at hx
    obtain ⟨f, hfx⟩ := @choose_lt (VN × Value × Value) ⟨(VN.zero, undef, undef)⟩ m (fun i q => RawIn W.heap.size W q.1 q.2.1 q.2.2 ∧ ∀ j, j < 5 → W.cell? ((a.add (i * 5)).add j) = [Value.int .i64 q.1.kind, .int .i64 q.1.n, .string q.1.s, q.2.1, q.2.2][j]?) (fun i hi => by
      obtain ⟨cs', h1, h2⟩ := hx i hi
      obtain ⟨y, ka, ki, e, hy⟩ := raw_node h2
      subst e
      exact ⟨(y, ka, ki), hy, (World.cells?_some h1).2.2⟩)
    have hat : ∀ i, i < len → nodeAt ((List.range len).map fun i => (f i).1) i = (f i).1 := fun i hi => by simp [nodeAt, hi]
    refine ⟨(List.range len).map fun i => (f i).1, by simp; omega, some a, cap, by simpa using hcs, fun hl0 => ?_⟩
    simp only [List.length_map, List.length_range] at hl0
    obtain ⟨b, o, spot⟩ := a
    have hspot : spot = none := by
      have h0 := (hfx 0 (by omega)).2 0 (by omega)
      have h0' : W.cell? ⟨b, o, spot⟩ = some (.int .i64 (f 0).1.kind) := by simpa [Addr.add] using h0
      exact World.cell?_spot h0'
    subst hspot
    have hadd : ∀ i j, (Addr.add (Addr.add ⟨b, o, none⟩ (i * 5)) j) = ⟨b, o + i * 5 + j, none⟩ := fun i j => by
      rw [add_add]
      by_cases e : i * 5 + j = 0
      · unfold Addr.add
        rw [if_pos e]
        congr 1
        omega
      · unfold Addr.add
        rw [if_neg e]
        congr 1
        show o + (i * 5 + j) = o + i * 5 + j
        omega
    have hc' : ∀ i, i < len → ∀ j, j < 5 → W.cell? ⟨b, o + i * 5 + j, none⟩ = [Value.int .i64 (f i).1.kind, .int .i64 (f i).1.n, .string (f i).1.s, (f i).2.1, (f i).2.2][j]? := fun i hi j hj => by
      rw [← hadd]; exact (hfx i (by omega)).2 j hj
    refine ⟨b, o, rfl, lt_cell (b := b) (o := o + 0 * 5 + 0) (hc' 0 (by omega) 0 (by omega)), fun i hi => ?_⟩
    simp only [List.length_map, List.length_range] at hi
    rw [hat i hi]
    exact ⟨(f i).2.1, (f i).2.2, hc' i hi 0 (by omega), hc' i hi 1 (by omega), hc' i hi 2 (by omega), hc' i hi 3 (by omega), hc' i hi 4 (by omega), (hfx i (by omega)).1⟩
end
end Go.Proofs.YtbcbcmbheglfhaaGreatDoor

/-
  PROVED: for every two lists of nodes the law FnExactMinus returns true: the program's Minus answers as the specification's, writes into no argument, and its answer owns its memory. Conditions: the row's own (the three listed variables read as their initialisers lay them), tied to the program's text by the card.
-/
namespace Go.Proofs.YtbcbcmbheglfhaaGreatDoor
open Go.ChangeShapes Go.WideShapes Go.ChangeAt Go.RowKit
set_option linter.unusedVariables false

theorem minus_met (os : Os) (args : Array Value) : laidMetH Tryz.prog Rows.fnExactMinusRow.laid ((World.doorLaid Tryz.prog 400 os).forCall (fun _ _ => 0) ⟨#[], args, []⟩).memory :=
  laidMetH_of_parts3 (fuel := 8) (laidMet_of_run' 8 (by kernel_rfl) (by kernel_rfl)) (by kernel_rfl) (by kernel_rfl)

set_option maxRecDepth 100000 in
theorem minus_lifted (os : Os) (started : os.Started) (H : Type) (enc : TypeId × Value → H) :
    ReturnsInHanded {} Tryz.checked os 3 .any (fun w args => (Rows.fnExactMinusSpec.pre enc Tryz.prog Tryz.f3 [] false w args ∧ laidMetH Tryz.prog Rows.fnExactMinusRow.laid w) ∧ sizedMet enc Tryz.prog Tryz.f3 (OpenSpec.ofChange Rows.fnExactMinusSpec) false w args)
      (Rows.fnExactMinusSpec.post enc Tryz.prog Tryz.f3 false true false false) := by
  refine returnsInHanded_of_change_and (C := Tryz.checked) (X := fun w _ => laidMetH Tryz.prog Rows.fnExactMinusRow.laid w) (fun _ _ _ hh h => h.of_heap hh) ev_own started (by kernel_rfl) Tryz.func3
    (ChangeSpec.witness_shaped (enc := enc) (C := Tryz.checked) (os := os) (X := fun w _ => laidMetH Tryz.prog Rows.fnExactMinusRow.laid w) false (World.doorLaid Tryz.prog 400 os) #[.slice none 0 0, .slice none 0 0] 8 rfl (World.shaped_of_RefB (by kernel_rfl) (by kernel_rfl)) (by kernel_rfl) (by kernel_rfl) (by kernel_rfl) (minus_met os _)) ?_
  intro W base args ds gs before hval0 hW _ _ hL _
  have hval : ∀ (j : Nat) t v, Tryz.f3.params[j]? = some t → args[j]? = some v → Value.okWide Tryz.prog W .any base t v := hval0
  have hW' := hW
  obtain ⟨p, q, hA0, hV0, rfl, hfz, hnd⟩ := hW
  have hA : DataW.TrodAll enc Tryz.prog W 0 (fun _ => true) true Tryz.f3.params.toList args.toList ds p := hA0
  have hV : DataW.TrodVars enc Tryz.prog W (fun _ => true) ["loop.example/g00345/impl.errKind", "loop.example/g00345/impl.errNotRight"] gs q := hV0
  rw [Tryz.params3] at hA hval
  obtain ⟨v0, vs0, d0, ds0, p0, q0, hargs, rfl, rfl, h0, r0⟩ := trodAll_cons hA
  obtain ⟨v1, vs1, d1, ds1, p1, q1, hargs1, rfl, rfl, h1, r1⟩ := trodAll_cons r0
  obtain ⟨rfl, rfl, rfl⟩ := trodAll_nil r1
  obtain rfl : args = #[v0, v1] := by cases args; simp_all
  have hL2 : laidMet Tryz.prog [("loop.example/g00345/impl.errKind", Rows.laid_loop_example_g00345_impl_errKind), ("loop.example/g00345/impl.errNotRight", Rows.laid_loop_example_g00345_impl_errNotRight)] W ∧ handlesMet Tryz.prog [("errors.errorType", Rows.laid_errors_errorType)] W := hL
  obtain ⟨hE, x0, x1, hv0, hv1⟩ := ev_errs2 hL2.1 hL2.2
  obtain ⟨rfl, rfl⟩ := hV.unique (ev_read2 enc hv0 hv1 _)
  obtain ⟨a0, len0, cap0, rfl⟩ := okWide_slice Tryz.underlying22 (hval 0 22 v0 rfl rfl)
  obtain ⟨a1, len1, cap1, rfl⟩ := okWide_slice Tryz.underlying22 (hval 1 22 v1 rfl rfl)
  have k0 := h0
  have k1 := h1
  have lt0 : ∀ x ∈ p0, x.block < W.heap.size := by obtain ⟨m, hm⟩ := k0; exact DataW.trod_lt m _ _ _ hm
  have lt1 : ∀ x ∈ p1, x.block < W.heap.size := by obtain ⟨m, hm⟩ := k1; exact DataW.trod_lt m _ _ _ hm
  obtain ⟨us, w0⟩ : ∃ us, RawNodes W.heap.size W (.slice a0 len0 cap0) us := by
    obtain ⟨fuel, hf⟩ := h0
    exact raw_nodes (by simpa [Value.cells] using hf)
  obtain ⟨vs, w1⟩ : ∃ vs, RawNodes W.heap.size W (.slice a1 len1 cap1) vs := by
    obtain ⟨fuel, hf⟩ := h1
    exact raw_nodes (by simpa [Value.cells] using hf)
  clear hA0 hV0 hval0
  refine (lawMinus_walk (.slice a0 len0 cap0) (.slice a1 len1 cap1) us vs W w0 w1 hE).mono fun e W' ⟨he, bel⟩ => ?_
  subst he
  exact ⟨_, rfl, _, _, _, [], _, [.cell 0 0, .cell 1 0], hW', trodAll_mk1 (shut_bool Tryz.underlying4 _), (trodAll_cons_mk (Below.trod ev_laidOut (by kernel_rfl) (of_decide_eq_true (by kernel_rfl)) k0 bel lt0) (trodAll_cons_mk (Below.trod ev_laidOut (by kernel_rfl) (of_decide_eq_true (by kernel_rfl)) k1 bel lt1) trodAll_mk0)), ev_read2 enc (ev_var_below bel ev_gk (cell_lt (ev_cell0 hv0)) hv0) (ev_var_below bel ev_gn (cell_lt (ev_cell1 hv1)) hv1) _, bel.frame _, fun h => by cases h⟩

theorem fnExactMinus_row : Rows.FnExactMinusSaid :=
  OpenClaim.holds_of_wide 3 Tryz.f3 rfl rfl rfl rfl rfl rfl rfl ⟨rfl, rfl, rfl, rfl, rfl⟩ rfl rfl rfl rfl rfl (by kernel_rfl) Tryz.func3 (by kernel_rfl)
    (of_decide_eq_true (by kernel_rfl)) (by unfold Func.isWrapper; first | (rw [if_pos (by decide +kernel)]; kernel_rfl) | (rw [if_neg (by decide +kernel)]; exact ⟨rfl, rfl⟩))
    (fun os started H enc _ => minus_lifted os started H enc)

theorem fnExactMinus_holds : Rows.FnExactMinusCardSaid :=
  Claim7.holds_tied_plain_at .later [] [.handle, .sentinel, .sentinel] true (true, "0d435d7634b3b3b99adcb83fb8b562657fe93cd7c61460e5c902a73fcbe106ac") true
    fnExactMinus_row (fun _ h => by cases h) (by kernel_rfl) (fun _ h => by cases h) fnExactMinus_row_tie rfl ⟨rfl, rfl⟩ (by kernel_rfl) rfl
    (fun f fn hf hfn => by
      obtain rfl : f = 3 := Option.some.inj ((show Tryz.prog.funcNamed "loop.example/g00345/laws.FnExactMinus" = some 3 by kernel_rfl).symm.trans hf) |>.symm
      obtain rfl : fn = Tryz.f3 := (Option.some.inj (Tryz.func3.symm.trans hfn)).symm
      exact ⟨by kernel_rfl, fun j t ht => by
        rw [Tryz.params3] at ht
        have h3 : t = 22 := by
          rcases j with _ | _ | j
          · simpa using ht.symm
          · simpa using ht.symm
          · simp at ht
        subst h3
        exact (show Tryz.prog.wantsStandIn 22 = false by kernel_rfl)⟩)
    (by kernel_rfl)
#print axioms fnExactMinus_holds
end Go.Proofs.YtbcbcmbheglfhaaGreatDoor
