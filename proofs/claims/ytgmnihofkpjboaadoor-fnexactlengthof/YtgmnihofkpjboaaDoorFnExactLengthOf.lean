/-
  PROVED: for every list of nodes the law FnExactLengthOf returns true: the program's LengthOf answers as the specification's, writes into no argument, and its answer owns its memory. Conditions: the row's own (the two listed variables read as their initialisers lay them), tied to the program's text by the card.
-/
import Derived.Test.YtgmnihofkpjboaaDoorVarsE
import Derived.Test.YtgmnihofkpjboaaDoorLawLengthOf
import Derived.Test.YtgmnihofkpjboaaDoorOpen
import Derived.Test.YtgmnihofkpjboaaDoorCards
import Derived.Test.YtgmnihofkpjboaaDoorTie
import Derived.SevenTiedAt
namespace Go.Proofs.YtgmnihofkpjboaaDoor
open Go.ChangeShapes Go.WideShapes Go.ChangeAt Go.RowKit
set_option linter.unusedVariables false

set_option maxRecDepth 100000 in
theorem ev_sent1 {W : World} (h : laidMet Tryd.prog [("loop.example/g00345/impl.errKind", Rows.laid_loop_example_g00345_impl_errKind)] W) :
    ∃ a1 : Addr, W.var? Tryd.prog "loop.example/g00345/impl.errKind" = some #[.iface 157 (.pointer (some a1))] ∧ ∃ cs t, W.heap[a1.block]? = some (.cells cs t (0, 0)) := by
  obtain ⟨ps, ⟨g0', t0', cs0, f0, p0, q0, hg0', ht0', hv0, hd0, _, e0⟩, _, hrows⟩ := h
  obtain rfl := Option.some.inj (ev_gk.symm.trans hg0')
  obtain rfl := Option.some.inj (ev_gkType.symm.trans ht0')
  subst e0
  obtain ⟨l0⟩ := cs0
  have ok0 : ∀ u v, l0 = [.iface u v] → Value.okWide Tryd.prog W .any 0 u v := fun u v e => by
    subst e
    exact (hrows 0 0 (by simp [MemPlace.row])).2 u v (by simpa using World.var?_cell ev_gk hv0 0)
  obtain ⟨a0, s0, rfl, hc0, hs0, hz0, rfl⟩ := errorString_of_trod Tryd.underlying49 ev_row Tryd.underlying157 Tryd.underlying175 rfl rfl Tryd.underlying9 ev_cellsE ev_cellsS hd0 ok0
  obtain ⟨c0, t0, hb0⟩ := (hrows a0.block a0.off (by simp [MemPlace.row])).1
  exact ⟨a0, hv0, c0, t0, hb0⟩

theorem len_met (os : Os) (args : Array Value) : laidMetH Tryd.prog Rows.fnExactLengthOfRow.laid ((World.doorLaid Tryd.prog 400 os).forCall (fun _ _ => 0) ⟨#[], args, []⟩).memory :=
  laidMetH_of_parts3 (fuel := 8) (laidMet_of_run' 8 (by kernel_rfl) (by kernel_rfl)) (by kernel_rfl) (by kernel_rfl)

set_option maxRecDepth 100000 in
theorem len_lifted (os : Os) (started : os.Started) (H : Type) (enc : TypeId × Value → H) :
    ReturnsInHanded {} Tryd.checked os 4 .any (fun w args => (Rows.fnExactLengthOfSpec.pre enc Tryd.prog Tryd.f4 [] false w args ∧ laidMetH Tryd.prog Rows.fnExactLengthOfRow.laid w) ∧ sizedMet enc Tryd.prog Tryd.f4 (OpenSpec.ofChange Rows.fnExactLengthOfSpec) false w args)
      (Rows.fnExactLengthOfSpec.post enc Tryd.prog Tryd.f4 false true false false) := by
  refine returnsInHanded_of_change_and (C := Tryd.checked) (X := fun w _ => laidMetH Tryd.prog Rows.fnExactLengthOfRow.laid w) (fun _ _ _ hh h => h.of_heap hh) ev_own started (by kernel_rfl) Tryd.func4
    (ChangeSpec.witness_shaped (enc := enc) (C := Tryd.checked) (os := os) (X := fun w _ => laidMetH Tryd.prog Rows.fnExactLengthOfRow.laid w) false (World.doorLaid Tryd.prog 400 os) #[.slice none 0 0] 8 rfl (World.shaped_of_RefB (by kernel_rfl) (by kernel_rfl)) (by kernel_rfl) (by kernel_rfl) (by kernel_rfl) (len_met os _)) ?_
  intro W base args ds gs before hval0 hW _ _ hL _
  have hval : ∀ (j : Nat) t v, Tryd.f4.params[j]? = some t → args[j]? = some v → Value.okWide Tryd.prog W .any base t v := hval0
  have hW' := hW
  obtain ⟨p, q, hA0, hV0, rfl, hfz, hnd⟩ := hW
  have hA : DataW.TrodAll enc Tryd.prog W 0 (fun _ => true) true Tryd.f4.params.toList args.toList ds p := hA0
  have hV : DataW.TrodVars enc Tryd.prog W (fun _ => true) ["loop.example/g00345/impl.errKind"] gs q := hV0
  rw [Tryd.params4] at hA hval
  obtain ⟨v0, vs0, d0, ds0, p0, q0, hargs, rfl, rfl, h0, r0⟩ := trodAll_cons hA
  obtain ⟨rfl, rfl, rfl⟩ := trodAll_nil r0
  obtain rfl : args = #[v0] := by cases args; simp_all
  have hL2 : laidMet Tryd.prog [("loop.example/g00345/impl.errKind", Rows.laid_loop_example_g00345_impl_errKind)] W ∧ handlesMet Tryd.prog [("errors.errorType", Rows.laid_errors_errorType)] W := hL
  have hET := ev_handle hL2.2
  obtain ⟨a1, hv1, c1, t1, hb1⟩ := ev_sent1 hL2.1
  obtain ⟨rfl, rfl⟩ := hV.unique (Go.vars_read1 enc ev_gk ev_gkType Tryd.underlying49 hv1 trivial _)
  have hg1 : W.cell? ⟨0, 0, none⟩ = some (.iface 157 (.pointer (some a1))) := by simpa using World.var?_cell ev_gk hv1 0
  obtain ⟨a0, len0, cap0, rfl⟩ := okWide_slice Tryd.underlying23 (hval 0 23 v0 rfl rfl)
  have k0 := h0
  have lt0 : ∀ x ∈ p0, x.block < W.heap.size := by obtain ⟨m, hm⟩ := k0; exact DataW.trod_lt m _ _ _ hm
  obtain ⟨us, w0⟩ : ∃ us, RawNodes W.heap.size W (.slice a0 len0 cap0) us := by
    obtain ⟨fuel, hf⟩ := h0
    exact raw_nodes (by simpa [Value.cells] using hf)
  clear hA0 hV0 hval0
  have hE : Errs W := ⟨hET, ⟨_, hg1, c1, t1, hb1⟩⟩
  refine (lawLengthOf_walk (.slice a0 len0 cap0) us W w0 hE).mono fun e W' ⟨he, bel⟩ => ?_
  subst he
  exact ⟨_, rfl, _, _, _, [], _, [.cell 0 0], hW', trodAll_mk1 (shut_bool Tryd.underlying4 _), (trodAll_cons_mk (Below.trod ev_laidOut (by kernel_rfl) (of_decide_eq_true (by kernel_rfl)) k0 bel lt0) trodAll_mk0), Go.vars_read1 enc ev_gk ev_gkType Tryd.underlying49 (ev_var_below bel ev_gk (cell_lt hg1) hv1) trivial _, bel.frame _, fun h => by cases h⟩

theorem fnExactLengthOf_row : Rows.FnExactLengthOfSaid :=
  OpenClaim.holds_of_wide 4 Tryd.f4 rfl rfl rfl rfl rfl rfl rfl ⟨rfl, rfl, rfl, rfl, rfl⟩ rfl rfl rfl rfl rfl (by kernel_rfl) Tryd.func4 (by kernel_rfl)
    (of_decide_eq_true (by kernel_rfl)) (by unfold Func.isWrapper; first | (rw [if_pos (by decide +kernel)]; kernel_rfl) | (rw [if_neg (by decide +kernel)]; exact ⟨rfl, rfl⟩))
    (fun os started H enc _ => len_lifted os started H enc)

theorem fnExactLengthOf_holds : Rows.FnExactLengthOfCardSaid :=
  Claim7.holds_tied_plain_at .later [] [.handle, .sentinel] true (true, "f184e716d8eb23370a077a8eb767ed0e038bd1f74c85b4dce8e455dce2ad9b05") true
    fnExactLengthOf_row (fun _ h => by cases h) (by kernel_rfl) (fun _ h => by cases h) fnExactLengthOf_row_tie rfl ⟨rfl, rfl⟩ (by kernel_rfl) rfl
    (fun f fn hf hfn => by
      obtain rfl : f = 4 := Option.some.inj ((show Tryd.prog.funcNamed "loop.example/g00345/laws.FnExactLengthOf" = some 4 by kernel_rfl).symm.trans hf) |>.symm
      obtain rfl : fn = Tryd.f4 := (Option.some.inj (Tryd.func4.symm.trans hfn)).symm
      exact ⟨by kernel_rfl, fun j t ht => by
        rw [Tryd.params4] at ht
        have h3 : t = 23 := by
          rcases j with _ | j
          · simpa using ht.symm
          · simp at ht
        subst h3
        exact (show Tryd.prog.wantsStandIn 23 = false by kernel_rfl)⟩)
    (by kernel_rfl)
#print axioms fnExactLengthOf_holds
end Go.Proofs.YtgmnihofkpjboaaDoor
