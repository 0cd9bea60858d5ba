/-
  PROVED: for every list of nodes the law FnExactLengthOf returns true: the program's LengthOf answers as the specification's, writes into no argument, and its answer owns its memory. Conditions: the row's own (the two listed variables read as their initialisers lay them), tied to the program's text by the card.
-/
import Derived.Test.YtbcbcmbheglfhaaDoorVarsE
import Derived.Test.YtbcbcmbheglfhaaDoorLawLengthOf
import Derived.Test.YtbcbcmbheglfhaaDoorOpen
import Derived.Test.YtbcbcmbheglfhaaDoorCards
import Derived.Test.YtbcbcmbheglfhaaDoorTie
import Derived.SevenTiedAt
namespace Go.Proofs.YtbcbcmbheglfhaaDoor
open Go.ChangeShapes Go.WideShapes Go.ChangeAt Go.RowKit
set_option linter.unusedVariables false

theorem len_met (os : Os) (args : Array Value) : laidMetH Tryd.prog Rows.fnExactLengthOfRow.laid ((World.doorLaid Tryd.prog 400 os).forCall (fun _ _ => 0) ⟨#[], args, []⟩).memory :=
  laidMetH_of_parts3 (fuel := 8) (laidMet_of_run' 8 (by kernel_rfl) (by kernel_rfl)) (by kernel_rfl) (by kernel_rfl)

set_option maxRecDepth 100000 in
theorem len_lifted (os : Os) (started : os.Started) (H : Type) (enc : TypeId × Value → H) :
    ReturnsInHanded {} Tryd.checked os 3 .any (fun w args => (Rows.fnExactLengthOfSpec.pre enc Tryd.prog Tryd.f3 [] false w args ∧ laidMetH Tryd.prog Rows.fnExactLengthOfRow.laid w) ∧ sizedMet enc Tryd.prog Tryd.f3 (OpenSpec.ofChange Rows.fnExactLengthOfSpec) false w args)
      (Rows.fnExactLengthOfSpec.post enc Tryd.prog Tryd.f3 false true false false) := by
  refine returnsInHanded_of_change_and (C := Tryd.checked) (X := fun w _ => laidMetH Tryd.prog Rows.fnExactLengthOfRow.laid w) (fun _ _ _ hh h => h.of_heap hh) ev_own started (by kernel_rfl) Tryd.func3
    (ChangeSpec.witness_shaped (enc := enc) (C := Tryd.checked) (os := os) (X := fun w _ => laidMetH Tryd.prog Rows.fnExactLengthOfRow.laid w) false (World.doorLaid Tryd.prog 400 os) #[.slice none 0 0] 8 rfl (World.shaped_of_RefB (by kernel_rfl) (by kernel_rfl)) (by kernel_rfl) (by kernel_rfl) (by kernel_rfl) (len_met os _)) ?_
  intro W base args ds gs before hval0 hW _ _ hL _
  have hval : ∀ (j : Nat) t v, Tryd.f3.params[j]? = some t → args[j]? = some v → Value.okWide Tryd.prog W .any base t v := hval0
  have hW' := hW
  obtain ⟨p, q, hA0, hV0, rfl, hfz, hnd⟩ := hW
  have hA : DataW.TrodAll enc Tryd.prog W 0 (fun _ => true) true Tryd.f3.params.toList args.toList ds p := hA0
  have hV : DataW.TrodVars enc Tryd.prog W (fun _ => true) ["loop.example/g00345/impl.errKind"] gs q := hV0
  rw [Tryd.params3] at hA hval
  obtain ⟨v0, vs0, d0, ds0, p0, q0, hargs, rfl, rfl, h0, r0⟩ := trodAll_cons hA
  obtain ⟨rfl, rfl, rfl⟩ := trodAll_nil r0
  obtain rfl : args = #[v0] := by cases args; simp_all
  have hL2 : laidMet Tryd.prog [("loop.example/g00345/impl.errKind", Rows.laid_loop_example_g00345_impl_errKind)] W ∧ handlesMet Tryd.prog [("errors.errorType", Rows.laid_errors_errorType)] W := hL
  have hET := ev_handle hL2.2
  obtain ⟨a1, s1, hv1, hc1, hs1, hz1⟩ := laid_sentinel hL2.1 ev_gk ev_gkType Tryd.underlying45 ev_row Tryd.underlying118 Tryd.underlying140 rfl rfl Tryd.underlying9 ev_cellsE ev_cellsS
  obtain ⟨rfl, rfl⟩ := hV.unique (Go.vars_read1 enc ev_gk ev_gkType Tryd.underlying45 hv1 trivial _)
  have hg1 : W.cell? ⟨0, 0, none⟩ = some (.iface 118 (.pointer (some a1))) := by simpa using World.var?_cell ev_gk hv1 0
  obtain ⟨a0, len0, cap0, rfl⟩ := okWide_slice Tryd.underlying22 (hval 0 22 v0 rfl rfl)
  have k0 := h0
  have lt0 : ∀ x ∈ p0, x.block < W.heap.size := by obtain ⟨m, hm⟩ := k0; exact DataW.trod_lt m _ _ _ hm
  obtain ⟨us, w0⟩ : ∃ us, RawNodes W.heap.size W (.slice a0 len0 cap0) us := by
    obtain ⟨fuel, hf⟩ := h0
    exact raw_nodes (by simpa [Value.cells] using hf)
  clear hA0 hV0 hval0
  have hE : Errs W := ⟨hET, ⟨_, _, hg1⟩⟩
  refine (lawLengthOf_walk (.slice a0 len0 cap0) us W w0 hE).mono fun e W' ⟨he, bel⟩ => ?_
  subst he
  exact ⟨_, rfl, _, _, _, [], _, [.cell 0 0], hW', trodAll_mk1 (shut_bool Tryd.underlying4 _), (trodAll_cons_mk (Below.trod ev_laidOut (by kernel_rfl) (of_decide_eq_true (by kernel_rfl)) k0 bel lt0) trodAll_mk0), Go.vars_read1 enc ev_gk ev_gkType Tryd.underlying45 (ev_var_below bel ev_gk (cell_lt hg1) hv1) trivial _, bel.frame _, fun h => by cases h⟩

theorem fnExactLengthOf_row : Rows.FnExactLengthOfSaid :=
  OpenClaim.holds_of_wide 3 Tryd.f3 rfl rfl rfl rfl rfl rfl rfl ⟨rfl, rfl, rfl, rfl, rfl⟩ rfl rfl rfl rfl rfl (by kernel_rfl) Tryd.func3 (by kernel_rfl)
    (of_decide_eq_true (by kernel_rfl)) (by unfold Func.isWrapper; first | (rw [if_pos (by decide +kernel)]; kernel_rfl) | (rw [if_neg (by decide +kernel)]; exact ⟨rfl, rfl⟩))
    (fun os started H enc _ => len_lifted os started H enc)

theorem fnExactLengthOf_holds : Rows.FnExactLengthOfCardSaid :=
  Claim7.holds_tied_plain_at .later [] [.handle, .sentinel] true (true, "eeecb3038b14473f0ca79a108342ad5a333a062b9c99db901bbc466518fa76b3") true
    fnExactLengthOf_row (fun _ h => by cases h) (by kernel_rfl) (fun _ h => by cases h) fnExactLengthOf_row_tie rfl ⟨rfl, rfl⟩ (by kernel_rfl) rfl
    (fun f fn hf hfn => by
      obtain rfl : f = 3 := Option.some.inj ((show Tryd.prog.funcNamed "loop.example/g00345/laws.FnExactLengthOf" = some 3 by kernel_rfl).symm.trans hf) |>.symm
      obtain rfl : fn = Tryd.f3 := (Option.some.inj (Tryd.func3.symm.trans hfn)).symm
      exact ⟨by kernel_rfl, fun j t ht => by
        rw [Tryd.params3] at ht
        have h3 : t = 22 := by
          rcases j with _ | j
          · simpa using ht.symm
          · simp at ht
        subst h3
        exact (show Tryd.prog.wantsStandIn 22 = false by kernel_rfl)⟩)
    (by kernel_rfl)
#print axioms fnExactLengthOf_holds
end Go.Proofs.YtbcbcmbheglfhaaDoor
