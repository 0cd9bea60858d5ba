/-
  PROVED: for every code of bytes the law FnCounted returns true: a drawn list, or map, has as many keys as its length says, and its parts are each outcome of ".[]". Conditions: the row's own (the sixteen listed variables read as their initialisers lay them), tied to the program's text by the card.
-/
import Derived.Test.YtcidjhnogldgmaaGreatDoorVarsK
import Derived.Test.YtcidjhnogldgmaaGreatDoorLawCnt
import Derived.Test.YtcidjhnogldgmaaGreatDoorCards
import Derived.Test.YtcidjhnogldgmaaGreatDoorTie
import Derived.ProofKit
import Derived.Lay
import Derived.ChangeMaps5
import Derived.OpenShut
import Derived.OpenVars
import Derived.ShutString
import Derived.ChangeOld
import Derived.SevenTiedAt
import Derived.LaidMore
import Derived.LaidLaws
namespace Go.Proofs.YtcidjhnogldgmaaGreatDoor
open Go.ChangeShapes Go.WideShapes Go.ChangeAt Go.RowKit
open Go.ChangeMaps (open_string shut_string)
set_option linter.unusedVariables false
theorem laidMet_over {P : Program} {w0 : World} {laid : List (String × DataW Unit)} (args : Array Value) (hf : w0.layFits P laid [] = true) (hi : w0.layIfaces P laid (w0.layVars P laid) = true) : laidMet P laid ((w0.layVars P laid).forCall (fun _ _ => 0) ⟨#[], args, []⟩).memory := by
  have e1 : (laid.filter fun x => (laid.map (·.1)).contains x.1) = laid := List.filter_eq_self.2 fun x hx => List.contains_iff_mem.2 (List.mem_map.2 ⟨x, hx, rfl⟩)
  have e2 : (laid.filter fun x => !(laid.map (·.1)).contains x.1) = [] := List.filter_eq_nil_iff.2 fun x hx => by rw [List.contains_iff_mem.2 (List.mem_map.2 ⟨x, hx, rfl⟩)]; simp
  have h : laidMet P laid (w0.layVars P laid) := laidMet_layVars (w0 := w0) (laid.map (·.1)) [] (by rw [e1]) (by rw [e1]; exact hf) (by rw [e1]; exact hi) (by rw [e2]; exact LaidIn.none)
  exact h.of_heap (by simp [World.memory, World.forCall, Input.heap])
noncomputable def cntW (os : Os) : World := ((World.holding Tryz.prog os ⟨#[], #[], []⟩).setCell ⟨4, 0, none⟩ (.iface 167 (.agg #[.pointer (some ⟨18, 47, none⟩)]))).layVars Tryz.prog (List.filter (fun x => x.snd.handleName?.isNone) Rows.fnCountedRow.laid)
theorem cntW_os (os : Os) : (cntW os).os = os := World.layVars_os _ _ _
set_option maxRecDepth 100000 in
theorem fnCounted_met (os : Os) (args : Array Value) : laidMetH Tryz.prog Rows.fnCountedRow.laid ((cntW os).forCall (fun _ _ => 0) ⟨#[], args, []⟩).memory :=
  laidMetH_of_parts3 (fuel := 8) (laidMet_over _ (by kernel_rfl) (by kernel_rfl)) (by kernel_rfl) (by kernel_rfl)
set_option maxRecDepth 100000 in
theorem fnCounted_lifted (os : Os) (started : os.Started) (H : Type) (enc : TypeId × Value → H) :
    ReturnsInHanded {} Tryz.checked os 3 .any (fun w args => (Rows.fnCountedSpec.pre enc Tryz.prog Tryz.f3 [] false w args ∧ laidMetH Tryz.prog Rows.fnCountedRow.laid w) ∧ sizedMet enc Tryz.prog Tryz.f3 (OpenSpec.ofChange Rows.fnCountedSpec) false w args)
      (Rows.fnCountedSpec.post enc Tryz.prog Tryz.f3 false true false false) := by
  refine returnsInHanded_of_change_and (C := Tryz.checked) (X := fun w _ => laidMetH Tryz.prog Rows.fnCountedRow.laid w) (fun _ _ _ hh h => h.of_heap hh) js_own started (by kernel_rfl) Tryz.func3
    (ChangeSpec.witness_shaped (enc := enc) (C := Tryz.checked) (os := os) (X := fun w _ => laidMetH Tryz.prog Rows.fnCountedRow.laid w) false (cntW os) #[.slice none 0 0] 8 (cntW_os os) (World.shaped_of_ZipB (by kernel_rfl) (by kernel_rfl)) (by kernel_rfl) (by kernel_rfl) (by kernel_rfl) (fnCounted_met os _)) ?_
  intro W base args ds gs before hval0 hW _ _ hL0 _
  have hL : laidMet Tryz.prog [("math/bits.deBruijn32tab", Rows.laid_math_bits_deBruijn32tab), ("math/bits.deBruijn64tab", Rows.laid_math_bits_deBruijn64tab), ("internal/strconv.uint64pow10", Rows.laid_internal_strconv_uint64pow10), ("unicode/utf8.acceptRanges", Rows.laid_unicode_utf8_acceptRanges), ("strconv.ErrRange", Rows.laid_strconv_ErrRange), ("strconv.ErrSyntax", Rows.laid_strconv_ErrSyntax), ("unicode.White_Space", Rows.laid_unicode_White_Space), ("strings.asciiSpace", Rows.laid_strings_asciiSpace), ("loop.example/g00345/impl.joints", Rows.laid_loop_example_g00345_impl_joints), ("loop.example/g00345/impl.words", Rows.laid_loop_example_g00345_impl_words), ("loop.example/g00345/impl.errKind", Rows.laid_loop_example_g00345_impl_errKind), ("loop.example/g00345/impl.errNotRight", Rows.laid_loop_example_g00345_impl_errNotRight), ("loop.example/g00345/impl.errManyOuts", Rows.laid_loop_example_g00345_impl_errManyOuts), ("loop.example/g00345/impl.errNoFuel", Rows.laid_loop_example_g00345_impl_errNoFuel), ("unicode/utf8.first", Rows.laid_unicode_utf8_first)] W ∧ handlesMet Tryz.prog [("errors.errorType", Rows.laid_errors_errorType)] W := hL0
  have hval : ∀ (j : Nat) t v, Tryz.f3.params[j]? = some t → args[j]? = some v → Value.okWide Tryz.prog W .any base t v := hval0
  have hW' := hW
  obtain ⟨p, q, hA0, hV, rfl, hfz, hnd⟩ := hW
  have hA : DataW.TrodAll enc Tryz.prog W 0 (fun _ => true) true Tryz.f3.params.toList args.toList ds p := hA0
  rw [Tryz.params3] at hA hval
  obtain ⟨v0, d0, rfl, rfl, h0⟩ := trodAll_one hA
  have hV1 : DataW.TrodVars enc Tryz.prog W (fun _ => true) ["loop.example/g00345/impl.errKind", "loop.example/g00345/impl.joints", "loop.example/g00345/impl.words", "loop.example/g00345/impl.errNoFuel", "loop.example/g00345/impl.errManyOuts", "loop.example/g00345/impl.errNotRight"] gs q := hV
  obtain ⟨u1, u2, u3, u4, u5, u6, rfl⟩ : ∃ a b c d e f, gs = [a, b, c, d, e, f] := by
    have hl := trodVars_len hV1
    match gs, hl with
    | [a, b, c, d, e, f], _ => exact ⟨a, b, c, d, e, f, rfl⟩
  have hE : Errs4 W := (ev_errs4r (laid_drop1 (laid_drop1 (laid_drop1 (laid_drop1 (laid_drop1 (laid_drop1 (laid_drop1 (laid_drop1 (laid_drop1 (laid_drop1 hL.1)))))))))) hL.2).1
  obtain ⟨a0, len0, cap0, rfl⟩ := okWide_slice Tryz.underlying22 (hval 0 22 v0 rfl rfl)
  have k0 := h0
  have lt0 : ∀ x ∈ p, x.block < W.heap.size := by obtain ⟨m, hm⟩ := k0; exact DataW.trod_lt m _ _ _ hm
  obtain ⟨n, w0⟩ : ∃ n, RawCode W (.slice a0 len0 cap0) n := by
    obtain ⟨fuel, hf⟩ := h0
    exact raw_code (by simpa [Value.cells] using hf)
  clear hA0 hval0
  refine (lawFnCounted_walk (.slice a0 len0 cap0) n W w0 (rv_tabsR hL.1 (by simp) (by simp) (by simp) (by simp) (by simp) (by simp)) hE).mono fun e W' ⟨he, bel⟩ => ?_
  subst he
  exact ⟨_, rfl, _, _, _, [], _, _, hW', trodAll_mk1 (shut_bool Tryz.underlying4 _), trodAll_mk1 (Below.trod js_laidOut (by kernel_rfl) (of_decide_eq_true (by kernel_rfl)) k0 bel lt0), Below.trodVars js_laidOut bel (by kernel_rfl) hV1, bel.frame _, fun h => by cases h⟩
theorem fnCounted_row : Rows.FnCountedSaid :=
  OpenClaim.holds_of_wide 3 Tryz.f3 rfl rfl rfl rfl rfl rfl rfl ⟨rfl, rfl, rfl, rfl, rfl⟩ rfl rfl rfl rfl rfl (by kernel_rfl) Tryz.func3 (by kernel_rfl)
    (of_decide_eq_true (by kernel_rfl)) (by unfold Func.isWrapper; first | (rw [if_pos (by decide +kernel)]; kernel_rfl) | (rw [if_neg (by decide +kernel)]; exact ⟨rfl, rfl⟩))
    (fun os started H enc _ => fnCounted_lifted os started H enc)
theorem fnCounted_holds : Rows.FnCountedCardSaid :=
  Claim7.holds_tied_plain_at .later [] [.data, .data, .data, .data, .handle, .sentinel, .sentinel, .listed, .data, .data, .data, .sentinel, .sentinel, .sentinel, .sentinel, .pinned] true (true, "123d081167ded095287cbf4c23bc1b6172f1f94baca16c27861b901f633fd8bb") true
    fnCounted_row (fun _ h => by cases h) (by kernel_rfl) (fun _ h => by cases h) fnCounted_row_tie rfl ⟨rfl, rfl⟩ (by kernel_rfl) rfl
    (fun f fn hf hfn => by
      obtain rfl : f = 3 := Option.some.inj ((show Tryz.prog.funcNamed "loop.example/g00345/laws.FnCounted" = some 3 by kernel_rfl).symm.trans hf) |>.symm
      obtain rfl : fn = Tryz.f3 := (Option.some.inj (Tryz.func3.symm.trans hfn)).symm
      exact ⟨by kernel_rfl, fun j t ht => by
        rw [Tryz.params3] at ht
        have h3 : t = 22 := by
          rcases j with _ | j
          · simpa using ht.symm
          · simp at ht
        subst h3
        exact (show Tryz.prog.wantsStandIn 22 = false by kernel_rfl)⟩)
    (by kernel_rfl)
#print axioms fnCounted_holds
end Go.Proofs.YtcidjhnogldgmaaGreatDoor
