import Derived.Test.YtdjddneidbddpaaGreatDoorVarsE4
import Derived.Test.YtdjddneidbddpaaGreatDoorLawExactEval
import Derived.Test.YtdjddneidbddpaaGreatDoorOpen
import Derived.Test.YtdjddneidbddpaaGreatDoorCards
import Derived.Test.YtdjddneidbddpaaGreatDoorTie
import Derived.SevenTiedAt
namespace Go.Proofs.YtdjddneidbddpaaGreatDoor
set_option linter.unusedSimpArgs false
set_option linter.unusedSectionVars false
open Go.ChangeShapes Go.WideShapes Go.ChangeAt Go.RowKit
set_option linter.unusedVariables false
theorem Xz2 (os:Os) (args:Array Value):laidMetH Tryz.prog Rows.fnExactEvalRow.laid ((World.doorLaid Tryz.prog 400 os).forCall (fun _ _=>0) ⟨#[],args,[]⟩).memory:=
 laidMetH_of_parts3 (fuel:=8) (laidMet_of_run' 8 (by kernel_rfl) (by kernel_rfl)) (by kernel_rfl) (by kernel_rfl)
set_option maxRecDepth 100000 in
theorem Xq7 (os:Os) (started:os.Started) (H:Type) (enc:TypeId×Value→H):
  ReturnsInHanded {} Tryz.checked os 4 .any (fun w args=>(Rows.fnExactEvalSpec.pre enc Tryz.prog Tryz.f4 [] false w args∧laidMetH Tryz.prog Rows.fnExactEvalRow.laid w)∧sizedMet enc Tryz.prog Tryz.f4 (OpenSpec.ofChange Rows.fnExactEvalSpec) false w args)
   (Rows.fnExactEvalSpec.post enc Tryz.prog Tryz.f4 false true false false):=by
 refine returnsInHanded_of_change_and (C:=Tryz.checked) (X:=fun w _=>laidMetH Tryz.prog Rows.fnExactEvalRow.laid w) (fun _ _ _ hh h=>h.of_heap hh) X39 started (by kernel_rfl) Tryz.func4
  (ChangeSpec.witness_shaped (enc:=enc) (C:=Tryz.checked) (os:=os) (X:=fun w _=>laidMetH Tryz.prog Rows.fnExactEvalRow.laid w) false (World.doorLaid Tryz.prog 400 os) #[.slice none 0 0, .slice none 0 0, .int .i64 0] 8 rfl (World.shaped_of_RefB (by kernel_rfl) (by kernel_rfl)) (by kernel_rfl) (by kernel_rfl) (by kernel_rfl) (Xz2 os _)) ?_
 intro W base args ds gs before hval0 hW _ _ hL _
 have hval:∀(j:Nat) t v,Tryz.f4.params[j]? =some t→args[j]? =some v→Value.okWide Tryz.prog W .any base t v:=hval0
 have hW':=hW
 obtain ⟨p,q,hA0,hV0,rfl,hfz,hnd⟩:=hW
 have hA:DataW.TrodAll enc Tryz.prog W 0 (fun _=>true) true Tryz.f4.params.toList args.toList ds p:=hA0
 have hV : DataW.TrodVars enc Tryz.prog W (fun _ => true) ["loop.example/g00345/impl.errNoFuel", "loop.example/g00345/impl.errManyOuts", "loop.example/g00345/impl.errKind", "loop.example/g00345/impl.errNotRight"] gs q := hV0
 rw[Tryz.params4] at hA hval
 obtain ⟨v0,vs0,d0,ds0,p0,q0,hargs,rfl,rfl,h0,r0⟩:=trodAll_cons hA
 obtain ⟨v1,vs1,d1,ds1,p1,q1,hargs1,rfl,rfl,h1,r1⟩:=trodAll_cons r0
 obtain ⟨v2,vs2,d2,ds2,p2,q2,hargs2,rfl,rfl,h2,r2⟩:=trodAll_cons r1
 obtain ⟨rfl,rfl,rfl⟩:=trodAll_nil r2
 obtain rfl:args= #[v0,v1,v2]:=by cases args;simp_all
 have hL2 : laidMet Tryz.prog [("loop.example/g00345/impl.errKind", Rows.laid_loop_example_g00345_impl_errKind), ("loop.example/g00345/impl.errNotRight", Rows.laid_loop_example_g00345_impl_errNotRight), ("loop.example/g00345/impl.errManyOuts", Rows.laid_loop_example_g00345_impl_errManyOuts), ("loop.example/g00345/impl.errNoFuel", Rows.laid_loop_example_g00345_impl_errNoFuel)] W ∧ handlesMet Tryz.prog [("errors.errorType", Rows.laid_errors_errorType)] W := hL
 obtain ⟨hE,x0,x1,x2,x3,hv0,hv1,hv2,hv3⟩:=Xzx hL2.1 hL2.2
 obtain ⟨rfl,rfl⟩:=hV.unique (Xnq enc hv0 hv1 hv2 hv3 _)
 obtain ⟨a0,Xfl,cap0,rfl⟩:=okWide_slice Tryz.underlying33 (hval 0 33 v0 rfl rfl)
 obtain ⟨a1,len1,cap1,rfl⟩:=okWide_slice Tryz.underlying34 (hval 1 34 v1 rfl rfl)
 obtain ⟨n2,rfl,_,_,hwf⟩:=open_int Tryz.underlying2 (hval 2 2 v2 rfl rfl) h2
 obtain ⟨hn1,hn2⟩:=Xc3 hwf
 have k0:=h0
 have k1:=h1
 have k2:=h2
 have lt2:∀x∈p2,x.block<W.heap.size:=by obtain ⟨m,hm⟩:=k2;exact DataW.trod_lt m _ _ _ hm
 have lt0:∀x∈p0,x.block<W.heap.size:=by obtain ⟨m,hm⟩:=k0;exact DataW.trod_lt m _ _ _ hm
 have lt1:∀x∈p1,x.block<W.heap.size:=by obtain ⟨m,hm⟩:=k1;exact DataW.trod_lt m _ _ _ hm
 obtain ⟨us,w0⟩:∃us,RawFNodes W.heap.size W (.slice a0 Xfl cap0) us:=by
  obtain ⟨fuel,hf⟩:=h0
  exact Xvb (by simpa [Value.cells] using hf)
 obtain ⟨vs,w1⟩:∃vs,RawNodes W.heap.size W (.slice a1 len1 cap1) vs:=by
  obtain ⟨fuel,hf⟩:=h1
  exact Xlz (by simpa [Value.cells] using hf)
 clear hA0 hV0 hval0
 refine (Xqp (.slice a0 Xfl cap0) (.slice a1 len1 cap1) us vs n2 W w0 w1 hE hn1 hn2).mono fun e W' ⟨he,bel⟩=> ?_
 subst he
 exact ⟨_,rfl,_,_,_,[],_,[.cell 0 0, .cell 1 0, .cell 3 0, .cell 4 0],hW',trodAll_mk1 (shut_bool Tryz.underlying4 _),(trodAll_cons_mk (Below.trod Xdp (by kernel_rfl) (of_decide_eq_true (by kernel_rfl)) k0 bel lt0) (trodAll_cons_mk (Below.trod Xdp (by kernel_rfl) (of_decide_eq_true (by kernel_rfl)) k1 bel lt1) (trodAll_cons_mk (Below.trod Xdp (by kernel_rfl) (of_decide_eq_true (by kernel_rfl)) k2 bel lt2) trodAll_mk0))),Xnq enc (Ut bel Xge (X8 (Xb3 hv0)) hv0) (Ut bel Xmw (X8 (Xnt hv1)) hv1) (Ut bel Xmu (X8 (Xno hv2)) hv2) (Ut bel Xmv (X8 (Xnp hv3)) hv3) _,bel.frame _,fun h=>by cases h⟩
theorem Xin:Rows.FnExactEvalSaid:=
 OpenClaim.holds_of_wide 4 Tryz.f4 rfl rfl rfl rfl rfl rfl rfl ⟨rfl,rfl,rfl,rfl,rfl⟩ rfl rfl rfl rfl rfl (by kernel_rfl) Tryz.func4 (by kernel_rfl)
  (of_decide_eq_true (by kernel_rfl)) (by unfold Func.isWrapper;first|(rw[if_pos (by decide+kernel)];kernel_rfl)|(rw[if_neg (by decide+kernel)];exact ⟨rfl,rfl⟩))
  (fun os started H enc _=>Xq7 os started H enc)
theorem fnExactEval_holds:Rows.FnExactEvalCardSaid:=
 Claim7.holds_tied_plain_at .later [] [.handle, .sentinel, .sentinel, .sentinel, .sentinel] true (true, "b3185b90d498cefca07a50a17dd266252de176b5de33e89e8944415be6b9b9cc") true
  Xin (fun _ h=>by cases h) (by kernel_rfl) (fun _ h=>by cases h) fnExactEval_row_tie rfl ⟨rfl,rfl⟩ (by kernel_rfl) rfl
  (fun f fn hf hfn => by
   obtain rfl : f = 4 := Option.some.inj ((show Tryz.prog.funcNamed "loop.example/g00345/laws.FnExactEval" = some 4 by kernel_rfl).symm.trans hf) |>.symm
   obtain rfl:fn=Tryz.f4:=(Option.some.inj (Tryz.func4.symm.trans hfn)).symm
   exact ⟨by kernel_rfl,fun j t ht=>by
    rw[Tryz.params4] at ht
    have h3:t=33∨t=34∨t=2:=by
     rcases j with _|_|_|j
     ·exact .inl (by simpa using ht.symm)
     ·exact .inr (.inl (by simpa using ht.symm))
     ·exact .inr (.inr (by simpa using ht.symm))
     ·simp at ht
    rcases h3 with h3|h3|h3
    ·subst h3;exact (show Tryz.prog.wantsStandIn 33=false by kernel_rfl)
    ·subst h3;exact (show Tryz.prog.wantsStandIn 34=false by kernel_rfl)
    ·subst h3;exact (show Tryz.prog.wantsStandIn 2=false by kernel_rfl)⟩)
  (by kernel_rfl)
#print axioms fnExactEval_holds
end Go.Proofs.YtdjddneidbddpaaGreatDoor
