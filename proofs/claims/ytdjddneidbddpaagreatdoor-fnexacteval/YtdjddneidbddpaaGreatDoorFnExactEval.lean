/-
  PROVED: for every filter, list of nodes and amount of fuel the law FnExactEval returns true: the program's Eval answers as the specification's, writes into no argument, and its answer owns its memory. Conditions: the row's own (the five listed variables read as their initialisers lay them), tied to the program's text by the card.
-/
import Derived.Test.YtdjddneidbddpaaGreatDoorVarsE4
import Derived.Test.YtdjddneidbddpaaGreatDoorLawExactEval
import Derived.Test.YtdjddneidbddpaaGreatDoorOpen
import Derived.Test.YtdjddneidbddpaaGreatDoorCards
import Derived.Test.YtdjddneidbddpaaGreatDoorTie
import Derived.SevenTiedAt
namespace Go.Proofs.YtdjddneidbddpaaGreatDoor
set_option linter.unusedSimpArgs false
set_option linter.unusedSectionVars false
set_option maxRecDepth 100000
open Go.ChangeShapes Go.WideShapes Go.ChangeAt Go.RowKit
set_option linter.unusedVariables false
theorem Xzu (os:Os) (args:Array Value):laidMetH Tryz.prog Rows.fnExactEvalRow.laid ((World.doorLaid Tryz.prog 400 os).forCall (fun _ _=>0) ⟨#[],args,[]⟩).memory:=
 laidMetH_of_parts3 (fuel:=8) (laidMet_of_run' 8 (by kernel_rfl) (by kernel_rfl)) (by kernel_rfl) (by kernel_rfl)
theorem Xqp (os:Os) (started:os.Started) (H:Type) (enc:TypeId×Value->H):
  ReturnsInHanded {} Tryz.checked os 4 .any (fun w args=>(Rows.fnExactEvalSpec.pre enc Tryz.prog Tryz.f4 [] false w args/\laidMetH Tryz.prog Rows.fnExactEvalRow.laid w)/\sizedMet enc Tryz.prog Tryz.f4 (OpenSpec.ofChange Rows.fnExactEvalSpec) false w args)
   (Rows.fnExactEvalSpec.post enc Tryz.prog Tryz.f4 false true false false):=by
 refine returnsInHanded_of_change_and (C:=Tryz.checked) (X:=fun w _=>laidMetH Tryz.prog Rows.fnExactEvalRow.laid w) (fun _ _ _ hh h=>h.of_heap hh) X3y started (by kernel_rfl) Tryz.func4
  (ChangeSpec.witness_shaped (enc:=enc) (C:=Tryz.checked) (os:=os) (X:=fun w _=>laidMetH Tryz.prog Rows.fnExactEvalRow.laid w) false (World.doorLaid Tryz.prog 400 os) #[.slice none 0 0, .slice none 0 0, .int .i64 0] 8 rfl (World.shaped_of_RefB (by kernel_rfl) (by kernel_rfl)) (by kernel_rfl) (by kernel_rfl) (by kernel_rfl) (Xzu os _)) ?_
 intro W z args ds gs L c hW _ _ hL _
 have b:∀(j:Nat) t v,Tryz.f4.params[j]? =some t->args[j]? =some v->Value.okWide Tryz.prog W .any z t v:=c
 have R:=hW
 obtain ⟨p,q,B,D,rfl,bc,bd⟩:=hW
 have hA:DataW.TrodAll enc Tryz.prog W 0 (fun _=>true) true Tryz.f4.params.toList args.toList ds p:=B
 have hV : DataW.TrodVars enc Tryz.prog W (fun _ => true) ["loop.example/g00345/impl.errNoFuel", "loop.example/g00345/impl.errManyOuts", "loop.example/g00345/impl.errKind", "loop.example/g00345/impl.errNotRight"] gs q := D
 rw[Tryz.params4] at hA b
 obtain ⟨v0,be,d0,bf,p0,q0,S,rfl,rfl,h0,r0⟩:=trodAll_cons hA
 obtain ⟨v1,bg,d1,bh,p1,q1,M,rfl,rfl,h1,r1⟩:=trodAll_cons r0
 obtain ⟨v2,bi,d2,bj,p2,q2,P,rfl,rfl,h2,r2⟩:=trodAll_cons r1
 obtain ⟨rfl,rfl,rfl⟩:=trodAll_nil r2
 obtain rfl:args= #[v0,v1,v2]:=by cases args;simp_all
 have F : laidMet Tryz.prog [("loop.example/g00345/impl.errKind", Rows.laid_loop_example_g00345_impl_errKind), ("loop.example/g00345/impl.errNotRight", Rows.laid_loop_example_g00345_impl_errNotRight), ("loop.example/g00345/impl.errManyOuts", Rows.laid_loop_example_g00345_impl_errManyOuts), ("loop.example/g00345/impl.errNoFuel", Rows.laid_loop_example_g00345_impl_errNoFuel)] W /\ handlesMet Tryz.prog [("errors.errorType", Rows.laid_errors_errorType)] W := hL
 obtain ⟨hE,x0,x1,x2,x3,l,o,s,y⟩:=Xzp F.1 F.2
 obtain ⟨rfl,rfl⟩:=hV.unique (Xm8 enc l o s y _)
 obtain ⟨a0,Xe3,d,rfl⟩:=okWide_slice Tryz.underlying33 (b 0 33 v0 rfl rfl)
 obtain ⟨a1,f,g,rfl⟩:=okWide_slice Tryz.underlying34 (b 1 34 v1 rfl rfl)
 obtain ⟨n2,rfl,_,_,T⟩:=open_int Tryz.underlying2 (b 2 2 v2 rfl rfl) h2
 obtain ⟨V,Y⟩:=Xck T
 have k0:=h0
 have k1:=h1
 have k2:=h2
 have Z:∀x∈p2,x.block<W.heap.size:=by obtain ⟨m,G⟩:=k2;exact DataW.trod_lt m _ _ _ G
 have ba:∀x∈p0,x.block<W.heap.size:=by obtain ⟨m,G⟩:=k0;exact DataW.trod_lt m _ _ _ G
 have bb:∀x∈p1,x.block<W.heap.size:=by obtain ⟨m,G⟩:=k1;exact DataW.trod_lt m _ _ _ G
 obtain ⟨us,w0⟩:∃us,RawFNodes W.heap.size W (.slice a0 Xe3 d) us:=by
  obtain ⟨J,hf⟩:=h0
  exact Xur (by simpa [Value.cells] using hf)
 obtain ⟨vs,w1⟩:∃vs,RawNodes W.heap.size W (.slice a1 f g) vs:=by
  obtain ⟨J,hf⟩:=h1
  exact Xlj (by simpa [Value.cells] using hf)
 clear B D c
 refine (Xp8 (.slice a0 Xe3 d) (.slice a1 f g) us vs n2 W w0 w1 hE V Y).mono fun e W' ⟨he,bel⟩=> ?_
 subst he
 exact ⟨_,rfl,_,_,_,[],_,[.cell 0 0, .cell 1 0, .cell 3 0, .cell 4 0],R,trodAll_mk1 (shut_bool Tryz.underlying4 _),(trodAll_cons_mk (Below.trod Xc6 (by kernel_rfl) (of_decide_eq_true (by kernel_rfl)) k0 bel ba) (trodAll_cons_mk (Below.trod Xc6 (by kernel_rfl) (of_decide_eq_true (by kernel_rfl)) k1 bel bb) (trodAll_cons_mk (Below.trod Xc6 (by kernel_rfl) (of_decide_eq_true (by kernel_rfl)) k2 bel Z) trodAll_mk0))),Xm8 enc (Uk bel Xfz (X7 (Xbn l)) l) (Uk bel Xme (X7 (Xnb o)) o) (Uk bel Xmc (X7 (Xm6 s)) s) (Uk bel Xmd (X7 (Xm7 y)) y) _,bel.frame _,fun h=>by cases h⟩
theorem Xh8:Rows.FnExactEvalSaid:=
 OpenClaim.holds_of_wide 4 Tryz.f4 rfl rfl rfl rfl rfl rfl rfl ⟨rfl,rfl,rfl,rfl,rfl⟩ rfl rfl rfl rfl rfl (by kernel_rfl) Tryz.func4 (by kernel_rfl)
  (of_decide_eq_true (by kernel_rfl)) (by unfold Func.isWrapper;first|(rw[if_pos (by decide+kernel)];kernel_rfl)|(rw[if_neg (by decide+kernel)];exact ⟨rfl,rfl⟩))
  (fun os started H enc _=>Xqp os started H enc)
theorem fnExactEval_holds:Rows.FnExactEvalCardSaid:=
 Claim7.holds_tied_plain_at .later [] [.handle, .sentinel, .sentinel, .sentinel, .sentinel] true (true, "b3185b90d498cefca07a50a17dd266252de176b5de33e89e8944415be6b9b9cc") true
  Xh8 (fun _ h=>by cases h) (by kernel_rfl) (fun _ h=>by cases h) fnExactEval_row_tie rfl ⟨rfl,rfl⟩ (by kernel_rfl) rfl
  (fun f fn hf hfn => by
   obtain rfl : f = 4 := Option.some.inj ((show Tryz.prog.funcNamed "loop.example/g00345/laws.FnExactEval" = some 4 by kernel_rfl).symm.trans hf) |>.symm
   obtain rfl:fn=Tryz.f4:=(Option.some.inj (Tryz.func4.symm.trans hfn)).symm
   exact ⟨by kernel_rfl,fun j t ht=>by
    rw[Tryz.params4] at ht
    have b:t=33\/t=34\/t=2:=by
     rcases j with _|_|_|j
     ·exact .inl (by simpa using ht.symm)
     ·exact .inr (.inl (by simpa using ht.symm))
     ·exact .inr (.inr (by simpa using ht.symm))
     ·simp at ht
    rcases b with b|b|b
    ·subst b;exact (show Tryz.prog.wantsStandIn 33=false by kernel_rfl)
    ·subst b;exact (show Tryz.prog.wantsStandIn 34=false by kernel_rfl)
    ·subst b;exact (show Tryz.prog.wantsStandIn 2=false by kernel_rfl)⟩)
  (by kernel_rfl)
#print axioms fnExactEval_holds
end Go.Proofs.YtdjddneidbddpaaGreatDoor
