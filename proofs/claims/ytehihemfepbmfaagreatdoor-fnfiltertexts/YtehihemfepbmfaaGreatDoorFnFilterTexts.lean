/-
  PROVED: for every code of bytes the law FnFilterTexts returns true: of a drawn filter, right or not, the program's text and FilterOk are the specification's, and a right one comes back from its text (texts of at most 1000 bytes). Conditions: the row's own (the eleven listed variables read as their initialisers lay them), tied to the program's text by the card.
-/
import Derived.Test.YtehihemfepbmfaaGreatDoorVarsR
import Derived.Test.YtehihemfepbmfaaGreatDoorLawFnFilterTexts
import Derived.Test.YtehihemfepbmfaaGreatDoorCards
import Derived.Test.YtehihemfepbmfaaGreatDoorTie
import Derived.ProofKit
import Derived.Lay
import Derived.ChangeMaps5
import Derived.OpenShut
import Derived.OpenVars
import Derived.ShutString
import Derived.ChangeOld
import Derived.SevenTiedAt
import Derived.LaidMore
import Derived.LaidLaws
namespace Go.Proofs.YtehihemfepbmfaaGreatDoor
set_option linter.unusedSimpArgs false
set_option linter.unusedSectionVars false
open Go.ChangeShapes Go.WideShapes Go.ChangeAt Go.RowKit
open Go.ChangeMaps (open_string shut_string)
set_option linter.unusedVariables false
set_option maxRecDepth 100000 in
theorem Xb7 (os:Os) (started:os.Started) (H:Type) (enc:TypeId×Value→H):
  ReturnsInHanded {} Tryz.checked os 3 .any (fun w args=>(Rows.fnFilterTextsSpec.pre enc Tryz.prog Tryz.f3 [] false w args∧laidMetH Tryz.prog Rows.fnFilterTextsRow.laid w)∧sizedMet enc Tryz.prog Tryz.f3 (OpenSpec.ofChange Rows.fnFilterTextsSpec) false w args)
   (Rows.fnFilterTextsSpec.post enc Tryz.prog Tryz.f3 false true false false):=by
 refine returnsInHanded_of_change_and (C:=Tryz.checked) (X:=fun w _=>laidMetH Tryz.prog Rows.fnFilterTextsRow.laid w) (fun _ _ _ hh h=>h.of_heap hh) Xx1 started (by kernel_rfl) Tryz.func3
  (ChangeSpec.witness_shaped (enc := enc) (C := Tryz.checked) (os := os) (X := fun w _ => laidMetH Tryz.prog Rows.fnFilterTextsRow.laid w) false (World.laidAll Tryz.prog os Rows.fnFilterTextsRow.laid) #[.slice none 0 0] 8 (World.laidAll_os _ _ _)
   (World.shaped_of_ZipB (by kernel_rfl) (by kernel_rfl)) (by kernel_rfl) (by kernel_rfl) (by kernel_rfl)
   (by rw[MakeChecks.laidMetH_plain _ _ _ (by kernel_rfl)];exact laidMet_laidAll _ (by kernel_rfl) (by kernel_rfl))) ?_
 intro W base args ds gs before hval0 hW _ _ hL0 _
 have hL:laidMetH Tryz.prog Rows.fnFilterTextsRow.laid W:=hL0
 rw[MakeChecks.laidMetH_plain _ _ _ (by kernel_rfl)] at hL
 have hval:∀(j:Nat) t v,Tryz.f3.params[j]? =some t→args[j]? =some v→Value.okWide Tryz.prog W .any base t v:=hval0
 have hW':=hW
 obtain ⟨p,q,hA0,hV,rfl,hfz,hnd⟩:=hW
 have hA:DataW.TrodAll enc Tryz.prog W 0 (fun _=>true) true Tryz.f3.params.toList args.toList ds p:=hA0
 rw[Tryz.params3] at hA hval
 obtain ⟨v0,d0,rfl,rfl,h0⟩:=trodAll_one hA
 have hV1 : DataW.TrodVars enc Tryz.prog W (fun _ => true) ["loop.example/g00345/impl.joints", "loop.example/g00345/impl.words"] gs q := hV
 have hV2:=hV1
 obtain ⟨g0,t0,cs0,u0,e0,r0,g1,t1,cs1,u1,e1,r1,rfl,_⟩:=trodVars_two hV2
 obtain ⟨a0,Xcx,cap0,rfl⟩:=okWide_slice Tryz.underlying22 (hval 0 22 v0 rfl rfl)
 have k0:=h0
 have lt0:∀x∈p,x.block<W.heap.size:=by obtain ⟨m,hm⟩:=k0;exact DataW.trod_lt m _ _ _ hm
 obtain ⟨n,w0⟩:∃n,Xf6 W (.slice a0 Xcx cap0) n:=by
  obtain ⟨fuel,hf⟩:=h0
  exact Xsl (by simpa [Value.cells] using hf)
 clear hA0 hval0
 refine (Xbv (.slice a0 Xcx cap0) n W w0 (Xt3 hL (by simp[Rows.fnFilterTextsRow]) (by simp[Rows.fnFilterTextsRow]) (by simp[Rows.fnFilterTextsRow]) (by simp[Rows.fnFilterTextsRow]) (by simp[Rows.fnFilterTextsRow]) (by simp[Rows.fnFilterTextsRow]))).mono fun e W' ⟨he,bel⟩=> ?_
 subst he
 exact ⟨_,rfl,_,_,_,[],_,_,hW',trodAll_mk1 (shut_bool Tryz.underlying4 _),trodAll_mk1 (Below.trod Xe3 (by kernel_rfl) (of_decide_eq_true (by kernel_rfl)) k0 bel lt0),Below.trodVars Xe3 bel (by kernel_rfl) hV1,bel.frame _,fun h=>by cases h⟩
theorem Xd2:Rows.FnFilterTextsSaid:=
 OpenClaim.holds_of_wide 3 Tryz.f3 rfl rfl rfl rfl rfl rfl rfl ⟨rfl,rfl,rfl,rfl,rfl⟩ rfl rfl rfl rfl rfl (by kernel_rfl) Tryz.func3 (by kernel_rfl)
  (of_decide_eq_true (by kernel_rfl)) (by unfold Func.isWrapper;first|(rw[if_pos (by decide+kernel)];kernel_rfl)|(rw[if_neg (by decide+kernel)];exact ⟨rfl,rfl⟩))
  (fun os started H enc _=>Xb7 os started H enc)
theorem fnFilterTexts_holds:Rows.FnFilterTextsCardSaid:=
 Claim7.holds_tied_plain_at .later [] [.data, .data, .data, .data, .sentinel, .sentinel, .listed, .data, .data, .data, .pinned] true (true, "f82034209be3bb5813f69ba8894dacfe07c8a99007b931c553cb6568e8e06c20") true
  Xd2 (fun _ h=>by cases h) (by kernel_rfl) (fun _ h=>by cases h) fnFilterTexts_row_tie rfl ⟨rfl,rfl⟩ (by kernel_rfl) rfl
  (fun f fn hf hfn => by
   obtain rfl : f = 3 := Option.some.inj ((show Tryz.prog.funcNamed "loop.example/g00345/laws.FnFilterTexts" = some 3 by kernel_rfl).symm.trans hf) |>.symm
   obtain rfl:fn=Tryz.f3:=(Option.some.inj (Tryz.func3.symm.trans hfn)).symm
   exact ⟨by kernel_rfl,fun j t ht=>by
    rw[Tryz.params3] at ht
    have h3:t=22:=by
     rcases j with _|j
     ·simpa using ht.symm
     ·simp at ht
    subst h3
    exact (show Tryz.prog.wantsStandIn 22=false by kernel_rfl)⟩)
  (by kernel_rfl)
#print axioms fnFilterTexts_holds
end Go.Proofs.YtehihemfepbmfaaGreatDoor
