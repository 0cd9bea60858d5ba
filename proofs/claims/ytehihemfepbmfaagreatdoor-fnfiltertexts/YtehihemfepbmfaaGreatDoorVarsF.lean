import Derived.Test.YtehihemfepbmfaaGreatDoorVarsJ
import Derived.Test.YtehihemfepbmfaaGreatDoorIFyE
import Derived.Lib.LaidU8
import Derived.OpenShut
namespace Go.Proofs.YtehihemfepbmfaaGreatDoor
set_option linter.unusedSectionVars false
open Go.RowKit
set_option linter.unusedVariables false
set_option linter.unusedSimpArgs false
theorem Xtc {W : World} {l : List (String × DataW Unit)} (h : laidMet Tryz.prog l W) (hm : ("internal/strconv.uint64pow10", Rows.laid_internal_strconv_uint64pow10) ∈ l) : Lib.TabIs Tryz.prog W "internal/strconv.uint64pow10" .u64 Lib.pow10Tab := by
 obtain ⟨g',t',cs,fuel,p,hg',ht',hvar,hd⟩:=Lib.laidMet.reads h hm
 obtain rfl:=Option.some.inj (js_g.symm.trans hg')
 obtain rfl:=Option.some.inj (js_gt.symm.trans ht')
 unfold Lib.TabIs
 rw[Xx2] at hd
 rw[hvar,←Lib.cells_of_tab Tryz.underlying220 Tryz.underlying158 X0a Xx3 hd]
theorem Xyp {k:Nat}:∀{n:Nat} {cs:List Value} {rows:List (List Value)},cs.length=n *k→rows.length=n→(∀i,i<n→(cs.drop (i *k)).take k=rows.getD i [])→cs=rows.flatten:=by
 intro n
 induction n with
 | zero =>
  intro cs rows h1 h2 _
  rw[List.eq_nil_of_length_eq_zero h2,List.eq_nil_of_length_eq_zero (show cs.length=0 by omega)];rfl
 | succ n ih =>
  intro cs rows h1 h2 h3
  match rows,h2 with
  | r :: rows, h2 =>
   have e0:=h3 0 (by omega)
   simp at e0
   have:=ih (cs:=cs.drop k) (rows:=rows) (by rw[List.length_drop,h1,Nat.succ_mul];omega) (by simpa using h2) (fun i hi=>by
    have:=h3 (i+1) (by omega)
    simp only[List.getD_cons_succ] at this
    rw[List.drop_drop,←this]
    congr 2
    rw[Nat.succ_mul];omega)
   rw[List.flatten_cons,←this,←e0,List.take_append_drop]
theorem Xi0 {α:Type} {X:List α} {D:α→DataW Unit} {V:α→List Value} {n k:Nat} {xs:List (DataW Unit×List MemPlace)} {cs:List Value} {T:List Value→Option (DataW Unit×List MemPlace)} (hx1:xs.map (·.1)=X.map D) (hn:X.length=n) (hf:∀i,i<n→T ((cs.drop (i *k)).take k)=xs[i]?)
  (hrow:∀c x p,T c=some (D x,p)→c=V x) (hl:cs.length=n *k):cs=(X.map V).flatten:=by
 have hxl:xs.length=n:=by have:=congrArg List.length hx1;simp at this;omega
 refine Xyp hl (by simpa using hn) (fun i hi=> ?_)
 have h1:=hf i hi
 have h2:i<xs.length:=by omega
 have h2':i<X.length:=by omega
 rw[List.getElem?_eq_getElem h2] at h1
 have h3:(xs[i]).1=D (X[i]):=by
  have:=congrArg (fun l=>l[i]?) hx1
  simpa [h2,h2'] using this
 have h4:xs[i]=(D (X[i]),(xs[i]).2):=by rw[←h3]
 rw[h4] at h1
 rw[hrow _ _ _ h1]
 simp[h2']
def Xm6 (x:Int×List UInt8×Int×Int×Int):DataW Unit:= .agg [.lit (.int .i64 x.1), .lit (.string x.2.1), .lit (.int .i64 x.2.2.1), .lit (.int .i64 x.2.2.2.1), .lit (.int .i64 x.2.2.2.2)]
def Xtd (x:Int×List UInt8×Int×Int×Int):List Value:= [.int .i64 x.1, .string (txt x.2.1), .int .i64 x.2.2.1, .int .i64 x.2.2.2.1, .int .i64 x.2.2.2.2]
def Gr (k:Int):Int×List UInt8×Int×Int×Int:=(k,Zo k,Xp k,Zw k,Yv k)
def jointsX:List (Int×List UInt8×Int×Int×Int):= [Gr 6,Gr 7,Gr 21,Gr 17,Gr 18,Gr 19,Gr 20,Gr 15,Gr 16,Gr 23]
theorem Xp4:(Rows.laid_loop_example_g00345_impl_joints:DataW Unit)= .agg (jointsX.map Xm6):=by rfl
theorem Xvd:Tryz.prog.cellsOf 91=5:=by kernel_rfl
theorem Xyq:Tryz.prog.cellsOf 108=50:=by kernel_rfl
theorem Xve:Tryz.prog.cellsOf 2=1:=by kernel_rfl
theorem Xvf:Tryz.prog.cellsOf 3=1:=by kernel_rfl
theorem Xvg:Tryz.prog.cellsOf 9=1:=by kernel_rfl
theorem txtoF {s:ByteArray} {l:List UInt8} (h:s.data.toList=l):s=txt l:=by subst h;simp[txt]
set_option maxRecDepth 100000 in
theorem Xyr {W:World} {fuel:Nat} {cs:List Value} {x:Int×List UInt8×Int×Int×Int} {p:List MemPlace} (h:DataW.trod (fun _=>()) Tryz.prog W 0 (fun _=>true) false fuel 91 cs=some (Xm6 x,p)):cs=Xtd x:=by
 obtain ⟨xs,n,_,hx,hl,hlen,hf⟩:=DataW.trod_struct Tryz.underlying91 h
 rw[Xvd] at hl
 match cs,hl with
 | [v0, v1, v2, v3, v4], _ =>
  have f0:=hf 0 _ rfl
  have f1:=hf 1 _ rfl
  have f2:=hf 2 _ rfl
  have f3:=hf 3 _ rfl
  have f4:=hf 4 _ rfl
  match xs,hlen with
  | [y0,y1,y2,y3,y4],_=>
   simp[Xve,Xvf,Xvg] at f0 f1 f2 f3 f4
   obtain ⟨k0,e0,g0,_⟩:=DataW.trod_int Tryz.underlying2 f0
   obtain ⟨s1,e1,g1,_⟩:=DataW.trod_string Tryz.underlying9 f1
   obtain ⟨k2,e2,g2,_⟩:=DataW.trod_int Tryz.underlying3 f2
   obtain ⟨k3,e3,g3,_⟩:=DataW.trod_int Tryz.underlying3 f3
   obtain ⟨k4,e4,g4,_⟩:=DataW.trod_int Tryz.underlying3 f4
   subst g0 g1 g2 g3 g4
   simp only[List.cons.injEq,and_true] at e0 e1 e2 e3 e4
   subst e0 e1 e2 e3 e4
   have hx1:=congrArg Prod.fst hx
   simp[Xm6] at hx1
   obtain ⟨q0,q1,q2,q3,q4⟩:=hx1
   unfold Xtd
   rw[q0,q1,q2,q3,q4,←txtoF rfl]
theorem fv_jg : Tryz.prog.globalNamed "loop.example/g00345/impl.joints" = some 0 := by kernel_rfl
theorem fv_jgt:(Tryz.prog.globals[0]?).map (·.type)=some 108:=by kernel_rfl
theorem Xg3 {W:World} {name:String} {g:Nat} {cs:Array Value} (hg:Tryz.prog.globalNamed name=some g) (h:W.var? Tryz.prog name=some cs):(∃T z,W.heap[g]? =some (.cells cs T z))∧W.rangeAt g 0 cs.toList:=by
 unfold World.var? at h
 rw[hg] at h
 simp only[Option.bind_some] at h
 match hh:W.heap[g]?,h with
 | some (.cells c T z), h =>
  injection h with h
  subst h
  refine ⟨⟨T,z,rfl⟩,fun j v hv=> ?_⟩
  rw[Nat.zero_add]
  exact cellAt hh (by simpa using hv)
theorem X0g {W : World} {l : List (String × DataW Unit)} (h : laidMet Tryz.prog l W) (hm : ("loop.example/g00345/impl.joints", Rows.laid_loop_example_g00345_impl_joints) ∈ l) : JtB W.heap.size W := by
 obtain ⟨g',t',cs,fuel,p,hg',ht',hvar,hd⟩:=Lib.laidMet.reads h hm
 obtain rfl:=Option.some.inj (fv_jg.symm.trans hg')
 obtain rfl:=Option.some.inj (fv_jgt.symm.trans ht')
 rw[Xp4] at hd
 obtain ⟨xs,m,_,hx,hl,hlen,hf⟩:=DataW.trod_array Tryz.underlying108 hd
 rw[Xyq] at hl
 have hx1:xs.map (·.1)=jointsX.map Xm6:=by
  have:=congrArg Prod.fst hx
  simpa using this.symm
 have hcs:cs.toList=jointC:=by
  have:=Xi0 (n:=10) (k:=5) (V:=Xtd) hx1 rfl (fun i hi=>by have:=hf i hi;rw[Xvd] at this;exact this) (fun c x p h=>Xyr h) (by omega)
  rw[this];rfl
 obtain ⟨⟨T,z,hh⟩,hr⟩:=Xg3 fv_jg hvar
 rw[hcs] at hr
 intro w' hb j v hv
 exact (Xd hb (X6 hh)).trans (hr j v hv)
def Xib (x:Int×List UInt8):DataW Unit:= .agg [.lit (.int .i64 x.1), .lit (.string x.2)]
def Xm7 (x:Int×List UInt8):List Value:= [.int .i64 x.1, .string (txt x.2)]
def wordsX:List (Int×List UInt8):= [(11,[108,101,110,103,116,104]),(12,[107,101,121,115]),(13,[110,111,116]),(14,[101,109,112,116,121])]
theorem Xte:(Rows.laid_loop_example_g00345_impl_words:DataW Unit)= .agg (wordsX.map Xib):=by rfl
theorem Xvh:Tryz.prog.cellsOf 132=2:=by kernel_rfl
theorem X0h:Tryz.prog.cellsOf 133=8:=by kernel_rfl
set_option maxRecDepth 100000 in
theorem Xwp {W:World} {fuel:Nat} {cs:List Value} {x:Int×List UInt8} {p:List MemPlace} (h:DataW.trod (fun _=>()) Tryz.prog W 0 (fun _=>true) false fuel 132 cs=some (Xib x,p)):cs=Xm7 x:=by
 obtain ⟨xs,n,_,hx,hl,hlen,hf⟩:=DataW.trod_struct Tryz.underlying132 h
 rw[Xvh] at hl
 match cs,hl with
 | [v0, v1], _ =>
  have f0:=hf 0 _ rfl
  have f1:=hf 1 _ rfl
  match xs,hlen with
  | [y0,y1],_=>
   simp[Xve,Xvf,Xvg] at f0 f1
   obtain ⟨k0,e0,g0,_⟩:=DataW.trod_int Tryz.underlying2 f0
   obtain ⟨s1,e1,g1,_⟩:=DataW.trod_string Tryz.underlying9 f1
   subst g0 g1
   simp only[List.cons.injEq,and_true] at e0 e1
   subst e0 e1
   have hx1:=congrArg Prod.fst hx
   simp[Xib] at hx1
   obtain ⟨q0,q1⟩:=hx1
   unfold Xm7
   rw[q0,q1,←txtoF rfl]
theorem fv_wg : Tryz.prog.globalNamed "loop.example/g00345/impl.words" = some 1 := by kernel_rfl
theorem fv_wgt:(Tryz.prog.globals[1]?).map (·.type)=some 133:=by kernel_rfl
theorem Xys:Tryz.prog.underlying 133=some (.array 4 132):=by kernel_rfl
theorem X0i {W : World} {l : List (String × DataW Unit)} (h : laidMet Tryz.prog l W) (hm : ("loop.example/g00345/impl.words", Rows.laid_loop_example_g00345_impl_words) ∈ l) : WdB W.heap.size W := by
 obtain ⟨g',t',cs,fuel,p,hg',ht',hvar,hd⟩:=Lib.laidMet.reads h hm
 obtain rfl:=Option.some.inj (fv_wg.symm.trans hg')
 obtain rfl:=Option.some.inj (fv_wgt.symm.trans ht')
 rw[Xte] at hd
 obtain ⟨xs,m,_,hx,hl,hlen,hf⟩:=DataW.trod_array Xys hd
 rw[X0h] at hl
 have hx1:xs.map (·.1)=wordsX.map Xib:=by
  have:=congrArg Prod.fst hx
  simpa using this.symm
 have hcs:cs.toList=wordC:=by
  have:=Xi0 (n:=4) (k:=2) (V:=Xm7) hx1 rfl (fun i hi=>by have:=hf i hi;rw[Xvh] at this;exact this) (fun c x p h=>Xwp h) (by omega)
  rw[this];rfl
 obtain ⟨⟨T,z,hh⟩,hr⟩:=Xg3 fv_wg hvar
 rw[hcs] at hr
 intro w' hb j v hv
 exact (Xd hb (X6 hh)).trans (hr j v hv)
end Go.Proofs.YtehihemfepbmfaaGreatDoor
