import Derived.Test.YtehihemfepbmfaaGreatDoorFrM
import Derived.Test.YtehihemfepbmfaaGreatDoorSgM
import Derived.Test.YtehihemfepbmfaaGreatDoorSgQ
import Derived.Test.YtehihemfepbmfaaGreatDoorFtA
import Derived.Test.YtehihemfepbmfaaGreatDoorIFyE
import Derived.Test.YtehihemfepbmfaaGreatDoorIJw
import Derived.Test.YtehihemfepbmfaaGreatDoorGupN
import Derived.Deep.AppendLies
import Derived.Deep.RegionLaw
import Derived.Test.YtehihemfepbmfaaGreatDoorFSpc3
import Derived.Handy
import Derived.Laws.StructEq
import Derived.Test.YtehihemfepbmfaaGreatDoorSInt
namespace Go.Proofs.YtehihemfepbmfaaGreatDoor
set_option linter.unusedSectionVars false
set_option maxHeartbeats 6400000
open Go.RowKit
set_option linter.unusedSimpArgs false
set_option linter.unusedVariables false
def signL:List (Nat×Nat×Int):= [(124,0,6),(44,0,7),(47,47,21),(61,61,17),(33,61,18),(60,0,19),(60,61,20),(43,0,15),(45,0,16),(63,0,23)]
def Xvc (i:Nat) (x:Nat×Nat×Int):MapEntry:=⟨.agg #[.int .u8 (x.1:Int), .int .u8 (x.2.1:Int)], .agg (Zq x.2.2).toArray,i⟩
def Xfb:Nat→List (Nat×Nat×Int)→List MapEntry
 |_,[]=> []
 |i,x::l=>Xvc i x::Xfb (i+1) l
def Qr (m:Nat):Array MapEntry:=(Xfb 0 (signL.take m)).toArray
def ErrB (B:Nat) (w:World):Prop:=∀w',Below B w w'→(∃ev,w'.cell? ⟨10,0,none⟩=some ev∧(ev= .nilIface∨∃te pe,ev= .iface te pe))∧∃ev,w'.cell? ⟨11,0,none⟩=some ev∧(ev= .nilIface∨∃te pe,ev= .iface te pe)
theorem ErrB.next {B:Nat} {w w':World} (h:ErrB B w) (hb:Below B w w'):ErrB B w':=fun w2 h2=>h w2 (hb.trans h2)
theorem ErrB.wide {B C:Nat} {w:World} (h:ErrB B w) (hBC:B≤C):ErrB C w:=fun w2 h2=>h w2 (h2.mono hBC)
theorem WdB.wideF {B C:Nat} {w:World} (h:WdB B w) (hBC:B≤C):WdB C w:=fun w2 h2=>h w2 (h2.mono hBC)
structure Tabs (B:Nat) (w:World):Prop where
 wd:WdB B w
 tab:TabB B w
 er:ErrB B w
theorem Tabs.next {B:Nat} {w w':World} (h:Tabs B w) (hb:Below B w w'):Tabs B w':=⟨h.wd.next hb,h.tab.next hb,h.er.next hb⟩
theorem Tabs.wide {B C:Nat} {w:World} (h:Tabs B w) (hBC:B≤C):Tabs C w:=⟨h.wd.wideF hBC,h.tab.wide hBC,h.er.wide hBC⟩
def XF (s:ByteArray) (mb:Nat) (v:Value):Nat→Option Value
 |0=>some (.string s)
 |2=>some (.string ⟨#[10,32]⟩)
 |3=>some (.map (some mb))
 |4=>some v
 |_=>none
theorem XF2 {s:ByteArray} {mb:Nat} {v:Value}:XF s mb v 2=some (.string ⟨#[10,32]⟩):=rfl
structure FrBox (w:World) (rb mb base:Nat):Prop where
 mp:w.heap[mb]? =some (.map (Qr 10) 10)
 tb:Tabs rb w
 rb_lt:rb<base
 mb_lt:mb<base
 ne:mb≠rb
 sz:base≤w.heap.size
structure FrAt (w:World) (rb mb base:Nat) (Z:Nat→Prop) (s:ByteArray) (p:Nat) (fs:List FN):Prop where
 box:FrBox w rb mb base
 ex:∃v,SfAt (XF s mb v) w rb s p∧FRow base Z w v fs
theorem Wy {w:World} {b:Nat} {o:Obj} (h:w.heap[b]? =some o):b<w.heap.size:=by
 rcases Nat.lt_or_ge b w.heap.size with h'|h'
 ·exact h'
 ·rw[Array.getElem?_eq_none h'] at h;cases h
theorem FrBox.but {w w':World} {rb mb base:Nat} (h:FrBox w rb mb base) (hb:ButF rb base w w'):FrBox w' rb mb base:=
 ⟨(hb.low (Wy h.mp) h.ne h.mb_lt).trans h.mp,h.tb.next ((hb.below h.sz).mono (by have:=h.rb_lt;omega)),h.rb_lt,h.mb_lt,h.ne,Nat.le_trans h.sz hb.size⟩
theorem FrAt.go {w w':World} {rb mb base:Nat} {Z:Nat→Prop} {s:ByteArray} {q:Nat} {fs:List FN} {v:Value} (h:FrBox w rb mb base) (hr:FRow base Z w v fs) (hs:SfAt (XF s mb v) w' rb s q) (hb:But rb w w'):FrAt w' rb mb base Z s q fs:=
 ⟨h.but (.of_but hb),v,hs,hr.but hb h.rb_lt⟩
theorem FrAt.below {w w':World} {rb mb base:Nat} {Z:Nat→Prop} {s:ByteArray} {p:Nat} {fs:List FN} (h:FrAt w rb mb base Z s p fs) (hb:Below w.heap.size w w'):FrAt w' rb mb base Z s p fs:=by
 obtain ⟨v,h1,h2⟩:=h.ex
 exact FrAt.go h.box h2 (h1.below hb) (But.of_below hb)
theorem FrAt.more {w:World} {rb mb base:Nat} {Z Z':Nat→Prop} {s:ByteArray} {p:Nat} {fs:List FN} (h:FrAt w rb mb base Z s p fs) (hz:∀x,Z' x→Z x∨w.heap.size≤x∨x<base):FrAt w rb mb base Z' s p fs:=by
 obtain ⟨v,h1,h2⟩:=h.ex
 exact ⟨h.box,v,h1,h2.more hz⟩
theorem FrAt.fresh {w w':World} {rb mb base:Nat} {Z Z':Nat→Prop} {s:ByteArray} {p:Nat} {fs:List FN} (h:FrAt w rb mb base Z s p fs) (hb:Below w.heap.size w w') (hz:∀x,Z' x→Z x∨w.heap.size≤x∨x<base):FrAt w' rb mb base Z' s p fs:=(h.more hz).below hb
theorem FrAt.le {w:World} {rb mb base:Nat} {Z:Nat→Prop} {s:ByteArray} {p:Nat} {fs:List FN} (h:FrAt w rb mb base Z s p fs):p≤s.size:=by
 obtain ⟨v,h1,_⟩:=h.ex;exact h1.br.le
theorem FrAt.place {w:World} {rb mb base:Nat} {Z:Nat→Prop} {s:ByteArray} {p:Nat} {fs:List FN} (h:FrAt w rb mb base Z s p fs):placeOf w rb=p:=by
 obtain ⟨v,h1,_⟩:=h.ex;exact h1.placeOf
theorem FrAt.cells {w:World} {rb mb base:Nat} {Z:Nat→Prop} {s:ByteArray} {p:Nat} {fs:List FN} (h:FrAt w rb mb base Z s p fs):w.cell? ⟨rb,0,none⟩=some (.string s)∧w.cell? ⟨rb,1,none⟩=some (.int .i64 p)∧w.frozen? ⟨rb,1,none⟩=false∧rb<w.heap.size:=by
 obtain ⟨v,h1,_⟩:=h.ex;exact ⟨h1.br.src,h1.br.place,h1.br.free,h1.br.lt⟩
theorem FrAt.to {w:World} {rb mb base:Nat} {Z:Nat→Prop} {s:ByteArray} {p q:Nat} {fs:List FN} (h:FrAt w rb mb base Z s p fs) (hq:q≤s.size):FrAt (w.setCell ⟨rb,1,none⟩ (.int .i64 (q:Int))) rb mb base Z s q fs:=by
 obtain ⟨v,h1,h2⟩:=h.ex
 exact FrAt.go h.box h2 (h1.to hq) (But.of_set _ _)
def FrOr (r:RF) (rb mb base:Nat) (Z:Nat→Prop) (s:ByteArray) (w:World) (e:Ending) (w':World):Prop:=
 ButF rb base w w'∧((∃n fs' q,r=some (n,fs',q)∧e= .returned (.int .i64 n)∧FrAt w' rb mb base Z s q fs')∨(r=none∧e=gup))
set_option maxRecDepth 100000 in
theorem Vx {rb mb base p:Nat} {Z:Nat→Prop} {s:ByteArray} {fs:List FN} {w:World} (h:FrAt w rb mb base Z s p fs) (hs:s.size≤4000):
  Calls Tryz.prog 74 #[.pointer (some ⟨rb,0,none⟩)] w fun e w'=>e= .returned (.tuple #[])∧FrAt w' rb mb base Z s (skF s.data.toList p) fs∧ButF rb base w w':=by
 obtain ⟨v,h1,h2⟩:=h.ex
 refine (Xhh h1 XF2 (by omega)).mono ?_
 rintro e w1 ⟨rfl,h3,h4⟩
 exact ⟨rfl,FrAt.go h.box h2 h3 h4, .of_but h4⟩
theorem Wl {rb mb base p:Nat} {Z:Nat→Prop} {s:ByteArray} {fs:List FN} {w:World} (h:FrAt w rb mb base Z s p fs) (hs:s.size≤4000):
  Calls Tryz.prog 143 #[.pointer (some ⟨rb,0,none⟩)] w fun e w'=>e= .returned (.int .u8 (Xh s.data.toList p:Int))∧FrAt w' rb mb base Z s p fs∧ButF rb base w w':=by
 obtain ⟨v,h1,h2⟩:=h.ex
 refine (Xax h1.br (by omega)).mono ?_
 rintro e w1 ⟨rfl,h4⟩
 exact ⟨rfl,h.below h4, .of_below h4⟩
theorem Wm {rb mb base p c:Nat} {Z:Nat→Prop} {s:ByteArray} {fs:List FN} {w:World} (h:FrAt w rb mb base Z s p fs) (hs:s.size≤4000) (hc:0<c):
  Calls Tryz.prog 174 #[.pointer (some ⟨rb,0,none⟩), .int .u8 (c:Int)] w fun e w'=>e= .returned (.bool (Xe s.data.toList p c))∧FrAt w' rb mb base Z s (if Xe s.data.toList p c=true then skF s.data.toList (p+1) else p) fs∧ButF rb base w w':=by
 obtain ⟨v,h1,h2⟩:=h.ex
 cases hi:Xe s.data.toList p c
 ·refine (Xjm h1 XF2 (by omega) hc hi).mono ?_
  rintro e w1 ⟨rfl,h3,h4⟩
  exact ⟨rfl,FrAt.go h.box h2 h3 h4, .of_but h4⟩
 ·refine (Xhi h1 XF2 (by omega) hi).mono ?_
  rintro e w1 ⟨rfl,h3,h4⟩
  exact ⟨rfl,FrAt.go h.box h2 h3 h4, .of_but h4⟩
theorem K1 {rb mb base p c:Nat} {Z:Nat→Prop} {s:ByteArray} {fs:List FN} {w:World} (h:FrAt w rb mb base Z s p fs) (hs:s.size≤4000) (hc:0<c):
  Calls Tryz.prog 176 #[.pointer (some ⟨rb,0,none⟩), .int .u8 (c:Int)] w fun e w'=>ButF rb base w w'∧((Xe s.data.toList p c=true∧e= .returned (.tuple #[])∧FrAt w' rb mb base Z s (skF s.data.toList (p+1)) fs)∨(Xe s.data.toList p c=false∧e=gup)):=by
 obtain ⟨v,h1,h2⟩:=h.ex
 cases hi:Xe s.data.toList p c
 ·refine (Xt1 h1 XF2 (by omega) hc hi).mono ?_
  rintro e w1 ⟨rfl,h4⟩
  exact ⟨.of_but h4, .inr ⟨rfl,rfl⟩⟩
 ·refine (Xqz h1 XF2 (by omega) hi).mono ?_
  rintro e w1 ⟨rfl,h3,h4⟩
  exact ⟨.of_but h4, .inl ⟨rfl,rfl,FrAt.go h.box h2 h3 h4⟩⟩
theorem Xs2 {rb mb base p:Nat} {Z:Nat→Prop} {s:ByteArray} {fs:List FN} {w:World} (h:FrAt w rb mb base Z s p fs) (hs:s.size≤4000) (hq:Xe s.data.toList p 34=true):
  Calls Tryz.prog 149 #[.pointer (some ⟨rb,0,none⟩)] w fun e w'=>ButF rb base w w'∧((∃l q,txJ s.data.toList (p+1)=some (l,q)∧e= .returned (.string (txt l))∧FrAt w' rb mb base Z s q fs)∨(txJ s.data.toList (p+1)=none∧e=gup)):=by
 obtain ⟨v,h1,h2⟩:=h.ex
 refine (Xr0 h1 hs).mono ?_
 rintro e w1 ⟨⟨l,q,_,h4,rfl,h5⟩|⟨h4,rfl⟩,h6⟩
 ·exact ⟨.of_but h6, .inl ⟨l,q,h4,rfl,FrAt.go h.box h2 h5 h6⟩⟩
 ·refine ⟨.of_but h6, .inr ⟨?_,rfl⟩⟩
  rcases h4 with h4|h4
  ·rw[hq] at h4;cases h4
  ·exact h4

theorem Xqn:(Tryz.prog.info? 51).map (fun i=>(i.zero,i.size,i.bytes))=some (some (.agg #[.int .i64 0, .string ByteArray.empty, .int .i64 0, .slice none 0 0, .slice none 0 0, .slice none 0 0]),6,104):=by kernel_rfl
theorem SfAt.setF {mb:Nat} {v v':Value} {w:World} {rb p:Nat} {s:ByteArray} (h:SfAt (XF s mb v) w rb s p):SfAt (XF s mb v') (w.setCell ⟨rb,4,none⟩ v') rb s p:=by
 refine ⟨⟨by simpa using h.br.lt,by rw[World.cell?_setCell_other (h:=by simp)];exact h.br.src,by rw[World.cell?_setCell_other (h:=by simp)];exact h.br.place,by rw[World.frozen?_setCell];exact h.br.free,h.br.le⟩,fun j hj=> ?_,fun j=>by rw[World.frozen?_setCell];exact h.fz j⟩
 have hb:=h.bl j hj
 by_cases e:j=4
 ·subst e
  exact World.cell?_setCell_same _ _ _ hb
 ·rw[World.cell?_setCell_other (h:=by simp;try omega),hb]
  match j,hj,e with
  |0,_,_=>rfl
  |2,_,_=>rfl
  |3,_,_=>rfl
  |(k+5),_,_=>rfl
theorem Ki {w:World} {base e s n:Nat} {v:Value} {xs:List Value} (h:w.ownsRow base e s v n xs):∃a c,v= .slice a n c:=by
 rcases h.2 with ⟨rfl,e⟩|⟨g,cap,cur,rfl,_⟩
 ·exact ⟨none,0,by rw[e]⟩
 ·exact ⟨_,_,rfl⟩
theorem Xfm {w:World} {b o:Nat} {v:Value} (h:w.cell? ⟨b,o,none⟩=some v) (hl:b<w.heap.size) (ob:Obj):(w.drew.alloc ob).cell? ⟨b,o,none⟩=some v:=by
 rw[World.cell?_of_block (w:=w) (a:=⟨b,o,none⟩) (((Below.refl w.heap.size w).drew.alloc (Nat.le_refl _) ob).block b hl)];exact h
set_option maxRecDepth 100000 in
theorem Wq {rb mb base p:Nat} {Z Z':Nat→Prop} {s:ByteArray} {fs:List FN} {w:World} {x:FN} {kc kn ki k0:Value} (h:FrAt w rb mb base Z s p fs)
  (hc:Nest base w kc x.cst Qt Qt) (hn:w.ownsRow base 9 1 kn x.names.length (x.names.map .string)) (hi:w.ownsRow base 2 1 ki x.kids.length (x.kids.map (.int .i64)))
  (hfr:∀y,kc.ownBlock=some y∨kn.ownBlock=some y∨ki.ownBlock=some y→Z y) (hz:∀y,Z' y→Z y∧¬(kc.ownBlock=some y∨kn.ownBlock=some y∨ki.ownBlock=some y)) (hl:fs.length≤4000):
  Calls Tryz.prog 112 #[.pointer (some ⟨rb,0,none⟩), .agg #[.int .i64 x.kind, .string x.name, .int .i64 x.place,kc,kn,k0],ki] w fun e w'=>e= .returned (.int .i64 (fs.length:Int))∧FrAt w' rb mb base Z' s p (fs++ [x])∧ButF rb base w w':=by
 obtain ⟨i0,hi0,hz0,hs0,hy0⟩:=info_parts Xqn
 obtain ⟨ac,cc,ekc⟩:=Ki hc.row
 obtain ⟨an,cn,ekn⟩:=Ki hn
 obtain ⟨ai,ci,eki⟩:=Ki hi
 obtain ⟨lc,hlc⟩:∃l,x.cst.length=l:=⟨_,rfl⟩
 obtain ⟨ln,hln⟩:∃l,x.names.length=l:=⟨_,rfl⟩
 obtain ⟨li,hli⟩:∃l,x.kids.length=l:=⟨_,rfl⟩
 have HLC:=Xb hlc
 have HLI:=Xb hli
 have HLNN:=Xb hln
 rw[hlc] at ekc
 rw[hln] at ekn
 rw[hli] at eki
 clear hlc hln hli
 subst ekc ekn eki
 obtain ⟨bx,v,hsf,C,N,I,hN,hZ⟩:=h
 have hrl:=hsf.br.lt
 have hsz:=bx.sz
 have hrb:=bx.rb_lt
 obtain ⟨av,cv,rfl⟩:∃a c,v= .slice a fs.length c:=FRow.slice (Z:=Z) ⟨C,N,I,hN,hZ⟩
 obtain ⟨L,hL⟩:∃L,fs.length=L:=⟨_,rfl⟩
 have HL:=Xb hL
 have HC:=Xb hc
 have HN:=Xb hn
 have HI:=Xb hi
 have HFR:=Xb hfr
 have HZP:=Xb hz
 have HSF:=Xb hsf
 have HNE:=Xb hN
 have HZ:=Xb hZ
 have HBX:=Xb bx
 rw[hL] at HSF HNE hl⊢
 clear hc hn hi hfr hz hsf hN hZ bx hL
 obtain ⟨W1,hW1⟩:∃W1,w.alloc (.cells #[.int .i64 x.kind, .string x.name, .int .i64 x.place, .slice ac lc cc, .slice an ln cn,k0] 51)=W1:=⟨_,rfl⟩
 have hb1:W1.heap[w.heap.size]? =some (.cells #[.int .i64 x.kind, .string x.name, .int .i64 x.place, .slice ac lc cc, .slice an ln cn,k0] 51 (0,0)):=by rw[←hW1];exact heap_alloc_new w _
 have c5:W1.cell? ⟨w.heap.size,5,none⟩=some k0:=cellAt hb1 rfl
 have f5:W1.frozen? ⟨w.heap.size,5,none⟩=false:=Lib.frozen_of_heap hb1 5
 have HBL1:Hid (Below w.heap.size w W1):=by rw[Hid,←hW1];exact (Below.refl _ _).alloc (Nat.le_refl _) _
 have HB1:=Xb hb1
 clear hb1
 go_enter Tryz.func112,Tryz.ntmps112
 go_wp2_with fail
 obtain ⟨W2,hW2⟩:∃W2,W1.setCell ⟨w.heap.size,5,none⟩ (.slice ai li ci)=W2:=⟨_,rfl⟩
 rw[hW2]
 have hb2:W2.heap[w.heap.size]? =some (.cells #[.int .i64 x.kind, .string x.name, .int .i64 x.place, .slice ac lc cc, .slice an ln cn, .slice ai li ci] 51 (0,0)):=by rw[←hW2];exact setH HB1.out (.slice ai li ci)
 have HBL2:Hid (Below w.heap.size w W2):=by rw[Hid,←hW2];exact HBL1.out.setCell (p:=⟨w.heap.size,5,none⟩) (Nat.le_refl _) _
 have hz2:W2.heap.size=w.heap.size+1:=by rw[←hW2,←hW1];simp
 clear c5 f5 HB1 HBL1 hW2 hW1
 have d0:W2.cell? ⟨w.heap.size,0,none⟩=some (.int .i64 x.kind):=cellAt hb2 rfl
 have d1:W2.cell? ⟨w.heap.size,1,none⟩=some (.string x.name):=cellAt hb2 rfl
 have d2:W2.cell? ⟨w.heap.size,2,none⟩=some (.int .i64 x.place):=cellAt hb2 rfl
 have d3:W2.cell? ⟨w.heap.size,3,none⟩=some (.slice ac lc cc):=cellAt hb2 rfl
 have d4:W2.cell? ⟨w.heap.size,4,none⟩=some (.slice an ln cn):=cellAt hb2 rfl
 have d5:W2.cell? ⟨w.heap.size,5,none⟩=some (.slice ai li ci):=cellAt hb2 rfl
 have HSF2:=Xb (HSF.out.below HBL2.out)
 have HNE2:Hid (FNest base W2 (.slice av L cv) fs C N I):=HNE.out.keep (fun y hy=>HBL2.out.block y (HNE.out.row.lt y hy).2) (fun y hy=>HBL2.out.block y (HNE.out.sub hy).2)
 have q4:W2.cell? ⟨rb,4,none⟩=some (.slice av L cv):=HSF2.out.bl 4 (by decide)
 have g4:W2.frozen? ⟨rb,4,none⟩=false:=HSF2.out.fz 4
 have hql:rb<W2.heap.size:=by omega
 have HROW:Hid (W2.ownsRow base 51 6 (.slice av L cv) L (Kx fs C N I)):=by have:=HNE2.out.row;rw[HL.out] at this;exact this
 obtain ⟨WA,hWA⟩:∃WA,W2.drew.alloc (.cells #[.int .i64 x.kind, .string x.name, .int .i64 x.place, .slice ac lc cc, .slice an ln cn, .slice ai li ci] 51)=WA:=⟨_,rfl⟩
 have HWA:=Xb hWA
 have HBLA:Hid (Below W2.heap.size W2 WA):=by rw[Hid,←hWA];exact (Below.refl _ _).drew.alloc (Nat.le_refl _) _
 have HRK:Hid ((W2.drew.alloc (.cells #[.int .i64 x.kind, .string x.name, .int .i64 x.place, .slice ac lc cc, .slice an ln cn, .slice ai li ci] 51)).ownsRow base 51 6 (.slice av L cv) L (Kx fs C N I)):=by rw[Hid,hWA];exact J0 HROW.out fun y hy=>HBLA.out.block y (HROW.out.lt y hy).2
 have HNW:Hid (∀j u,[Value.int .i64 x.kind, .string x.name, .int .i64 x.place, .slice ac lc cc, .slice an ln cn, .slice ai li ci][j]? =some u→(W2.drew.alloc (.cells #[.int .i64 x.kind, .string x.name, .int .i64 x.place, .slice ac lc cc, .slice an ln cn, .slice ai li ci] 51)).cell? ((⟨W2.heap.size,0,none⟩:Addr).add j)=some u):=World.news_of_block (cs:= #[.int .i64 x.kind, .string x.name, .int .i64 x.place, .slice ac lc cc, .slice an ln cn, .slice ai li ci]) (t:=51) (fr:=(0,0)) (heap_alloc_new W2.drew _)
 have hone:∀u∈ [Value.int .i64 x.kind, .string x.name, .int .i64 x.place, .slice ac lc cc, .slice an ln cn, .slice ai li ci],u.oneCell'=true:=fun u hu=>by
  simp at hu
  rcases hu with rfl|rfl|rfl|rfl|rfl|rfl
  ·rfl
  ·rfl
  ·rfl
  ·rfl
  ·rfl
  ·rfl
 have hbs:base≤(W2.drew.alloc (.cells #[.int .i64 x.kind, .string x.name, .int .i64 x.place, .slice ac lc cc, .slice an ln cn, .slice ai li ci] 51)).heap.size:=by simp;omega
 have htop:(W2.drew.alloc (.cells #[.int .i64 x.kind, .string x.name, .int .i64 x.place, .slice ac lc cc, .slice an ln cn, .slice ai li ci] 51)).heap.size=W2.heap.size+1:=by simp
 have HQK:Hid ((Value.slice av L cv).ownBlock≠some rb):=fun e=>by have:=(HROW.out.lt _ e).1;omega
 have HX0:Hid ((W2.drew.alloc (.cells #[.int .i64 x.kind, .string x.name, .int .i64 x.place, .slice ac lc cc, .slice an ln cn, .slice ai li ci] 51)).cell? ⟨rb,4,none⟩=some (.slice av L cv)):=Xfm q4 hql _
 have HF0:Hid ((W2.drew.alloc (.cells #[.int .i64 x.kind, .string x.name, .int .i64 x.place, .slice ac lc cc, .slice an ln cn, .slice ai li ci] 51)).frozen? ⟨rb,4,none⟩=false):=(((Below.refl W2.heap.size W2).drew.alloc (Nat.le_refl _) _).frozen (p:=⟨rb,4,none⟩) hql).trans g4
 have hml:L+1≤maxLen:=by unfold maxLen;omega
 have hby:(L+1) *104≤140737488355328:=by omega
 have HB2:=Xb hb2
 have HZ2:=Xb hz2
 have hz2':w.heap.size<W2.heap.size:=by omega
 clear hWA hb2 hz2
 go_region_law
  (refine step_append_lies _ (by rfl) _ _ _ (by rfl) base 51 i0 _ 6 104 Tryz.underlying24 hi0 hz0 hs0 hy0 rfl (by omega) (.slice av L cv) L (Kx fs C N I) (by rfl) HRK.out ⟨W2.heap.size,0,none⟩ 1 1 [.int .i64 x.kind, .string x.name, .int .i64 x.place, .slice ac lc cc, .slice an ln cn, .slice ai li ci] (by rfl) (by rfl) HNW.out hone (by omega) hml hby hbs (W2.heap.size+1) htop ?_;intro g5 cap5 w5 hown hgrow hat hlt5;have hS3:w5.cell? ⟨rb,4,none⟩=some (.slice av L cv):=(World.grownBy.cell_far hgrow ⟨rb,4,none⟩ (by simp;omega) (Ne.symm HQK.out)).trans HX0.out;have hf3:w5.frozen? ⟨rb,4,none⟩=false:=(World.grownBy.frozen_far hgrow ⟨rb,4,none⟩ (by simp;omega) (Ne.symm HQK.out)).trans HF0.out)
 all_goals
  have HOWN:=Xb hown
  have hgA:W2.grownBy w5 (Value.slice av L cv).ownBlock:=by
   refine World.grownBy.trans ?_ hgrow
   exact ⟨rfl,rfl,rfl,by simp,fun k hk _=>heap_alloc_old W2.drew _ hk⟩
  have HGA:=Xb hgA
  have HSF5:Hid (SfAt (XF s mb (.slice av L cv)) w5 rb s p):=HSF2.out.keep (hgA.block rb hql (Ne.symm HQK.out)) hgA.size
  have hq5:rb<w5.heap.size:=Nat.lt_of_lt_of_le hql hgA.size
  have HNE5:Hid (FNest base w5 (.slice (some ⟨g5,0,none⟩) (L+1) cap5) (fs++ [x]) (upd C fs.length (.slice ac lc cc)) (upd N fs.length (.slice an ln cn)) (upd I fs.length (.slice ai li ci))):=by
   refine HNE2.out.snoc (Xdp HC.out fun y hy=>HBL2.out.block y (HC.out.row.lt y hy).2) (J0 HN.out fun y hy=>HBL2.out.block y (HN.out.lt y hy).2) (J0 HI.out fun y hy=>HBL2.out.block y (HI.out.lt y hy).2) (fun y hy hsub=>HZ.out y hsub (HFR.out y hy)) (by rw[HL.out];exact hown) hgA
  clear hown hgrow hgA hat hlt5 d0 d1 d2 d3 d4 d5 q4 g4 HRK HNW hone hbs htop HX0 HF0
  have HSF6:=Xb (HSF5.out.setF (v':= .slice (some ⟨g5,0,none⟩) (L+1) cap5))
  have HB6:Hid (ButF rb base w (w5.setCell ⟨rb,4,none⟩ (.slice (some ⟨g5,0,none⟩) (L+1) cap5))):=((ButF.of_below HBL2.out).trans (ButF.of_grown HROW.out HGA.out)).trans (ButF.of_set _ _)
  have q6:(w5.setCell ⟨rb,4,none⟩ (.slice (some ⟨g5,0,none⟩) (L+1) cap5)).cell? ⟨rb,4,none⟩=some (.slice (some ⟨g5,0,none⟩) (L+1) cap5):=HSF6.out.bl 4 (by decide)
  have HROW6:Hid (FRow base Z' (w5.setCell ⟨rb,4,none⟩ (.slice (some ⟨g5,0,none⟩) (L+1) cap5)) (.slice (some ⟨g5,0,none⟩) (L+1) cap5) (fs++ [x])):=by
   refine FRow.butF ⟨_,_,_,HNE5.out,fun y hy hzy=> ?_⟩ 4 _ hrb
   obtain ⟨h1,h2⟩:=HZP.out y hzy
   obtain ⟨j,hj,hy⟩:=hy
   rw[List.length_append,List.length_singleton] at hj
   by_cases e:j=fs.length
   ·subst e
    rw[Jj,Jj,Jj] at hy
    exact h2 hy
   ·rw[Vi (by omega),Vi (by omega),Vi (by omega)] at hy
    exact HZ.out y ⟨j,by omega,hy⟩ h1
  go_wp2_with fail
  go_ret
  exact ⟨rfl,⟨HBX.out.but HB6.out,_,HSF6.out,HROW6.out⟩,HB6.out⟩

set_option maxRecDepth 100000 in
theorem Uu {rb mb base p:Nat} {Z:Nat→Prop} {s:ByteArray} {fs:List FN} {w:World} (h:FrAt w rb mb base Z s p fs) (hs:s.size≤4000):
  Calls Tryz.prog 173 #[.pointer (some ⟨rb,0,none⟩)] w fun e w'=>e= .returned (.string (txt (X9 s.data.toList p)))∧FrAt w' rb mb base Z s (skF s.data.toList (nmJ s.data.toList p)) fs∧ButF rb base w w':=by
 have H:=Xa h
 have HLN:=Xa (Xm s)
 have hp:=h.le
 obtain ⟨c0,c1,f1,lt0⟩:=h.cells
 clear h
 go_enter Tryz.func173,Tryz.ntmps173
 go_wp2_with fail
 go_loopw [15,16] (fun _ _ wr=>∃q,FrAt wr rb mb base Z s q fs∧Hid (nmJ s.data.toList q=nmJ s.data.toList p)∧ButF rb base w wr∧p≤q) (fun _ _ wr=>s.size-placeOf wr rb)
 case atStart=>exact ⟨p,H.out,rfl,ButF.refl _ _ _,Nat.le_refl _⟩
 case round=>
  obtain ⟨q,hsr,HK,hbt,hpq⟩:=hrel
  have HS:=Xa hsr
  have HBT:=Xa hbt
  have hqs:=hsr.le
  have HPK:=Xa (Wl hsr hs)
  have hc256:=Jt s.data.toList q
  obtain ⟨c,hc⟩:∃c,Xh s.data.toList q=c:=⟨_,rfl⟩
  have HC:=Xa hc
  rw[hc] at HPK hc256
  clear c0 c1 f1 lt0
  obtain ⟨c0,c1,f1,lt0⟩:=hsr.cells
  clear hsr hbt hc
  go_wp2_with fail
  refine HPK.out.mono ?_
  rintro e w1 ⟨rfl,hr1,hb1⟩
  have HR1:=Xa hr1
  have HB1:=Xa hb1
  clear c0 c1 f1 lt0
  obtain ⟨c0,c1,f1,lt0⟩:=hr1.cells
  clear hr1 hb1
  go_wp2_with fail
  refine (Xe7 c w1 hc256).mono ?_
  rintro e w2 ⟨rfl,rfl⟩
  cases hn:nmC c
  ·have hn':(Yt c||Zk c)=false:=hn
   have HEND:Hid (nmJ s.data.toList q=q):=Q1 (fun e=>by rw[HC.out,hn] at e;cases e.2)
   have HZ:Hid (nmJ s.data.toList p=q):=by rw[Hid,←HK.out];exact HEND.out
   have hcut:∀w,(Instr.slice 9 (.string s) (some (.int .i64 (p:Int))) (some (.int .i64 (q:Int))) none).run Tryz.prog w= .ok (.string (txt (X9 s.data.toList p))) w:=fun w=>by
    have:=Gk (P:=Tryz.prog) (t:=9) s p q Tryz.underlying9 hpq hqs w
    rw[this];unfold X9;rw[HZ.out]
   rw[hn']
   clear hn hn'
   go_wp2_with fail
   go_quiet (fail)
   have HD:=Xa (Xq (w:=w2) nq)
   have HR2:=Xa (HR1.out.below HD.out)
   have HSK:=Xa (Vx HR2.out hs)
   generalize w2.drewN nq=W2 at HR2 HD HSK⊢
   clear nq c0 c1 f1
   go_wp2_with fail
   refine HSK.out.mono ?_
   rintro e w3 ⟨rfl,hr3,hb3⟩
   have HR3:=Xa hr3
   have HB3:=Xa (((HBT.out.trans HB1.out).trans (ButF.of_below HD.out)).trans hb3)
   clear hr3 hb3
   go_wp2_with fail
   go_ret
   exact ⟨rfl,by rw[HZ.out];exact HR3.out,HB3.out⟩
  ·have hn':(Yt c||Zk c)=true:=hn
   have hq:q<s.size:=by
    rcases Nat.lt_or_ge q s.size with h|h
    ·exact h
    ·exfalso
     have:Xh s.data.toList q=0:=Q2 (by rw[HLN.out];omega)
     rw[HC.out] at this
     subst this
     revert hn;decide
   have HNX:Hid (nmJ s.data.toList q=nmJ s.data.toList (q+1)):=Kb (by rw[HLN.out];exact hq) (by rw[HC.out];exact hn)
   rw[hn']
   clear hn hn'
   have e1:((q+1:Nat):Int)=(q:Int)+1:=by omega
   have HR2:=Xa (HR1.out.to (q:=q+1) hq)
   rw[e1] at HR2
   have HB2:=Xa ((HBT.out.trans HB1.out).trans (ButF.of_set 1 (.int .i64 ((q:Int)+1))))
   clear e1
   go_wp2_with fail
   go_roundw
   case rel=>exact ⟨q+1,HR2.out,by rw[Hid,←HNX.out];exact HK.out,HB2.out,by omega⟩
   case measure=>rw[HS.out.place,HR2.out.place];omega
set_option maxRecDepth 100000 in
theorem Xau {rb mb base p:Nat} {Z:Nat→Prop} {s u:ByteArray} {fs:List FN} {w:World} (h:FrAt w rb mb base Z s p fs) (hs:s.size≤4000):
  Calls Tryz.prog 193 #[.pointer (some ⟨rb,0,none⟩), .string u] w fun e w'=>ButF rb base w w'∧((X9 s.data.toList p=u.data.toList∧e= .returned (.tuple #[])∧FrAt w' rb mb base Z s (skF s.data.toList (nmJ s.data.toList p)) fs)∨(X9 s.data.toList p≠u.data.toList∧e=gup)):=by
 have HN:=Xa (Uu h hs)
 obtain ⟨t,ht⟩:∃t,txt (X9 s.data.toList p)=t:=⟨_,rfl⟩
 have HT:Hid (X9 s.data.toList p=t.data.toList):=by rw[Hid,←ht,Xz]
 rw[ht] at HN
 clear h ht
 by_cases he:t=u
 ·subst he
  have q1:(t.toList==t.toList)=true:=by simp
  have q2:(t.toList !=t.toList)=false:=by simp
  go_enter Tryz.func193,Tryz.ntmps193
  go_wp2_with fail
  refine HN.out.mono ?_
  rintro e w1 ⟨rfl,h1,h2⟩
  have H1:=Xa h1
  have H2:=Xa h2
  clear h1 h2
  go_wp2_with fail
  go_end0
  exact ⟨H2.out, .inl ⟨HT.out,rfl,H1.out⟩⟩
 ·have hne:t.data.toList≠u.data.toList:=fun e=>he (by rw[←Ql t,e,Ql])
  have HNE:Hid (X9 s.data.toList p≠u.data.toList):=by rw[Hid,HT.out];exact hne
  have q0:¬t.toList=u.toList:=fun e=>he (Xdn (by rw[e];simp))
  have q1:(t.toList==u.toList)=false:=by simpa using q0
  have q2:(t.toList !=u.toList)=true:=by simpa using q0
  clear he hne
  go_enter Tryz.func193,Tryz.ntmps193
  go_wp2_with fail
  refine HN.out.mono ?_
  rintro e w1 ⟨rfl,h1,h2⟩
  have H2:=Xa h2
  clear h1 h2
  go_wp2_with fail
  exact ⟨rfl,H2.out, .inr ⟨HNE.out,rfl⟩⟩

theorem Xki : (Tryz.prog.fieldsOf 110).toList.map (fun f => (f.name, f.type, f.offset)) = [("first", 5, 0), ("second", 5, 1)] := by kernel_rfl
theorem Xx0 {α β:Type} {l:List α} {f:α→β} {a b:β} (h:l.map f= [a,b]):∃x y,l= [x,y]∧f x=a∧f y=b:=by
 match l,h with
 | [x,y],h=>simp at h;exact ⟨x,y,rfl,h.1,h.2⟩
theorem Xdo (xs:Array Value) (o:Nat) (v:Value) (h:xs[o]? =some v) (w:World):(part 5 xs o).run Tryz.prog w= .ok v w:=by
 simp[part,go_sem,h]
theorem Xvu (a b c d:Int) (w:World):(Op.equal 110 (.agg #[.int .u8 a, .int .u8 b]) (.agg #[.int .u8 c, .int .u8 d])).run Tryz.prog w= .ok (decide (a=c)&&decide (b=d)) w:=by
 obtain ⟨f,g,hl,hf,hg⟩:=Xx0 Xki
 simp only[Prod.mk.injEq] at hf hg
 rw[Op.equal,show Op.maxDepth=9999+1 from rfl,run_equalIn_struct w 9999 110 _ _ (by kernel_rfl) (by kernel_rfl),hl]
 have n1 : f.name ≠ "_" := by rw [hf.1]; decide
 have n2 : g.name ≠ "_" := by rw [hg.1]; decide
 have p0:=fun w=>Xdo #[.int .u8 a, .int .u8 b] 0 (.int .u8 a) rfl w
 have p1:=fun w=>Xdo #[.int .u8 a, .int .u8 b] 1 (.int .u8 b) rfl w
 have p2:=fun w=>Xdo #[.int .u8 c, .int .u8 d] 0 (.int .u8 c) rfl w
 have p3:=fun w=>Xdo #[.int .u8 c, .int .u8 d] 1 (.int .u8 d) rfl w
 have q:∀(x y:Int) (w:World),(Op.equalIn 9999 5 (.int .u8 x) (.int .u8 y)).run Tryz.prog w= .ok (x==y) w:=fun x y w=>run_equalIn_int w 9998 5 .u8 .u8 x y Tryz.underlying5
 simp only[Op.eqFields,if_pos n1,if_pos n2,hf.2.1,hf.2.2,hg.2.1,hg.2.2,Sem.run_bind,p0,p2,q,Result.andThen_ok]
 by_cases h1:a=c
 ·by_cases h2:b=d
  ·simp[h1,h2,p1,p3,q]
   try simp[h1,h2] at p1
   try simp[p1,q]
  ·simp[h1,p1,p3,q,h2]
   try simp[h1] at p1
   try simp[p1,q,h2]
 ·simp[h1]
def Gu (a b:Nat):Nat→List (Nat×Nat×Int)→Option (Nat×Value)
 |_,[]=>none
 |i,x::l=>if a=x.1∧b=x.2.1 then some (i, .agg (Zq x.2.2).toArray) else Gu a b (i+1) l
theorem Xig (a b:Nat) (w:World):∀(l:List (Nat×Nat×Int)) (i j:Nat),(Instr.findAsking 110 (.agg #[.int .u8 (a:Int), .int .u8 (b:Int)]) (Xfb j l) i).run Tryz.prog w= .ok (Gu a b i l) w:=by
 intro l
 induction l with
 |nil=>intro i j;rfl
 | cons x l ih =>
  intro i j
  rw[Xfb,Instr.findAsking,Sem.run_bind]
  rw[show (Xvc j x).key= .agg #[.int .u8 (x.1:Int), .int .u8 (x.2.1:Int)] from rfl,Xvu,Result.andThen_ok]
  by_cases h:a=x.1∧b=x.2.1
  ·have e:(decide ((a:Int)=(x.1:Int))&&decide ((b:Int)=(x.2.1:Int)))=true:=by simp;omega
   rw[e,Gu,if_pos h];rfl
  ·have e:(decide ((a:Int)=(x.1:Int))&&decide ((b:Int)=(x.2.1:Int)))=false:=by
    rw[Bool.and_eq_false_iff];simp only[decide_eq_false_iff_not];omega
   rw[e,Gu,if_neg h];exact ih _ _
def Xih:Value:= .agg #[.int .i64 0, .string ByteArray.empty, .int .i64 0, .int .i64 0, .int .i64 0]
def Xh8 (a b:Nat):Value:=match Gu a b 0 signL with
 |some (_,v)=> .tuple #[v, .bool true]
 |none=> .tuple #[Xih, .bool false]
theorem Xii {w:World} {mb:Nat} (h:w.heap[mb]? =some (.map (Qr 10) 10)) (a b:Nat):(Instr.lookup 62 (.map (some mb)) (.agg #[.int .u8 (a:Int), .int .u8 (b:Int)]) true).run Tryz.prog w= .ok (Xh8 a b) w:=by
 have hu:=Tryz.underlying62
 have hg:(getObj mb).run Tryz.prog w= .ok (.map (Qr 10) 10) w:=by
  have hlt:mb<w.heap.size:=Wy h
  rw[Array.getElem?_eq_getElem hlt] at h
  simp[getObj,Sem.run,h,hlt]
 have hc:(Instr.checkKey (Qr 10).isEmpty 10000 110 (.agg #[.int .u8 (a:Int), .int .u8 (b:Int)])).run Tryz.prog w= .ok () w:=by kernel_rfl
 have hk:(Instr.findKey 110 (.agg #[.int .u8 (a:Int), .int .u8 (b:Int)]) (Qr 10).toList).run Tryz.prog w= .ok (Gu a b 0 signL) w:=by
  have hn:Instr.findNow (.struct (Tryz.prog.fieldsOf 110)) (.agg #[.int .u8 (a:Int), .int .u8 (b:Int)]) (Qr 10).toList 0=none:=by kernel_rfl
  have hf:=Xig a b w signL 0 0
  have hs:Tryz.prog.underlying 110=some (.struct (Tryz.prog.fieldsOf 110)):=by kernel_rfl
  unfold Instr.findKey
  simp only[Sem.run_bind,run_underlying hs,Result.andThen_ok,hn]
  exact hf
 have hz:(zeroValue 91).run Tryz.prog w= .ok Xih w:=by kernel_rfl
 unfold Instr.lookup
 simp only[Sem.run_bind,run_underlying hu,Result.andThen_ok,hg,Sem.run_pure,hc,hk]
 unfold Xh8
 cases hfs:Gu a b 0 signL with
 |none=>simp[hz]
 |some r=>obtain ⟨i,v⟩:=r;simp
def Ga (a b:Nat):Option Int:=(signL.find? (fun x=>decide (a=x.1)&&decide (b=x.2.1))).map (fun x=>x.2.2)
theorem Xvv (a b:Nat):∀(l:List (Nat×Nat×Int)) (i:Nat),(Gu a b i l).map (·.2)=(l.find? (fun x=>decide (a=x.1)&&decide (b=x.2.1))).map (fun x=>Value.agg (Zq x.2.2).toArray):=by
 intro l
 induction l with
 |nil=>intro i;rfl
 | cons x l ih =>
  intro i
  rw[Gu,List.find?_cons]
  by_cases h:a=x.1∧b=x.2.1
  ·rw[if_pos h,show (decide (a=x.1)&&decide (b=x.2.1))=true by simp[h.1,h.2]];rfl
  ·rw[if_neg h,show (decide (a=x.1)&&decide (b=x.2.1))=false by rw[Bool.and_eq_false_iff];simp only[decide_eq_false_iff_not];omega];exact ih _
theorem Xij (a b:Nat):Xh8 a b=match Ga a b with
  |some k=> .tuple #[.agg (Zq k).toArray, .bool true]
  |none=> .tuple #[Xih, .bool false]:=by
 have h:=Xvv a b signL 0
 unfold Xh8 Ga
 cases h1:Gu a b 0 signL with
 | none =>
  rw[h1] at h
  cases h2:signL.find? (fun x=>decide (a=x.1)&&decide (b=x.2.1)) with
  |none=>rfl
  |some x=>rw[h2] at h;cases h
 | some r =>
  rw[h1] at h
  cases h2:signL.find? (fun x=>decide (a=x.1)&&decide (b=x.2.1)) with
  |none=>rw[h2] at h;cases h
  | some x =>
   rw[h2] at h
   obtain ⟨i,v⟩:=r
   simp only[Option.map_some,Option.some.injEq] at h
   simp only[Option.map_some]
   rw[←h]
def Xik (c d:Nat):Option (Int×Nat):=
 if c=124 then some (6,1) else if c=44 then some (7,1) else if c=47∧d=47 then some (21,2) else if c=61∧d=61 then some (17,2) else if c=33∧d=61 then some (18,2)
 else if c=60∧d=61 then some (20,2) else if c=60 then some (19,1) else if c=43 then some (15,1) else if c=45 then some (16,1) else if c=63 then some (23,1) else none
theorem Kw {L:List UInt8} {p c:Nat} (hc:c≠0):Xe L p c=true↔Xh L p=c:=by
 rw[Xl]
 refine ⟨fun h=>h.2,fun h=>⟨?_,h⟩⟩
 rcases Nat.lt_or_ge p L.length with h'|h'
 ·exact h'
 ·have:=Q2 h';omega
theorem Xoy (L:List UInt8) (p:Nat):X0 L p=Xik (Xh L p) (Xh L (p+1)):=by
 unfold X0 Xik
 simp only[Kw (L:=L) (p:=p) (show (124:Nat)≠0 by decide),Kw (L:=L) (p:=p) (show (44:Nat)≠0 by decide),Kw (L:=L) (p:=p) (show (47:Nat)≠0 by decide),Kw (L:=L) (p:=p) (show (61:Nat)≠0 by decide),Kw (L:=L) (p:=p) (show (33:Nat)≠0 by decide),Kw (L:=L) (p:=p) (show (60:Nat)≠0 by decide),Kw (L:=L) (p:=p) (show (43:Nat)≠0 by decide),Kw (L:=L) (p:=p) (show (45:Nat)≠0 by decide),Kw (L:=L) (p:=p) (show (63:Nat)≠0 by decide),Kw (L:=L) (p:=p+1) (show (47:Nat)≠0 by decide),Kw (L:=L) (p:=p+1) (show (61:Nat)≠0 by decide)]
def Uj (c d:Nat):Option (Int×Nat):=match (if d=0 then none else Ga c d) with
 |some k=>some (k,2)
 |none=>(Ga c 0).map (fun k=>(k,1))
theorem Xea (a b:Nat):Ga a b=if a=124∧b=0 then some 6 else if a=44∧b=0 then some 7 else if a=47∧b=47 then some 21 else if a=61∧b=61 then some 17 else if a=33∧b=61 then some 18 else if a=60∧b=0 then some 19 else if a=60∧b=61 then some 20 else if a=43∧b=0 then some 15 else if a=45∧b=0 then some 16 else if a=63∧b=0 then some 23 else none:=by
 have key:∀(l:List (Nat×Nat×Int)) (x:Nat×Nat×Int),((x::l).find? (fun x=>decide (a=x.1)&&decide (b=x.2.1))).map (fun x=>x.2.2)=if a=x.1∧b=x.2.1 then some x.2.2 else (l.find? (fun x=>decide (a=x.1)&&decide (b=x.2.1))).map (fun x=>x.2.2):=fun l x=>by
  rw[List.find?_cons]
  by_cases h:a=x.1∧b=x.2.1
  ·rw[if_pos h,show (decide (a=x.1)&&decide (b=x.2.1))=true by simp[h.1,h.2]];rfl
  ·rw[if_neg h,show (decide (a=x.1)&&decide (b=x.2.1))=false by rw[Bool.and_eq_false_iff];simp only[decide_eq_false_iff_not];omega]
 unfold Ga signL
 simp only[key]
 rfl
theorem Xu7 (c d:Nat):Xik c d=Uj c d:=by
 unfold Uj
 by_cases hd:d=0
 ·subst hd
  rw[if_pos rfl,Xea]
  unfold Xik
  simp
  repeat' split
  all_goals first|rfl|omega
 ·rw[if_neg hd,Xea,Xea]
  unfold Xik
  by_cases h1:c=124
  ·subst h1;simp[hd]
  by_cases h2:c=44
  ·subst h2;simp[hd]
  by_cases h3:c=43
  ·subst h3;simp[hd]
  by_cases h4:c=45
  ·subst h4;simp[hd]
  by_cases h5:c=63
  ·subst h5;simp[hd]
  by_cases h6:c=60
  ·subst h6
   by_cases h7:d=61
   ·subst h7;simp
   ·simp[hd,h7]
  by_cases h8:c=47∧d=47
  ·simp[h8.1,h8.2]
  by_cases h9:c=61∧d=61
  ·simp[h9.1,h9.2]
  by_cases h10:c=33∧d=61
  ·simp[h10.1,h10.2]
  ·rw[if_neg h1,if_neg h2,if_neg h8,if_neg h9,if_neg h10,if_neg (fun e=>h6 e.1),if_neg h6,if_neg h3,if_neg h4,if_neg h5]
   simp[h1,h2,h3,h4,h5,h6,h8,h9,h10]

theorem Xxv {L u:List UInt8} {p:Nat} (h:Qp L p u=true) (hp:p≤L.length):p+u.length≤L.length:=by
 unfold Qp at h
 simp only[decide_eq_true_eq] at h
 have:=congrArg List.length h
 rw[List.length_take,List.length_drop] at this
 omega
set_option maxRecDepth 100000 in
theorem Xj8 {rb base p:Nat} {Z:Nat→Prop} {s u:ByteArray} {fs:List FN} {w:World} (h:LfAt w rb base Z s p false fs) (hs:s.size≤4000) (hu:u.size≤100) (hw:Qp s.data.toList (skF s.data.toList p) u.data.toList=true):
  Calls Tryz.prog 79 #[.pointer (some ⟨rb,0,none⟩), .string u] w fun e w'=>e= .returned (.bool true)∧LfAt w' rb base Z s (skF s.data.toList p+u.size) false fs∧LB rb base Z w w':=by
 have HBK:=Xa (Yy h hs)
 have hps:=h.le
 obtain ⟨q,hq⟩:∃q,skF s.data.toList p=q:=⟨_,rfl⟩
 have hql:q≤s.size:=by rw[←hq,←Xm];exact X1 (by rw[Xm];exact hps)
 rw[hq] at HBK hw⊢
 clear h hq
 have hfit:q+u.size≤s.size:=by have:=Xxv hw (by rw[Xm];exact hql);rw[Xm,Xm] at this;exact this
 have HT:Hid (Xab s.data.toList q u.size=u):=by rw[Xcm] at hw;simpa [Hid] using hw
 clear hw
 have g3:¬(s.size:Int)<(q:Int)+(u.size:Int):=by omega
 have d3:decide ((s.size:Int)<(q:Int)+(u.size:Int))=false:=by simpa using g3
 have e1:((q+u.size:Nat):Int)=(q:Int)+(u.size:Int):=by omega
 have hcut:∀w,(Instr.slice 9 (.string s) (some (.int .i64 (q:Int))) (some (.int .i64 ((q:Int)+(u.size:Int)))) none).run Tryz.prog w= .ok (.string u) w:=fun w=>by
  have:=Gk (P:=Tryz.prog) (t:=9) s q (q+u.size) Tryz.underlying9 (by omega) hfit w
  rw[e1,Nat.add_sub_cancel_left] at this
  have e:=HT.out
  unfold Xab at e
  rw[this,e]
 go_enter Tryz.func79,Tryz.ntmps79
 go_wp2_with fail
 refine HBK.out.mono ?_
 rintro e w1 ⟨rfl,h1,b1⟩
 have HF1:=Xa h1
 have HB1:=Xa b1
 obtain ⟨c0,c1,c2⟩:=h1.cells
 clear h1 b1
 go_wp2_with fail
 go_quiet (fail)
 have HD1:=Xa (Xq (w:=w1) nq)
 have HR1:=Xa (HF1.out.below HD1.out)
 obtain ⟨k0,k1,k2⟩:=HR1.out.cells
 have l1:=HR1.out.free 1
 have HB2:=Xa (HB1.out.trans (LB.of_below HD1.out))
 generalize w1.drewN nq=W1 at HR1 HD1 HB2 k0 k1 k2 l1⊢
 clear nq c0 c1 c2
 have HR2:=Xa (HR1.out.setP hfit)
 have HB3:=Xa (HB2.out.trans (LB.of_set 1 (.int .i64 ((q:Int)+(u.size:Int)))))
 rw[e1] at HR2
 go_wp2_with fail
 go_ret
 exact ⟨rfl,HR2.out,HB3.out⟩
set_option maxRecDepth 100000 in
theorem Ke {rb base p:Nat} {Z:Nat→Prop} {s u:ByteArray} {bad:Bool} {fs:List FN} {w:World} (h:LfAt w rb base Z s p bad fs) (hs:s.size≤4000) (hu:u.size≤100) (hw:bad=true∨Qp s.data.toList (skF s.data.toList p) u.data.toList=false):
  Calls Tryz.prog 79 #[.pointer (some ⟨rb,0,none⟩), .string u] w fun e w'=>e= .returned (.bool false)∧LfAt w' rb base Z s (skF s.data.toList p) bad fs∧LB rb base Z w w':=by
 have HBK:=Xa (Yy h hs)
 have hps:=h.le
 obtain ⟨q,hq⟩:∃q,skF s.data.toList p=q:=⟨_,rfl⟩
 have hql:q≤s.size:=by rw[←hq,←Xm];exact X1 (by rw[Xm];exact hps)
 rw[hq] at HBK hw⊢
 clear h hq
 cases hb:bad
 rotate_left
 focus
  subst hb
  go_enter Tryz.func79,Tryz.ntmps79
  go_wp2_with fail
  refine HBK.out.mono ?_
  rintro e w1 ⟨rfl,h1,b1⟩
  have HF1:=Xa h1
  have HB1:=Xa b1
  obtain ⟨c0,c1,c2⟩:=h1.cells
  clear h1 b1
  go_wp2_with fail
  go_quiet (fail)
 rotate_left
 focus
  subst hb
  have HT:Hid (Xab s.data.toList q u.size≠u):=by
   rcases hw with hw|hw
   ·cases hw
   ·rw[Xcm] at hw;simpa [Hid] using hw
  clear hw
  by_cases g3:s.size<q+u.size
  focus
   have g3':(s.size:Int)<(q:Int)+(u.size:Int):=by omega
   have d3:decide ((s.size:Int)<(q:Int)+(u.size:Int))=true:=by simpa using g3'
   go_enter Tryz.func79,Tryz.ntmps79
   go_wp2_with fail
   refine HBK.out.mono ?_
   rintro e w1 ⟨rfl,h1,b1⟩
   have HF1:=Xa h1
   have HB1:=Xa b1
   obtain ⟨c0,c1,c2⟩:=h1.cells
   clear h1 b1
   go_wp2_with fail
   go_quiet (fail)
  rotate_left
  focus
   have g3':¬(s.size:Int)<(q:Int)+(u.size:Int):=by omega
   have d3:decide ((s.size:Int)<(q:Int)+(u.size:Int))=false:=by simpa using g3'
   have e1:((q+u.size:Nat):Int)=(q:Int)+(u.size:Int):=by omega
   obtain ⟨T,hT⟩:∃T,Xab s.data.toList q u.size=T:=⟨_,rfl⟩
   have HTT:=Xa hT
   rw[hT] at HT
   clear hT
   have hcut:∀w,(Instr.slice 9 (.string s) (some (.int .i64 (q:Int))) (some (.int .i64 ((q:Int)+(u.size:Int)))) none).run Tryz.prog w= .ok (.string T) w:=fun w=>by
    have:=Gk (P:=Tryz.prog) (t:=9) s q (q+u.size) Tryz.underlying9 (by omega) (by omega) w
    rw[e1,Nat.add_sub_cancel_left] at this
    have e:=HTT.out
    unfold Xab at e
    rw[this,e]
   have hne:(T.toList==u.toList)=false:=by
    rw[Bool.eq_false_iff]
    exact fun e=>HT.out (Xdn e)
   have hne':¬T.toList=u.toList:=by simpa using hne
   go_enter Tryz.func79,Tryz.ntmps79
   go_wp2_with fail
   refine HBK.out.mono ?_
   rintro e w1 ⟨rfl,h1,b1⟩
   have HF1:=Xa h1
   have HB1:=Xa b1
   obtain ⟨c0,c1,c2⟩:=h1.cells
   clear h1 b1
   go_wp2_with fail
   go_quiet (fail)
 all_goals
  have HD1:=Xa (Xq (w:=w1) nq)
  have HR1:=Xa (HF1.out.below HD1.out)
  have HB2:=Xa (HB1.out.trans (LB.of_below HD1.out))
  generalize w1.drewN nq=W1 at HR1 HD1 HB2⊢
  go_wp2_with fail
  go_ret
  exact ⟨rfl,HR1.out,HB2.out⟩
theorem Zu {rb base p:Nat} {Z:Nat→Prop} {s:ByteArray} {bad:Bool} {fs:List FN} {w:World} (c:UInt8) (h:LfAt w rb base Z s p bad fs) (hs:s.size≤4000):
  Calls Tryz.prog 79 #[.pointer (some ⟨rb,0,none⟩), .string ⟨#[c]⟩] w fun e w'=>e= .returned (.bool (!bad&&Xe s.data.toList (skF s.data.toList p) c.toNat))∧LfAt w' rb base Z s (if (!bad&&Xe s.data.toList (skF s.data.toList p) c.toNat)=true then skF s.data.toList p+1 else skF s.data.toList p) bad fs∧LB rb base Z w w':=by
 have hw:Qp s.data.toList (skF s.data.toList p) (⟨#[c]⟩:ByteArray).data.toList=Xe s.data.toList (skF s.data.toList p) c.toNat:=Jd
 cases bad
 ·cases hi:Xe s.data.toList (skF s.data.toList p) c.toNat
  ·refine (Ke (u:=⟨#[c]⟩) h hs (by show (1:Nat)≤100;omega) (.inr (by rw[hw];exact hi))).mono ?_
   rintro e w1 ⟨rfl,h1,h2⟩
   exact ⟨rfl,h1,h2⟩
  ·refine (Xj8 (u:=⟨#[c]⟩) h hs (by show (1:Nat)≤100;omega) (by rw[hw];exact hi)).mono ?_
   rintro e w1 ⟨rfl,h1,h2⟩
   exact ⟨rfl,h1,h2⟩
 ·refine (Ke (u:=⟨#[c]⟩) h hs (by show (1:Nat)≤100;omega) (.inl rfl)).mono ?_
  rintro e w1 ⟨rfl,h1,h2⟩
  exact ⟨rfl,h1,h2⟩
set_option maxRecDepth 100000 in
theorem Gi {rb base p:Nat} {Z:Nat→Prop} {s:ByteArray} {bad:Bool} {fs:List FN} {w:World} (c:UInt8) (h:LfAt w rb base Z s p bad fs) (hs:s.size≤4000):
  Calls Tryz.prog 114 #[.pointer (some ⟨rb,0,none⟩), .string ⟨#[c]⟩] w fun e w'=>e= .returned (.tuple #[])∧LB rb base Z w w'∧((bad=false∧Xe s.data.toList (skF s.data.toList p) c.toNat=true∧LfAt w' rb base Z s (skF s.data.toList p+1) false fs)∨((bad=true∨Xe s.data.toList (skF s.data.toList p) c.toNat=false)∧LfAt w' rb base Z s (skF s.data.toList p) true fs)):=by
 have HI:=Xa (Zu c h hs)
 obtain ⟨q,hq⟩:∃q,skF s.data.toList p=q:=⟨_,rfl⟩
 rw[hq] at HI⊢
 clear h hq
 cases hr:(!bad&&Xe s.data.toList q c.toNat)
 ·rw[hr] at HI
  have HN:Hid (bad=true∨Xe s.data.toList q c.toNat=false):=by
   rw[Hid]
   cases bad
   ·right;simpa using hr
   ·left;rfl
  clear hr
  go_enter Tryz.func114,Tryz.ntmps114
  go_wp2_with fail
  refine HI.out.mono ?_
  rintro e w1 ⟨rfl,h1,b1⟩
  have h1':LfAt w1 rb base Z s q bad fs:=h1
  have HF1:=Xa (h1'.setB true)
  have HB1:=Xa (b1.trans (LB.of_set 2 (.bool true)))
  obtain ⟨c0,c1,c2⟩:=h1'.cells
  have f2:=h1'.free 2
  clear h1 h1' b1
  go_wp2_with fail
  go_end0
  exact ⟨rfl,HB1.out, .inr ⟨HN.out,HF1.out⟩⟩
 ·rw[hr] at HI
  have HN:Hid (bad=false∧Xe s.data.toList q c.toNat=true):=by
   rw[Hid]
   cases bad
   ·exact ⟨rfl,by simpa using hr⟩
   ·cases hr
  clear hr
  go_enter Tryz.func114,Tryz.ntmps114
  go_wp2_with fail
  refine HI.out.mono ?_
  rintro e w1 ⟨rfl,h1,b1⟩
  have HF1:=Xa h1
  have HB1:=Xa b1
  clear h1 b1
  go_wp2_with fail
  go_end0
  refine ⟨rfl,HB1.out, .inl ⟨HN.out.1,HN.out.2, ?_⟩⟩
  have:=HF1.out
  rw[HN.out.1] at this
  exact this

set_option maxRecDepth 100000 in
theorem Xbg {rb base p:Nat} {Z Z':Nat→Prop} {s:ByteArray} {bad:Bool} {fs:List FN} {w:World} {x:FN} {kc kn ki:Value} (h:LfAt w rb base Z s p bad fs)
  (hc:Nest base w kc x.cst Qt Qt) (hn:w.ownsRow base 9 1 kn x.names.length (x.names.map .string)) (hi:w.ownsRow base 2 1 ki x.kids.length (x.kids.map (.int .i64)))
  (hfr:∀y,kc.ownBlock=some y∨kn.ownBlock=some y∨ki.ownBlock=some y→Z y) (hz:∀y,Z' y→Z y∧¬(kc.ownBlock=some y∨kn.ownBlock=some y∨ki.ownBlock=some y)) (hl:fs.length≤4000):
  Calls Tryz.prog 80 #[.pointer (some ⟨rb,0,none⟩), .agg #[.int .i64 x.kind, .string x.name, .int .i64 x.place,kc,kn,ki]] w fun e w'=>e= .returned (.int .i64 (fs.length:Int))∧LfAt w' rb base Z' s p (bad||decide (40<fs.length+1)) (fs++ [x])∧LB rb base Z w w':=by
 obtain ⟨i0,hi0,hz0,hs0,hy0⟩:=info_parts Xqn
 obtain ⟨ac,cc,ekc⟩:=Ki hc.row
 obtain ⟨an,cn,ekn⟩:=Ki hn
 obtain ⟨ai,ci,eki⟩:=Ki hi
 obtain ⟨lc,hlc⟩:∃l,x.cst.length=l:=⟨_,rfl⟩
 obtain ⟨ln,hln⟩:∃l,x.names.length=l:=⟨_,rfl⟩
 obtain ⟨li,hli⟩:∃l,x.kids.length=l:=⟨_,rfl⟩
 rw[hlc] at ekc
 rw[hln] at ekn
 rw[hli] at eki
 clear hlc hln hli
 subst ekc ekn eki
 obtain ⟨⟨v,hblk,⟨C,N,I,hN,hZ⟩,hav⟩,hple,hrb,hsz,hzb⟩:=h
 have HAV:=Xb hav
 have HZB:=Xb hzb
 clear hav hzb
 have hrl:rb<w.heap.size:=by omega
 obtain ⟨av,cv,rfl⟩:∃a c,v= .slice a fs.length c:=FRow.slice (Z:=Z) ⟨C,N,I,hN,hZ⟩
 obtain ⟨L,hL⟩:∃L,fs.length=L:=⟨_,rfl⟩
 have HL:=Xb hL
 have HC:=Xb hc
 have HN:=Xb hn
 have HI:=Xb hi
 have HFR:=Xb hfr
 have HZP:=Xb hz
 have HNE:=Xb hN
 have HZ:=Xb hZ
 rw[hL] at hblk HNE HAV hl⊢
 clear hc hn hi hfr hz hN hZ hL
 obtain ⟨W2,hW2⟩:∃W2,w.alloc (.cells #[.int .i64 x.kind, .string x.name, .int .i64 x.place, .slice ac lc cc, .slice an ln cn, .slice ai li ci] 51)=W2:=⟨_,rfl⟩
 have hb2:W2.heap[w.heap.size]? =some (.cells #[.int .i64 x.kind, .string x.name, .int .i64 x.place, .slice ac lc cc, .slice an ln cn, .slice ai li ci] 51 (0,0)):=by rw[←hW2];exact heap_alloc_new w _
 have HBL2:Hid (Below w.heap.size w W2):=by rw[Hid,←hW2];exact (Below.refl _ _).alloc (Nat.le_refl _) _
 have hz2:W2.heap.size=w.heap.size+1:=by rw[←hW2];simp
 have HBK2:Hid (W2.heap[rb]? =some (.cells #[.string s, .int .i64 p, .bool bad, .slice av L cv] 77 (0,0))):=(HBL2.out.block rb hrl).trans hblk
 go_enter Tryz.func80,Tryz.ntmps80
 go_wp2_with fail
 (try rw[hW2])
 clear hW2 hblk
 have d0:W2.cell? ⟨w.heap.size,0,none⟩=some (.int .i64 x.kind):=cellAt hb2 rfl
 have d1:W2.cell? ⟨w.heap.size,1,none⟩=some (.string x.name):=cellAt hb2 rfl
 have d2:W2.cell? ⟨w.heap.size,2,none⟩=some (.int .i64 x.place):=cellAt hb2 rfl
 have d3:W2.cell? ⟨w.heap.size,3,none⟩=some (.slice ac lc cc):=cellAt hb2 rfl
 have d4:W2.cell? ⟨w.heap.size,4,none⟩=some (.slice an ln cn):=cellAt hb2 rfl
 have d5:W2.cell? ⟨w.heap.size,5,none⟩=some (.slice ai li ci):=cellAt hb2 rfl
 have HNE2:Hid (FNest base W2 (.slice av L cv) fs C N I):=HNE.out.keep (fun y hy=>HBL2.out.block y (HNE.out.row.lt y hy).2) (fun y hy=>HBL2.out.block y (HNE.out.sub hy).2)
 have q4:W2.cell? ⟨rb,3,none⟩=some (.slice av L cv):=cellAt HBK2.out rfl
 have g4:W2.frozen? ⟨rb,3,none⟩=false:=Lib.frozen_of_heap HBK2.out 3
 have hql:rb<W2.heap.size:=by omega
 have HROW:Hid (W2.ownsRow base 51 6 (.slice av L cv) L (Kx fs C N I)):=by have:=HNE2.out.row;rw[HL.out] at this;exact this
 obtain ⟨WA,hWA⟩:∃WA,W2.drew.alloc (.cells #[.int .i64 x.kind, .string x.name, .int .i64 x.place, .slice ac lc cc, .slice an ln cn, .slice ai li ci] 51)=WA:=⟨_,rfl⟩
 have HBLA:Hid (Below W2.heap.size W2 WA):=by rw[Hid,←hWA];exact (Below.refl _ _).drew.alloc (Nat.le_refl _) _
 have HRK:Hid ((W2.drew.alloc (.cells #[.int .i64 x.kind, .string x.name, .int .i64 x.place, .slice ac lc cc, .slice an ln cn, .slice ai li ci] 51)).ownsRow base 51 6 (.slice av L cv) L (Kx fs C N I)):=by rw[Hid,hWA];exact J0 HROW.out fun y hy=>HBLA.out.block y (HROW.out.lt y hy).2
 have HNW:Hid (∀j u,[Value.int .i64 x.kind, .string x.name, .int .i64 x.place, .slice ac lc cc, .slice an ln cn, .slice ai li ci][j]? =some u→(W2.drew.alloc (.cells #[.int .i64 x.kind, .string x.name, .int .i64 x.place, .slice ac lc cc, .slice an ln cn, .slice ai li ci] 51)).cell? ((⟨W2.heap.size,0,none⟩:Addr).add j)=some u):=World.news_of_block (cs:= #[.int .i64 x.kind, .string x.name, .int .i64 x.place, .slice ac lc cc, .slice an ln cn, .slice ai li ci]) (t:=51) (fr:=(0,0)) (heap_alloc_new W2.drew _)
 have hone:∀u∈ [Value.int .i64 x.kind, .string x.name, .int .i64 x.place, .slice ac lc cc, .slice an ln cn, .slice ai li ci],u.oneCell'=true:=fun u hu=>by
  simp at hu
  rcases hu with rfl|rfl|rfl|rfl|rfl|rfl<;>rfl
 have hbs:base≤(W2.drew.alloc (.cells #[.int .i64 x.kind, .string x.name, .int .i64 x.place, .slice ac lc cc, .slice an ln cn, .slice ai li ci] 51)).heap.size:=by simp;omega
 have htop:(W2.drew.alloc (.cells #[.int .i64 x.kind, .string x.name, .int .i64 x.place, .slice ac lc cc, .slice an ln cn, .slice ai li ci] 51)).heap.size=W2.heap.size+1:=by simp
 have HQK:Hid ((Value.slice av L cv).ownBlock≠some rb):=fun e=>by have:=(HROW.out.lt _ e).1;omega
 have HX0:Hid ((W2.drew.alloc (.cells #[.int .i64 x.kind, .string x.name, .int .i64 x.place, .slice ac lc cc, .slice an ln cn, .slice ai li ci] 51)).cell? ⟨rb,3,none⟩=some (.slice av L cv)):=Xfm q4 hql _
 have HF0:Hid ((W2.drew.alloc (.cells #[.int .i64 x.kind, .string x.name, .int .i64 x.place, .slice ac lc cc, .slice an ln cn, .slice ai li ci] 51)).frozen? ⟨rb,3,none⟩=false):=(((Below.refl W2.heap.size W2).drew.alloc (Nat.le_refl _) _).frozen (p:=⟨rb,3,none⟩) hql).trans g4
 have hml:L+1≤maxLen:=by unfold maxLen;omega
 have hby:(L+1) *104≤140737488355328:=by omega
 have HZ2:=Xb hz2
 have hz2':w.heap.size<W2.heap.size:=by omega
 clear hWA hb2 hz2
 go_region_law
  (refine step_append_lies _ (by rfl) _ _ _ (by rfl) base 51 i0 _ 6 104 Tryz.underlying24 hi0 hz0 hs0 hy0 rfl (by omega) (.slice av L cv) L (Kx fs C N I) (by rfl) HRK.out ⟨W2.heap.size,0,none⟩ 1 1 [.int .i64 x.kind, .string x.name, .int .i64 x.place, .slice ac lc cc, .slice an ln cn, .slice ai li ci] (by rfl) (by rfl) HNW.out hone (by omega) hml hby hbs (W2.heap.size+1) htop ?_;intro g5 cap5 w5 hown hgrow hat hlt5;have hS3:w5.cell? ⟨rb,3,none⟩=some (.slice av L cv):=(World.grownBy.cell_far hgrow ⟨rb,3,none⟩ (by simp;omega) (Ne.symm HQK.out)).trans HX0.out;have hf3:w5.frozen? ⟨rb,3,none⟩=false:=(World.grownBy.frozen_far hgrow ⟨rb,3,none⟩ (by simp;omega) (Ne.symm HQK.out)).trans HF0.out)
 all_goals
  have hgA:W2.grownBy w5 (Value.slice av L cv).ownBlock:=by
   refine World.grownBy.trans ?_ hgrow
   exact ⟨rfl,rfl,rfl,by simp,fun k hk _=>heap_alloc_old W2.drew _ hk⟩
  have HGA:=Xb hgA
  have HAT:=Xb hat
  have hbk5:w5.heap[rb]? =some (.cells #[.string s, .int .i64 p, .bool bad, .slice av L cv] 77 (0,0)):=(hgA.block rb hql (Ne.symm HQK.out)).trans HBK2.out
  have hq5:rb<w5.heap.size:=Nat.lt_of_lt_of_le hql hgA.size
  have HNE5:Hid (FNest base w5 (.slice (some ⟨g5,0,none⟩) (L+1) cap5) (fs++ [x]) (upd C fs.length (.slice ac lc cc)) (upd N fs.length (.slice an ln cn)) (upd I fs.length (.slice ai li ci))):=by
   refine HNE2.out.snoc (Xdp HC.out fun y hy=>HBL2.out.block y (HC.out.row.lt y hy).2) (J0 HN.out fun y hy=>HBL2.out.block y (HN.out.lt y hy).2) (J0 HI.out fun y hy=>HBL2.out.block y (HI.out.lt y hy).2) (fun y hy hsub=>HZ.out y hsub (HFR.out y hy)) (by rw[HL.out];exact hown) hgA
  obtain ⟨W6,hW6⟩:∃W6,w5.setCell ⟨rb,3,none⟩ (.slice (some ⟨g5,0,none⟩) (L+1) cap5)=W6:=⟨_,rfl⟩
  have hbk6:W6.heap[rb]? =some (.cells #[.string s, .int .i64 p, .bool bad, .slice (some ⟨g5,0,none⟩) (L+1) cap5] 77 (0,0)):=by rw[←hW6];exact setH hbk5 _
  have HB6:Hid (LB rb base Z w W6):=by rw[Hid,←hW6];exact ((LB.of_below HBL2.out).trans (LB.of_grown HROW.out HAV.out HGA.out)).trans (LB.of_set _ _)
  have HROW6:Hid (FRow base Z' W6 (.slice (some ⟨g5,0,none⟩) (L+1) cap5) (fs++ [x])):=by
   rw[Hid,←hW6]
   refine FRow.butF ⟨_,_,_,HNE5.out,fun y hy hzy=> ?_⟩ 3 _ hrb
   obtain ⟨h1,h2⟩:=HZP.out y hzy
   obtain ⟨j,hj,hy⟩:=hy
   rw[List.length_append,List.length_singleton] at hj
   by_cases e:j=fs.length
   ·subst e
    rw[Jj,Jj,Jj] at hy
    exact h2 hy
   ·rw[Vi (by omega),Vi (by omega),Vi (by omega)] at hy
    exact HZ.out y ⟨j,by omega,hy⟩ h1
  have HL6:Hid (LfAt W6 rb base Z' s p bad (fs++ [x])):=⟨⟨_,hbk6,HROW6.out,fun y hy hzy=>by
   have h1:=(HZP.out y hzy).1
   have e:g5=y:=by simpa [Value.ownBlock] using hy
   rcases HAT.out with e2|e2
   ·exact HAV.out y (by rw[←e];exact e2) h1
   ·have:=HZB.out y h1;omega⟩,hple,hrb,by have:=HB6.out.size;omega,fun y hy=>by have:=HZB.out y (HZP.out y hy).1;have:=HB6.out.size;omega⟩
  have t3:W6.cell? ⟨rb,3,none⟩=some (.slice (some ⟨g5,0,none⟩) (L+1) cap5):=cellAt hbk6 rfl
  have t2:W6.cell? ⟨rb,2,none⟩=some (.bool bad):=cellAt hbk6 rfl
  have u2:W6.frozen? ⟨rb,2,none⟩=false:=Lib.frozen_of_heap hbk6 2
  have HW6:=Xb hW6
  clear hown hgrow hgA hat hlt5 d0 d1 d2 d3 d4 d5 q4 g4 HRK HNW hone hbs htop HX0 HF0 hbk5 hbk6 hW6
  rw[HW6.out]
  by_cases h40:40<L+1
  focus
   have h40':(40:Int)<(L:Int)+1:=by omega
   have HL7:=Xb (HL6.out.setB true)
   have HB7:=Xb (HB6.out.trans (LB.of_set 2 (.bool true)))
   have t37:(W6.setCell ⟨rb,2,none⟩ (.bool true)).cell? ⟨rb,3,none⟩=some (.slice (some ⟨g5,0,none⟩) (L+1) cap5):=by rw[World.cell?_setCell_other (h:=by simp)];exact t3
   have HD:Hid ((bad||decide (40<L+1))=true):=by rw[Hid,decide_eq_true h40];simp
   go_wp2_with fail
   go_ret
   exact ⟨rfl,by first|exact HL7.out|(rw[HD.out];exact HL7.out),HB7.out⟩
  focus
   have h40':¬(40:Int)<(L:Int)+1:=by omega
   have HD:Hid ((bad||decide (40<L+1))=bad):=by rw[Hid,decide_eq_false h40];simp
   go_wp2_with fail
   go_ret
   exact ⟨rfl,by first|exact HL6.out|(rw[HD.out];exact HL6.out),HB6.out⟩

def wdJ (L:List UInt8) (q:Nat):Nat:=if Yu L q=true then nmJ L q else q
theorem Xzz (L:List UInt8) (q:Nat):WSp.nam L q=wdJ L q:=rfl
theorem Xxl {L:List UInt8} {q t:Nat} (hqt:q≤t) (hin:∀j,q≤j→j<t→nmC (Xh L j)=true∧j<L.length) (h0:q<t→Yu L q=true) (hstop:¬(t<L.length∧(Yt (Xh L t)=true∨(q<t∧Zk (Xh L t)=true)))):wdJ L q=t:=by
 have run:∀m a,a+m=t→(∀j,a≤j→j<t→nmC (Xh L j)=true∧j<L.length)→¬(t<L.length∧nmC (Xh L t)=true)→nmJ L a=t:=by
  intro m
  induction m with
  |zero=>intro a ha _ hs;rw[Nat.add_zero] at ha;subst ha;exact Q1 hs
  | succ m ih =>
   intro a ha hj hs
   obtain ⟨h1,h2⟩:=hj a (Nat.le_refl _) (by omega)
   have:nmJ L a=nmJ L (a+1):=Kb h2 h1
   rw[this]
   exact ih (a+1) (by omega) (fun j hj1 hj2=>hj j (by omega) hj2) hs
 unfold wdJ
 by_cases h:q<t
 ·rw[if_pos (h0 h)]
  refine run (t-q) q (by omega) hin (fun e=>hstop ⟨e.1, ?_⟩)
  have:=e.2
  unfold nmC at this
  rw[Bool.or_eq_true] at this
  rcases this with h'|h'
  ·exact .inl h'
  ·exact .inr ⟨h,h'⟩
 ·obtain rfl:q=t:=by omega
  rw[if_neg]
  intro e
  unfold Yu at e
  simp only[Bool.and_eq_true,decide_eq_true_eq] at e
  exact hstop ⟨e.1, .inl e.2⟩
set_option maxRecDepth 100000 in
theorem Uv {rb base p : Nat} {Z : Nat → Prop} {s : ByteArray} {bad : Bool} {fs : List FN} {w : World} (h : LfAt w rb base Z s p bad fs) (hs : s.size ≤ 4000) :
  Calls Tryz.prog 119 #[.pointer (some ⟨rb,0,none⟩)] w fun e w'=>LB rb base Z w w'∧e= .returned (.string (if bad=true then ⟨#[]⟩ else txt ((s.data.toList.drop (skF s.data.toList p)).take (wdJ s.data.toList (skF s.data.toList p)-skF s.data.toList p))))∧LfAt w' rb base Z s (if bad=true then skF s.data.toList p else wdJ s.data.toList (skF s.data.toList p)) bad fs:=by
 have HBK:=Xa (Yy h hs)
 have hps:=h.le
 have HLN:=Xa (Xm s)
 obtain ⟨q,hq⟩:∃q,skF s.data.toList p=q:=⟨_,rfl⟩
 have hql:q≤s.size:=by rw[←hq,←Xm];exact X1 (by rw[Xm];exact hps)
 rw[hq] at HBK⊢
 clear h hq
 obtain ⟨rv,hrv⟩:∃rv,(if bad=true then (⟨#[]⟩:ByteArray) else txt ((s.data.toList.drop q).take (wdJ s.data.toList q-q)))=rv:=⟨_,rfl⟩
 obtain ⟨rp,hrp⟩:∃rp,(if bad=true then q else wdJ s.data.toList q)=rp:=⟨_,rfl⟩
 rw[hrv,hrp]
 have HRV:=Xa hrv
 have HRP:=Xa hrp
 clear hrv hrp
 go_enter Tryz.func119,Tryz.ntmps119
 go_wp2_with fail
 refine HBK.out.mono ?_
 rintro e w1 ⟨rfl,h1,b1⟩
 have HF1:=Xa h1
 have HB1:=Xa b1
 obtain ⟨c0,c1,c2⟩:=h1.cells
 have l1:=h1.free 1
 clear h1 b1
 go_wp2_with fail
 go_loopw [3,25] (fun tv _ wr=>wr=w1∧∃t:Nat,tv= .int .i64 (t:Int)∧q≤t∧t≤s.size∧Hid ((∀j,q≤j→j<t→nmC (Xh s.data.toList j)=true∧j<s.data.toList.length)∧(q<t→Yu s.data.toList q=true))) (fun tv _ _=>s.size-(intOf tv).toNat)
 case atStart=>exact ⟨rfl,q,rfl,Nat.le_refl _,hql,fun j h1 h2=>by omega,fun h=>by omega⟩
 case round =>
  obtain ⟨rfl,t,rfl,hqt,hts,HIN⟩:=hrel
  have HEND:Hid (¬(t<s.data.toList.length∧(Yt (Xh s.data.toList t)=true∨(q<t∧Zk (Xh s.data.toList t)=true)))→wdJ s.data.toList q=t):=fun hst=>Xxl hqt HIN.out.1 HIN.out.2 hst
  have hcut:∀w,(Instr.slice 9 (.string s) (some (.int .i64 (q:Int))) (some (.int .i64 (t:Int))) none).run Tryz.prog w= .ok (.string (txt ((s.data.toList.drop q).take (t-q)))) w:=fun w=>Gk (P:=Tryz.prog) (t:=9) s q t Tryz.underlying9 hqt hts w
  by_cases hlt:t<s.size
  focus
   have hlt':(t:Int)<(s.size:Int):=by omega
   have HB:=Xa (byS hlt)
   obtain ⟨c,hc⟩:∃c,s[t].toNat=c:=⟨_,rfl⟩
   have hc256:c<256:=by rw[←hc];exact s[t].toNat_lt
   have HC:Hid (Xh s.data.toList t=c):=by rw[Hid,←HB.out];exact hc
   have HLT:Hid (t<s.data.toList.length):=by rw[Hid,HLN.out];exact hlt
   have HLL:=Xa (Kz c)
   have HNEXT:Hid (Yt c=true∨(q<t∧Zk c=true)→(∀j,q≤j→j<t+1→nmC (Xh s.data.toList j)=true∧j<s.data.toList.length)∧(q<t+1→Yu s.data.toList q=true)):=fun hx=>by
    refine ⟨fun j h1 h2=> ?_,fun _=> ?_⟩
    ·by_cases e:j=t
     ·subst e
      refine ⟨?_,HLT.out⟩
      rw[HC.out]
      unfold nmC
      rcases hx with hx|hx
      ·rw[hx];rfl
      ·rw[hx.2];simp
     ·exact HIN.out.1 j h1 (by omega)
    ·by_cases e:q<t
     ·exact HIN.out.2 e
     ·obtain rfl:q=t:=by omega
      rcases hx with hx|hx
      ·unfold Yu;rw[HC.out,hx,decide_eq_true HLT.out];rfl
      ·omega
   cases hl:Yt c
   focus
    rw[hl] at HLL
    by_cases hqt2:q<t
    focus
     have hqt2':(q:Int)<(t:Int):=by omega
     by_cases hd1:48≤c
     focus
      have hd1':(48:Int)≤(c:Int):=by omega
      by_cases hd2:c≤57
      focus
       have hd2':(c:Int)≤57:=by omega
       have HN:=Xa (HNEXT.out (.inr ⟨hqt2,by unfold Zk;simp;omega⟩))
       clear hl HNEXT HEND
       go_wp2_with (go_at_call 103;refine (HLL.out _ hc256).mono ?_;rintro e w2 ⟨rfl,hw2⟩;have hw3:=hw2.symm;clear hw2;subst hw3)
       go_roundw
       case rel=>exact ⟨by trivial,t+1,by go_num,by omega,by omega,HN.out⟩
       case measure=>simp[intOf];omega
      focus
       have hd2':¬(c:Int)≤57:=by omega
       have HWD:=Xa (HEND.out (fun e=>by
        rw[HC.out] at e
        rcases e.2 with e|e
        ·rw[hl] at e;cases e
        ·have:=e.2;unfold Zk at this;simp at this;omega))
       clear hl HNEXT HEND
       go_wp2_with (go_at_call 103;refine (HLL.out _ hc256).mono ?_;rintro e w2 ⟨rfl,hw2⟩;have hw3:=hw2.symm;clear hw2;subst hw3)
     rotate_left
     focus
      have hd1':¬(48:Int)≤(c:Int):=by omega
      have HWD:=Xa (HEND.out (fun e=>by
       rw[HC.out] at e
       rcases e.2 with e|e
       ·rw[hl] at e;cases e
       ·have:=e.2;unfold Zk at this;simp at this;omega))
      clear hl HNEXT HEND
      go_wp2_with (go_at_call 103;refine (HLL.out _ hc256).mono ?_;rintro e w2 ⟨rfl,hw2⟩;have hw3:=hw2.symm;clear hw2;subst hw3)
    rotate_left 2
    focus
     have hqt2':¬(q:Int)<(t:Int):=by omega
     have HWD:=Xa (HEND.out (fun e=>by
      rw[HC.out] at e
      rcases e.2 with e|e
      ·rw[hl] at e;cases e
      ·exact hqt2 e.1))
     clear hl HNEXT HEND
     go_wp2_with (go_at_call 103;refine (HLL.out _ hc256).mono ?_;rintro e w2 ⟨rfl,hw2⟩;have hw3:=hw2.symm;clear hw2;subst hw3)
   rotate_left 3
   focus
    rw[hl] at HLL
    have HN:=Xa (HNEXT.out (.inl hl))
    clear hl HNEXT HEND
    go_wp2_with (go_at_call 103;refine (HLL.out _ hc256).mono ?_;rintro e w2 ⟨rfl,hw2⟩;have hw3:=hw2.symm;clear hw2;subst hw3)
    go_roundw
    case rel=>exact ⟨by trivial,t+1,by go_num,by omega,by omega,HN.out⟩
    case measure=>simp[intOf];omega
  rotate_left 3
  focus
   have hlt':¬(t:Int)<(s.size:Int):=by omega
   have HWD:=Xa (HEND.out (fun e=>by have:=e.1;rw[HLN.out] at this;omega))
   clear HEND
   go_wp2_with fail
  all_goals
   go_quiet (fail)
   have HD:=Xa (Xq (w:=wr) nq)
   have HF2:=Xa (HF1.out.below HD.out)
   have HB2:=Xa (HB1.out.trans (LB.of_below HD.out))
   clear c0 c1 c2 l1
   obtain ⟨c0,c1,c2⟩:=HF2.out.cells
   have l1:=HF2.out.free 1
   generalize wr.drewN nq=W2 at HD HF2 HB2 c0 c1 c2 l1⊢
   clear nq
   cases hb:bad
   ·subst hb
    have HF3:=Xa (HF2.out.setP hts)
    have HB3:=Xa (HB2.out.trans (LB.of_set 1 (.int .i64 (t:Int))))
    have HV:Hid (txt ((s.data.toList.drop q).take (t-q))=rv):=by rw[Hid,←HRV.out,if_neg (by decide),HWD.out]
    have HP:Hid (t=rp):=by rw[Hid,←HRP.out,if_neg (by decide),HWD.out]
    go_wp2_with fail
    go_ret
    exact ⟨HB3.out,by rw[←HV.out];rfl,by rw[←HP.out];exact HF3.out⟩
   ·subst hb
    have HV:Hid ((⟨#[]⟩:ByteArray)=rv):=by rw[Hid,←HRV.out,if_pos rfl]
    have HP:Hid (q=rp):=by rw[Hid,←HRP.out,if_pos rfl]
    go_wp2_with fail
    go_ret
    exact ⟨HB2.out,by rw[←HV.out];rfl,by rw[←HP.out];exact HF2.out⟩

def LfOr (r:RF) (rb base:Nat) (Z:Nat→Prop) (s:ByteArray) (p0:Nat) (w:World) (e:Ending) (w':World):Prop:=
 LB rb base Z w w'∧∃(n:Int) (fs':List FN) (p':Nat),e= .returned (.int .i64 n)∧p0≤p'∧((r=some (n,fs',skF s.data.toList p')∧LfAt w' rb base Z s p' false fs'∧fs'.length≤40)∨(r=none∧fs'.length+p0≤42+p'∧LfAt w' rb base Z s p' true fs'))
theorem LfOr.of {r r':RF} {rb base p0:Nat} {Z:Nat→Prop} {s:ByteArray} {w w':World} {e:Ending} (hr:r=r') (h:LfOr r' rb base Z s p0 w e w'):LfOr r rb base Z s p0 w e w':=by rw[hr];exact h
theorem LfOr.after {r:RF} {rb base p0 p1:Nat} {Z:Nat→Prop} {s:ByteArray} {w w1 w':World} {e:Ending} (hb:LB rb base Z w w1) (hp:p0≤p1) (h:LfOr r rb base Z s p1 w1 e w'):LfOr r rb base Z s p0 w e w':=by
 obtain ⟨h1,n,fs',p',he,hq,hc⟩:=h
 refine ⟨hb.trans h1,n,fs',p',he,by omega, ?_⟩
 rcases hc with hc|⟨a,b,c⟩
 ·exact .inl hc
 ·exact .inr ⟨a,by omega,c⟩
theorem LfOr.add {x:FN} {fs:List FN} {rb base p0 p':Nat} {Z:Nat→Prop} {s:ByteArray} {w w':World} (h:LfAt w' rb base Z s p' (false||decide (40<fs.length+1)) (fs++ [x])) (hfs:fs.length≤40) (hp:p0≤p') (hb:LB rb base Z w w'):LfOr (Xu WSp x fs (skF s.data.toList p')) rb base Z s p0 w (.returned (.int .i64 (fs.length:Int))) w':=by
 refine ⟨hb,_,fs++ [x],p',rfl,hp, ?_⟩
 by_cases hk:40<fs.length+1
 ·right
  refine ⟨by unfold Xu;rw[if_pos ⟨rfl,hk⟩],by simp;omega, ?_⟩
  have e:(false||decide (40<fs.length+1))=true:=by simp[hk]
  rw[e] at h;exact h
 ·left
  refine ⟨by unfold Xu;rw[if_neg (fun e=>hk e.2)], ?_,by simp;omega⟩
  have e:(false||decide (40<fs.length+1))=false:=by simp[hk]
  rw[e] at h;exact h
theorem LfOr.addB {r:RF} {x:FN} {fs:List FN} {rb base p0 p':Nat} {Z:Nat→Prop} {s:ByteArray} {w w':World} (hr:r=none) (h:LfAt w' rb base Z s p' (true||decide (40<fs.length+1)) (fs++ [x])) (hfs:fs.length+1+p0≤42+p') (hp:p0≤p') (hb:LB rb base Z w w'):LfOr r rb base Z s p0 w (.returned (.int .i64 (fs.length:Int))) w':=by
 refine ⟨hb,_,fs++ [x],p',rfl,hp, .inr ⟨hr,by simp;omega, ?_⟩⟩
 rw[Bool.true_or] at h;exact h
theorem LfOr.no {r:RF} {fs:List FN} {n:Int} {rb base p0 p':Nat} {Z:Nat→Prop} {s:ByteArray} {w w':World} (hr:r=none) (h:LfAt w' rb base Z s p' true fs) (hfs:fs.length+p0≤42+p') (hp:p0≤p') (hb:LB rb base Z w w'):LfOr r rb base Z s p0 w (.returned (.int .i64 n)) w':=⟨hb,n,fs,p',rfl,hp, .inr ⟨hr,hfs,h⟩⟩
theorem Qn {rb base p:Nat} {Z:Nat→Prop} {s:ByteArray} {bad:Bool} {fs:List FN} {w:World} (h:LfAt w rb base Z s p bad fs) (hl:fs.length≤4000) (k:Int) (nm:ByteArray) (pl:Int):
  Calls Tryz.prog 80 #[.pointer (some ⟨rb,0,none⟩), .agg #[.int .i64 k, .string nm, .int .i64 pl, .slice none 0 0, .slice none 0 0, .slice none 0 0]] w fun e w'=>e= .returned (.int .i64 (fs.length:Int))∧LfAt w' rb base Z s p (bad||decide (40<fs.length+1)) (fs++ [⟨k,nm,pl,[],[],[]⟩])∧LB rb base Z w w':=
 Xbg (x:=⟨k,nm,pl,[],[],[]⟩) h (U2 _ _) (World.ownsRow_nil _ _ _ _) (World.ownsRow_nil _ _ _ _) (fun y hy=>by rcases hy with e|e|e<;>cases e) (fun y hy=>⟨hy,fun e=>by rcases e with e|e|e<;>cases e⟩) hl
theorem Xo5 (w:World) (base:Nat) (ks:List Int) (hb:base≤w.heap.size) (hn:ks.length≤1000):(w.alloc (.cells (ks.map (Value.int .i64)).toArray 2)).ownsRow base 2 1 (.slice (some ⟨w.heap.size,0,none⟩) ks.length ks.length) ks.length (ks.map (.int .i64)):=by
 have:=World.ownsRow_lit (base:=base) (e:=2) (size:=1) w (ks.map (Value.int .i64)).toArray ks.length hb (by unfold maxLen;omega) (by simp)
 simpa using this
theorem Xad {rb base p:Nat} {Z:Nat→Prop} {s:ByteArray} {bad:Bool} {fs:List FN} {w:World} (h:LfAt w rb base Z s p bad fs) (hZ:∀x,Z x→x<w.heap.size) (hl:fs.length≤4000) (k:Int) (ks:List Int) (hn:ks.length≤1000):
  Calls Tryz.prog 80 #[.pointer (some ⟨rb,0,none⟩), .agg #[.int .i64 k, .string ByteArray.empty, .int .i64 0, .slice none 0 0, .slice none 0 0, .slice (some ⟨w.heap.size,0,none⟩) ks.length ks.length]] (w.alloc (.cells (ks.map (Value.int .i64)).toArray 2)) fun e w'=>e= .returned (.int .i64 (fs.length:Int))∧LfAt w' rb base Z s p (bad||decide (40<fs.length+1)) (fs++ [Yw k ks])∧LB rb base Z w w':=by
 have hb:Below w.heap.size w (w.alloc (.cells (ks.map (Value.int .i64)).toArray 2)):=(Below.refl _ _).alloc (Nat.le_refl _) _
 refine (Xbg (Z:=fun x=>Z x∨x=w.heap.size) (Z':=Z) (x:=Yw k ks) (h.fresh hb (fun x hx=>by rcases hx with hx|hx;exact .inl hx;exact .inr (by omega)) (fun x hx=>by have:=hb.size;rw[show (w.alloc (.cells (ks.map (Value.int .i64)).toArray 2)).heap.size=w.heap.size+1 by simp];rcases hx with hx|hx;have:=hZ x hx;omega;omega)) (U2 _ _) (World.ownsRow_nil _ _ _ _) (Xo5 w base ks h.sz hn) (fun y hy=> ?_) (fun y hy=>⟨.inl hy,fun e=> ?_⟩) hl).mono ?_
 ·rcases hy with e|e|e
  ·cases e
  ·cases e
  ·simp[Value.ownBlock] at e;exact .inr e.symm
 ·rcases e with e|e|e
  ·cases e
  ·cases e
  ·simp[Value.ownBlock] at e;have:=hZ y hy;omega
 ·rintro e w' ⟨rfl,h1,h2⟩
  exact ⟨rfl,h1,(LB.of_below hb).trans (h2.mono fun x hx=> .inl hx)⟩
set_option maxRecDepth 100000 in
theorem Xkm {rb base p:Nat} {Z Z':Nat→Prop} {s:ByteArray} {bad:Bool} {fs:List FN} {w:World} {v:VN} {kc:Value} (h:LfAt w rb base Z s p bad fs) (hc:Nest base w kc [v] Qt Qt) (hfr:∀y,kc.ownBlock=some y→Z y) (hz:∀y,Z' y→Z y∧¬kc.ownBlock=some y) (hl:fs.length≤4000):
  Calls Tryz.prog 117 #[.pointer (some ⟨rb,0,none⟩),kc] w fun e w'=>e= .returned (.int .i64 (fs.length:Int))∧LfAt w' rb base Z' s p (bad||decide (40<fs.length+1)) (fs++ [Zt v])∧LB rb base Z w w':=by
 have HA:=Xa (Xbg (Z':=Z') (x:=Zt v) (kc:=kc) (kn:= .slice none 0 0) (ki:= .slice none 0 0) h hc (World.ownsRow_nil _ _ _ _) (World.ownsRow_nil _ _ _ _) (fun y hy=>by rcases hy with e|e|e;exact hfr y e;cases e;cases e) (fun y hy=>⟨(hz y hy).1,fun e=>by rcases e with e|e|e;exact (hz y hy).2 e;cases e;cases e⟩) hl)
 obtain ⟨ac,cc,ekc⟩:=Ki hc.row
 clear h hc hfr hz
 subst ekc
 go_enter Tryz.func117,Tryz.ntmps117
 go_wp2_with fail
 refine HA.out.mono ?_
 rintro e w1 ⟨rfl,h1,b1⟩
 have HF1:=Xa h1
 have HB1:=Xa b1
 clear h1 b1
 go_wp2_with fail
 go_ret
 exact ⟨rfl,HF1.out,HB1.out⟩

theorem Xp5 {L:List UInt8} {q:Nat} {c:UInt8} {u:List UInt8} (hc:Yt c.toNat=true) (hne:¬(L.drop q).take (wdJ L q-q)=c::u):X9 L q≠c::u:=by
 intro h
 unfold wdJ at hne
 by_cases hl:Yu L q=true
 ·rw[if_pos hl] at hne;exact hne h
 ·unfold X9 at h
  have hq:q<L.length:=by
   by_cases hq:q<L.length
   ·exact hq
   ·rw[List.drop_eq_nil_of_le (by omega)] at h;simp at h
  have hm:0<nmJ L q-q:=by
   by_cases hm:0<nmJ L q-q
   ·exact hm
   ·rw[show nmJ L q-q=0 by omega] at h;simp at h
  have hb:Xh ((L.drop q).take (nmJ L q-q)) 0=Xh L (q+0):=V2 hm
  rw[h] at hb
  have:Xh L q=c.toNat:=hb.symm
  exact hl (by unfold Yu;rw[this,hc];simp[hq])
theorem Xhv {L:List UInt8} {q:Nat} {c:UInt8} {u:List UInt8} (he:(L.drop q).take (wdJ L q-q)=c::u):X9 L q=c::u∧wdJ L q=nmJ L q:=by
 by_cases hl:Yu L q=true
 ·have:wdJ L q=nmJ L q:=by unfold wdJ;rw[if_pos hl]
  rw[this] at he
  exact ⟨he,this⟩
 ·unfold wdJ at he;rw[if_neg hl] at he;simp at he
set_option maxRecDepth 100000 in
theorem Xfh {rb base p:Nat} {Z:Nat→Prop} {s u:ByteArray} {bad:Bool} {fs:List FN} {w:World} (h:LfAt w rb base Z s p bad fs) (hs:s.size≤4000) (hu:∃c l,u.data.toList=c::l∧Yt c.toNat=true):
  Calls Tryz.prog 156 #[.pointer (some ⟨rb,0,none⟩), .string u] w fun e w'=>e= .returned (.tuple #[])∧LB rb base Z w w'∧((bad=false∧X9 s.data.toList (skF s.data.toList p)=u.data.toList∧LfAt w' rb base Z s (nmJ s.data.toList (skF s.data.toList p)) false fs)∨((bad=true∨X9 s.data.toList (skF s.data.toList p)≠u.data.toList)∧∃p',p≤p'∧LfAt w' rb base Z s p' true fs)):=by
 have HW:=Xa (Uv h hs)
 have hsk:=Xw s.data.toList p
 obtain ⟨q,hq⟩:∃q,skF s.data.toList p=q:=⟨_,rfl⟩
 rw[hq] at HW hsk⊢
 obtain ⟨c,l,hul,hcl⟩:=hu
 have hwq:q≤wdJ s.data.toList q:=by
  unfold wdJ;split
  ·exact Zh _ _ _
  ·exact Nat.le_refl _
 clear h hq
 obtain ⟨T,hT⟩:∃T,(if bad=true then (⟨#[]⟩:ByteArray) else txt ((s.data.toList.drop q).take (wdJ s.data.toList q-q)))=T:=⟨_,rfl⟩
 obtain ⟨P,hP⟩:∃P,(if bad=true then q else wdJ s.data.toList q)=P:=⟨_,rfl⟩
 rw[hT,hP] at HW
 have hpP:p≤P:=by rw[←hP];split<;>omega
 by_cases he:T=u
 ·subst he
  have HYES:Hid (bad=false∧X9 s.data.toList q=T.data.toList∧P=nmJ s.data.toList q):=by
   rw[Hid]
   cases hb:bad
   ·rw[hb,if_neg (by decide)] at hT hP
    have e1:(s.data.toList.drop q).take (wdJ s.data.toList q-q)=c::l:=by rw[←hul,←hT,Xz]
    have e2:=Xhv e1
    exact ⟨rfl,by rw[hul];exact e2.1,by rw[←hP];exact e2.2⟩
   ·rw[hb,if_pos rfl] at hT
    rw[←hT] at hul;simp at hul
  clear hT hP hul hcl hwq hsk
  have q1:(T.toList==T.toList)=true:=by simp
  have q2:(T.toList !=T.toList)=false:=by simp
  go_enter Tryz.func156,Tryz.ntmps156
  go_wp2_with fail
  refine HW.out.mono ?_
  rintro e w1 ⟨b1,rfl,h1⟩
  have HF1:=Xa h1
  have HB1:=Xa b1
  clear h1 b1
  go_wp2_with fail
  go_end0
  refine ⟨rfl,HB1.out, .inl ⟨HYES.out.1,HYES.out.2.1, ?_⟩⟩
  have:=HF1.out
  rw[HYES.out.1,HYES.out.2.2] at this
  exact this
 ·have HNO:Hid (bad=true∨X9 s.data.toList q≠u.data.toList):=by
   rw[Hid]
   cases hb:bad
   ·right
    rw[hb,if_neg (by decide)] at hT
    rw[hul]
    refine Xp5 hcl (fun e=>he ?_)
    rw[←hT,e,←hul,Ql]
   ·left;rfl
  have q0:¬T.toList=u.toList:=fun e=>he (Xdn (by rw[e];simp))
  have q1:(T.toList==u.toList)=false:=by simpa using q0
  have q2:(T.toList !=u.toList)=true:=by simpa using q0
  clear he hT hP hul hcl hwq hsk
  go_enter Tryz.func156,Tryz.ntmps156
  go_wp2_with fail
  refine HW.out.mono ?_
  rintro e w1 ⟨b1,rfl,h1⟩
  have HF1:=Xa (h1.setB true)
  have HB1:=Xa (b1.trans (LB.of_set 2 (.bool true)))
  obtain ⟨c0,c1,c2⟩:=h1.cells
  have f2:=h1.free 2
  clear h1 b1
  go_wp2_with fail
  go_end0
  exact ⟨rfl,HB1.out, .inr ⟨HNO.out,P,hpP,HF1.out⟩⟩

set_option maxRecDepth 100000 in
theorem Xhj {rb base p:Nat} {Z:Nat→Prop} {s:ByteArray} {bad:Bool} {fs:List FN} {w:World} (h:LfAt w rb base Z s p bad fs) (hs:s.size≤4000):
  Calls Tryz.prog 122 #[.pointer (some ⟨rb,0,none⟩)] w fun e w'=>LB rb base Z w w'∧∃n,e= .returned (.int .i64 n)∧((Q6 (Jb s.data.toList (skF s.data.toList p))=some n∧LfAt w' rb base Z s (dgJ s.data.toList (Yc s.data.toList (skF s.data.toList p))) bad fs)∨(Q6 (Jb s.data.toList (skF s.data.toList p))=none∧n=0∧LfAt w' rb base Z s (skF s.data.toList p) true fs)):=by
 have HBK:=Xa (Yy h hs)
 have hps:=h.le
 have HLN:=Xa (Xm s)
 obtain ⟨q,hq⟩:∃q,skF s.data.toList p=q:=⟨_,rfl⟩
 have hql:q≤s.size:=by rw[←hq,←Xm];exact X1 (by rw[Xm];exact hps)
 rw[hq] at HBK⊢
 clear h hq
 obtain ⟨q0,hq0⟩:∃q0,Yc s.data.toList q=q0:=⟨_,rfl⟩
 have HQ0:=Xa hq0
 have hq0s:q0≤s.size:=by rw[←hq0,←HLN.out];exact Xcg (by rw[HLN.out];exact hql)
 have hpq0:q≤q0:=by rw[←hq0];exact Wb _ _
 have HEND:Hid (Jb s.data.toList q=(s.data.toList.drop q).take (dgJ s.data.toList q0-q)):=by rw[Hid];unfold Jb;rw[hq0]
 have HIS:Hid (q0=if Xe s.data.toList q 45=true then q+1 else q):=by rw[Hid,←hq0];rfl
 obtain ⟨N,hN⟩:∃N,Jb s.data.toList q=N:=⟨_,rfl⟩
 have HNN:=Xa hN
 obtain ⟨D,hD⟩:∃D,dgJ s.data.toList q0=D:=⟨_,rfl⟩
 have HDD:=Xa hD
 rw[hq0,hN,hD]
 clear hq0 hN hD
 go_enter Tryz.func122,Tryz.ntmps122
 go_wp2_with fail
 refine HBK.out.mono ?_
 rintro e w1 ⟨rfl,h1,b1⟩
 have HF1:=Xa h1
 have HB1:=Xa b1
 obtain ⟨c0,c1,c2⟩:=h1.cells
 have l1:=h1.free 1
 have l2:=h1.free 2
 clear h1 b1
 by_cases hlt:q<s.size
 focus
  have hlt':(q:Int)<(s.size:Int):=by omega
  have HB:=Xa (byS hlt)
  obtain ⟨c,hc⟩:∃c,s[q].toNat=c:=⟨_,rfl⟩
  have HC:Hid (Xh s.data.toList q=c):=by rw[Hid,←HB.out];exact hc
  by_cases h45:c=45
  focus
   have h45':((c:Int)==45)=true:=by rw[h45];rfl
   have h45'':(c:Int)=45:=by omega
   have hqq:q0=q+1:=by rw[HIS.out,if_pos (Xl.2 ⟨by rw[HLN.out];exact hlt,by rw[HC.out];exact h45⟩)]
   have HQZ:Hid ((q:Int)+1=(q0:Int)):=by rw[Hid];omega
   clear hqq h45
   go_wp2_with fail
  rotate_left
  focus
   have h45':((c:Int)==45)=false:=by simp;omega
   have h45'':¬(c:Int)=45:=by omega
   have hqq:q0=q:=by rw[HIS.out,if_neg (fun e=>h45 (by rw[←HC.out];exact (Xl.1 e).2))]
   have HQZ:Hid ((q:Int)=(q0:Int)):=by rw[Hid];omega
   clear hqq h45
   go_wp2_with fail
 rotate_left 2
 focus
  have hlt':¬(q:Int)<(s.size:Int):=by omega
  have hqq:q0=q:=by rw[HIS.out,if_neg (fun e=>by have:=(Xl.1 e).1;rw[HLN.out] at this;omega)]
  have HQZ:Hid ((q:Int)=(q0:Int)):=by rw[Hid];omega
  clear hqq
  go_wp2_with fail
 all_goals
  first
   |clear hlt' h45' h45'' hlt HB HC hc
   |clear hlt' hlt
  go_loopw [3] (fun tv wr=>wr=w1∧∃t:Nat,tv= .int .i64 (t:Int)∧q≤t∧t≤s.size∧Hid (dgJ s.data.toList t=D)) (fun tv _=>s.size-(intOf tv).toNat)
  case atStart=>exact ⟨rfl,q0,congrArg (Value.int .i64) HQZ.out,hpq0,hq0s,HDD.out⟩
  case round =>
   obtain ⟨rfl,t,rfl,hqt,hts,HIN⟩:=hrel
   obtain ⟨T,hT⟩:∃T,txt ((s.data.toList.drop q).take (t-q))=T:=⟨_,rfl⟩
   have hTs:T.size≤4000:=by rw[←hT,Xo,List.length_take,List.length_drop,HLN.out];omega
   have HTD:Hid (T.data.toList=(s.data.toList.drop q).take (t-q)):=by rw[Hid,←hT,Xz]
   have hcut:∀w,(Instr.slice 9 (.string s) (some (.int .i64 (q:Int))) (some (.int .i64 (t:Int))) none).run Tryz.prog w= .ok (.string T) w:=fun w=>by rw[Gk (P:=Tryz.prog) (t:=9) s q t Tryz.underlying9 hqt hts w,hT]
   have HLI:=Xa (Xo3 T (by omega))
   have HSTOP:Hid (dgJ s.data.toList t=t→D=t∧N=T.data.toList):=fun he=>by
    have e1:D=t:=by rw[←HIN.out];exact he
    refine ⟨e1, ?_⟩
    rw[←HNN.out,HEND.out,HDD.out,e1,HTD.out]
   clear hT
   by_cases htl:t<s.size
   focus
    have htl':(t:Int)<(s.size:Int):=by omega
    have HBt:=Xa (byS htl)
    obtain ⟨d,hd⟩:∃d,s[t].toNat=d:=⟨_,rfl⟩
    have HDt:Hid (Xh s.data.toList t=d):=by rw[Hid,←HBt.out];exact hd
    have HTL:Hid (t<s.data.toList.length):=by rw[Hid,HLN.out];exact htl
    by_cases hd1:48≤d
    focus
     have hd1':(48:Int)≤(d:Int):=by omega
     by_cases hd2:d≤57
     focus
      have hd2':(d:Int)≤57:=by omega
      have HN2:Hid (dgJ s.data.toList (t+1)=D):=by
       rw[Hid,←HIN.out]
       exact (Kb HTL.out (by rw[HDt.out];unfold Zn;simp;omega)).symm
      clear HSTOP
      go_wp2_with fail
      go_roundw
      case rel=>exact ⟨by trivial,t+1,by go_num,by omega,by omega,HN2.out⟩
      case measure=>simp[intOf];omega
     focus
      have hd2':¬(d:Int)≤57:=by omega
      have HFIN:=Xa (HSTOP.out (Q1 (fun e=>by have:=e.2;rw[HDt.out] at this;unfold Zn at this;simp at this;omega)))
      go_wp2_with fail
    rotate_left
    focus
     have hd1':¬(48:Int)≤(d:Int):=by omega
     have HFIN:=Xa (HSTOP.out (Q1 (fun e=>by have:=e.2;rw[HDt.out] at this;unfold Zn at this;simp at this;omega)))
     go_wp2_with fail
   rotate_left 2
   focus
    have htl':¬(t:Int)<(s.size:Int):=by omega
    have HFIN:=Xa (HSTOP.out (Xbc (by rw[HLN.out];omega)))
    go_wp2_with fail
   all_goals
    have hrw:rb<wr.heap.size:=HF1.out.lt
    go_region_with (go_at_call 157;refine (HLI.out _).mono ?_;rintro e w5 ⟨n,ok,rfl,hw5,hor⟩;have hw6:=hw5.symm;clear hw5;subst hw6)
    all_goals
     have HBD:Hid (LB rb base Z w (wr.setCell ⟨rb,2,none⟩ (.bool true)).drew):=(HB1.out.trans (LB.of_set 2 (.bool true))).trans (LB.of_below (Below.refl _ _).drew)
     have HFD:Hid (LfAt (wr.setCell ⟨rb,2,none⟩ (.bool true)).drew rb base Z s q true fs):=(HF1.out.setB true).below (Below.refl _ _).drew
     have HB6:Hid (LB rb base Z w (wr.setCell ⟨rb,1,none⟩ (.int .i64 (t:Int))).drew):=(HB1.out.trans (LB.of_set 1 (.int .i64 (t:Int)))).trans (LB.of_below (Below.refl _ _).drew)
     have HF6:Hid (LfAt (wr.setCell ⟨rb,1,none⟩ (.int .i64 (t:Int))).drew rb base Z s t bad fs):=(HF1.out.setP hts).below (Below.refl _ _).drew
     cases ok
    all_goals
     go_wp2_with fail
    all_goals
     go_ret
    all_goals
     obtain ⟨rfl,rfl⟩:=HFIN.out
     rcases hor with ⟨h1,h2⟩|⟨h1,h2⟩
     all_goals
      first
       |(cases h2;done)
       |exact ⟨HB6.out,n,rfl, .inl ⟨h1,HF6.out⟩⟩
       |exact ⟨HBD.out,0,rfl, .inr ⟨h1,rfl,HFD.out⟩⟩

set_option maxRecDepth 100000 in
theorem Xox {rb base p:Nat} {Z:Nat→Prop} {s:ByteArray} {fs:List FN} {w:World} (h:LfAt w rb base Z s p false fs) (hs:s.size≤4000) (hl:fs.length≤40) (h1:Xe s.data.toList p 91=false) (h2:Yu s.data.toList p=false):
  Calls Tryz.prog 113 #[.pointer (some ⟨rb,0,none⟩)] w (LfOr (Ym WSp s.data.toList fs p) rb base Z s p w):=by
 have HE:Hid (Ym WSp s.data.toList fs p=Xu WSp (Qw 1) fs (skF s.data.toList p)):=by rw[Hid];unfold Ym;rw[if_neg (by rw[h2];simp),if_neg (by rw[h1];simp)]
 have HLN:=Xa (Xm s)
 obtain ⟨c0,c1,c2⟩:=h.cells
 have f1:=h.free 1
 have hple:=h.le
 have HF0:=Xa h
 have HB0:Hid (LB rb base Z w w):=LB.refl _ _ _ _
 clear h
 by_cases hlt:p<s.size
 focus
  have hlt':(p:Int)<(s.size:Int):=by omega
  have HB:=Xa (byS hlt)
  obtain ⟨c,hc⟩:∃c,s[p].toNat=c:=⟨_,rfl⟩
  have hc256:c<256:=by rw[←hc];exact s[p].toNat_lt
  have HC:Hid (Xh s.data.toList p=c):=by rw[Hid,←HB.out];exact hc
  have hn:c≠91:=fun e=>by rw[Xl.2 ⟨by rw[HLN.out];exact hlt,by rw[HC.out];exact e⟩] at h1;cases h1
  have hlc:Yt c=false:=by
   unfold Yu at h2
   rw[HC.out,HLN.out] at h2
   simpa [hlt] using h2
  have n1:((c:Int)==91)=false:=by simp;omega
  have n2:¬(c:Int)=91:=by omega
  have HLL:=Xa (Kz c)
  rw[hlc] at HLL
  clear h1 h2 hn hlc
  go_enter Tryz.func113,Tryz.ntmps113
  go_wp2_with fail
  go_quiet (fail)
  have HD1:=Xa (Xq (w:=w) nq)
  have HF1:=Xa (HF0.out.below HD1.out)
  have HB1:=Xa (HB0.out.trans (LB.of_below HD1.out))
  clear c0 c1 c2 f1
  obtain ⟨c0,c1,c2⟩:=HF1.out.cells
  have f1:=HF1.out.free 1
  generalize w.drewN nq=W1 at HD1 HF1 HB1 c0 c1 c2 f1⊢
  clear nq
  go_wp2_with fail
  go_quiet ((go_at_call 103;exact Calls.quiet_of_same (HLL.out _ hc256)))
  have HD2:=Xa (Xq (w:=W1) nq)
  have HF2:=Xa (HF1.out.below HD2.out)
  have HB2:=Xa (HB1.out.trans (LB.of_below HD2.out))
  clear c0 c1 c2 f1
  obtain ⟨c0,c1,c2⟩:=HF2.out.cells
  have f1:=HF2.out.free 1
  generalize W1.drewN nq=W2 at HD2 HF2 HB2 c0 c1 c2 f1⊢
  clear nq
  have HA:=Xa (Qn HF2.out (by omega) 1 ByteArray.empty 0)
  go_wp2_with fail
  refine HA.out.mono ?_
  rintro e w9 ⟨rfl,h3,b3⟩
  have HF9:=Xa h3
  have HB9:=Xa (HB2.out.trans b3)
  clear h3 b3
  go_wp2_with fail
  go_ret
  exact LfOr.of HE.out (LfOr.add HF9.out hl (Nat.le_refl _) HB9.out)
 focus
  have hlt':¬(p:Int)<(s.size:Int):=by omega
  clear h1 h2
  go_enter Tryz.func113,Tryz.ntmps113
  go_wp2_with fail
  go_quiet (fail)
  have HD1:=Xa (Xq (w:=w) nq)
  have HF1:=Xa (HF0.out.below HD1.out)
  have HB1:=Xa (HB0.out.trans (LB.of_below HD1.out))
  clear c0 c1 c2 f1
  obtain ⟨c0,c1,c2⟩:=HF1.out.cells
  have f1:=HF1.out.free 1
  generalize w.drewN nq=W1 at HD1 HF1 HB1 c0 c1 c2 f1⊢
  clear nq
  go_wp2_with fail
  go_quiet (fail)
  have HD2:=Xa (Xq (w:=W1) nq)
  have HF2:=Xa (HF1.out.below HD2.out)
  have HB2:=Xa (HB1.out.trans (LB.of_below HD2.out))
  clear c0 c1 c2 f1
  obtain ⟨c0,c1,c2⟩:=HF2.out.cells
  have f1:=HF2.out.free 1
  generalize W1.drewN nq=W2 at HD2 HF2 HB2 c0 c1 c2 f1⊢
  clear nq
  have HA:=Xa (Qn HF2.out (by omega) 1 ByteArray.empty 0)
  go_wp2_with fail
  refine HA.out.mono ?_
  rintro e w9 ⟨rfl,h3,b3⟩
  have HF9:=Xa h3
  have HB9:=Xa (HB2.out.trans b3)
  clear h3 b3
  go_wp2_with fail
  go_ret
  exact LfOr.of HE.out (LfOr.add HF9.out hl (Nat.le_refl _) HB9.out)
set_option maxRecDepth 100000 in
theorem Xr4 {rb base p:Nat} {Z:Nat→Prop} {s:ByteArray} {fs:List FN} {w:World} (h:LfAt w rb base Z s p false fs) (hs:s.size≤4000) (hl:fs.length≤40) (h2:Yu s.data.toList p=true):
  Calls Tryz.prog 113 #[.pointer (some ⟨rb,0,none⟩)] w (LfOr (Ym WSp s.data.toList fs p) rb base Z s p w):=by
 have HE:Hid (Ym WSp s.data.toList fs p=Xu WSp ⟨2,txt (X9 s.data.toList p),0,[],[],[]⟩ fs (skF s.data.toList (nmJ s.data.toList p))):=by rw[Hid];unfold Ym;rw[if_pos h2]
 have HLN:=Xa (Xm s)
 obtain ⟨c0,c1,c2⟩:=h.cells
 have f1:=h.free 1
 have hple:=h.le
 have HF0:=Xa h
 have HB0:Hid (LB rb base Z w w):=LB.refl _ _ _ _
 clear h
 have hlt:p<s.size:=by rw[←HLN.out];exact (Xdf h2).2
 have hlt':(p:Int)<(s.size:Int):=by omega
 have HB:=Xa (byS hlt)
 obtain ⟨c,hc⟩:∃c,s[p].toNat=c:=⟨_,rfl⟩
 have hc256:c<256:=by rw[←hc];exact s[p].toNat_lt
 have HC:Hid (Xh s.data.toList p=c):=by rw[Hid,←HB.out];exact hc
 have hlc:Yt c=true:=by
  unfold Yu at h2
  rw[HC.out] at h2
  simp at h2
  exact h2.2
 have hn:c≠91:=fun e=>by rw[e] at hlc;revert hlc;decide
 have n1:((c:Int)==91)=false:=by simp;omega
 have n2:¬(c:Int)=91:=by omega
 have HSK:Hid (skF s.data.toList p=p):=by
  rw[Hid]
  refine Q1 (fun e=> ?_)
  have:=e.2
  rw[HC.out] at this
  unfold Xb4 at this
  simp at this
  rcases this with e|e<;>rw[e] at hlc<;>revert hlc<;>decide
 have HNL:Hid (p≤nmJ s.data.toList p):=Zh _ _ _
 have HWJ:Hid (wdJ s.data.toList p=nmJ s.data.toList p):=by rw[Hid];unfold wdJ;rw[if_pos h2]
 have HLL:=Xa (Kz c)
 rw[hlc] at HLL
 clear h2 hn hlc
 go_enter Tryz.func113,Tryz.ntmps113
 go_wp2_with fail
 go_quiet (fail)
 have HD1:=Xa (Xq (w:=w) nq)
 have HF1:=Xa (HF0.out.below HD1.out)
 have HB1:=Xa (HB0.out.trans (LB.of_below HD1.out))
 clear c0 c1 c2 f1
 obtain ⟨c0,c1,c2⟩:=HF1.out.cells
 have f1:=HF1.out.free 1
 generalize w.drewN nq=W1 at HD1 HF1 HB1 c0 c1 c2 f1⊢
 clear nq
 go_wp2_with fail
 go_quiet ((go_at_call 103;exact Calls.quiet_of_same (HLL.out _ hc256)))
 have HD2:=Xa (Xq (w:=W1) nq)
 have HF2:=Xa (HF1.out.below HD2.out)
 have HB2:=Xa (HB1.out.trans (LB.of_below HD2.out))
 clear c0 c1 c2 f1
 obtain ⟨c0,c1,c2⟩:=HF2.out.cells
 have f1:=HF2.out.free 1
 generalize W1.drewN nq=W2 at HD2 HF2 HB2 c0 c1 c2 f1⊢
 clear nq
 have HW:=Xa (Uv HF2.out hs)
 rw[if_neg (by decide),if_neg (by decide),HSK.out,HWJ.out] at HW
 obtain ⟨T,hT⟩:∃T,txt (X9 s.data.toList p)=T:=⟨_,rfl⟩
 obtain ⟨M,hM⟩:∃M,nmJ s.data.toList p=M:=⟨_,rfl⟩
 rw[show (s.data.toList.drop p).take (nmJ s.data.toList p-p)=X9 s.data.toList p from rfl,hT,hM] at HW
 rw[hT,hM] at HE
 rw[hM] at HNL
 clear hT hM c0 c1 c2
 go_wp2_with fail
 refine HW.out.mono ?_
 rintro e w8 ⟨b8,rfl,h8⟩
 have HF8:=Xa h8
 have HB8:=Xa (HB2.out.trans b8)
 clear h8 b8
 have HA:=Xa (Qn HF8.out (by omega) 2 T 0)
 go_wp2_with fail
 refine HA.out.mono ?_
 rintro e w9 ⟨rfl,h3,b3⟩
 have HF9:=Xa h3
 have HB9:=Xa (HB8.out.trans b3)
 clear h3 b3
 go_wp2_with fail
 go_ret
 exact LfOr.of HE.out (LfOr.add HF9.out hl HNL.out HB9.out)
end Go.Proofs.YtehihemfepbmfaaGreatDoor
