import Derived.Test.YtdjddneidbddpaaGreatDoorEqS2
import Derived.Test.YtdjddneidbddpaaGreatDoorByP
import Derived.Test.YtdjddneidbddpaaGreatDoorSpc3
namespace Go.Proofs.YtdjddneidbddpaaGreatDoor
set_option linter.unusedSectionVars false
set_option maxHeartbeats 6400000
open Go.RowKit
set_option linter.unusedSimpArgs false
set_option linter.unusedVariables false
theorem Xbe (w:World):Calls Tryz.prog 251 #[.agg #[]] w fun e w'=>e= .returned (.slice none 0 0)∧Below w.heap.size w w':=by
 go_enter Tryz.func251,Tryz.ntmps251
 go_wp2_with fail
 go_ret
 exact ⟨rfl,(Below.refl _ _).alloc (Nat.le_refl _) _⟩
theorem Xdr (n:Int) (w:World):Calls Tryz.prog 241 #[.agg #[.int .i64 n]] w fun e w'=>e= .returned (.slice none 0 0)∧Below w.heap.size w w':=by
 go_enter Tryz.func241,Tryz.ntmps241
 go_wp2_with fail
 go_ret
 exact ⟨rfl,(Below.refl _ _).alloc (Nat.le_refl _) _⟩
theorem Xds (n:Int) (w:World):Calls Tryz.prog 243 #[.agg #[.int .i64 n]] w fun e w'=>e= .returned (.slice none 0 0)∧Below w.heap.size w w':=by
 go_enter Tryz.func243,Tryz.ntmps243
 go_wp2_with fail
 go_ret
 exact ⟨rfl,(Below.refl _ _).alloc (Nat.le_refl _) _⟩
theorem Xdt (s:ByteArray) (w:World):Calls Tryz.prog 245 #[.agg #[.string s]] w fun e w'=>e= .returned (.slice none 0 0)∧Below w.heap.size w w':=by
 go_enter Tryz.func245,Tryz.ntmps245
 go_wp2_with fail
 go_ret
 exact ⟨rfl,(Below.refl _ _).alloc (Nat.le_refl _) _⟩
theorem Ki (a:Option Addr) (n c:Nat) (w:World):Calls Tryz.prog 249 #[.agg #[.slice a n c]] w fun e w'=>e= .returned (.slice a n c)∧Below w.heap.size w w':=by
 go_enter Tryz.func249,Tryz.ntmps249
 go_wp2_with fail
 go_ret
 exact ⟨rfl,(Below.refl _ _).alloc (Nat.le_refl _) _⟩
theorem Uu (a:Option Addr) (n c:Nat) (a':Option Addr) (n' c':Nat) (w:World):Calls Tryz.prog 247 #[.agg #[.slice a n c, .slice a' n' c']] w fun e w'=>e= .returned (.slice a' n' c')∧Below w.heap.size w w':=by
 go_enter Tryz.func247,Tryz.ntmps247
 go_wp2_with fail
 go_ret
 exact ⟨rfl,(Below.refl _ _).alloc (Nat.le_refl _) _⟩
theorem Xbv (x:Value) (w:World):(Instr.typeAssert (.iface 160 x) 52 113 true).run Tryz.prog w= .ok (.tuple #[.agg #[.int .i64 0], .bool false]) w:=by kernel_rfl
theorem Xac (x:Value) (w:World):(Instr.typeAssert (.iface 160 x) 52 114 true).run Tryz.prog w= .ok (.tuple #[.agg #[.int .i64 0], .bool false]) w:=by kernel_rfl
theorem Xbw (x:Value) (w:World):(Instr.typeAssert (.iface 160 x) 52 116 true).run Tryz.prog w= .ok (.tuple #[.agg #[.string ByteArray.empty], .bool false]) w:=by kernel_rfl
theorem Xgy (x:Value) (w:World):(Instr.typeAssert (.iface 160 x) 52 118 true).run Tryz.prog w= .ok (.tuple #[.agg #[.slice none 0 0, .slice none 0 0], .bool false]) w:=by kernel_rfl
theorem Xbx (x:Value) (w:World):(Instr.typeAssert (.iface 113 x) 52 113 true).run Tryz.prog w= .ok (.tuple #[x, .bool true]) w:=by kernel_rfl
theorem Xc0 (x:Value) (w:World):(Instr.typeAssert (.iface 114 x) 52 113 true).run Tryz.prog w= .ok (.tuple #[.agg #[.int .i64 0], .bool false]) w:=by kernel_rfl
theorem Gd (x:Value) (w:World):(Instr.typeAssert (.iface 114 x) 52 114 true).run Tryz.prog w= .ok (.tuple #[x, .bool true]) w:=by kernel_rfl
theorem Xby (x:Value) (w:World):(Instr.typeAssert (.iface 116 x) 52 113 true).run Tryz.prog w= .ok (.tuple #[.agg #[.int .i64 0], .bool false]) w:=by kernel_rfl
theorem Xad (x:Value) (w:World):(Instr.typeAssert (.iface 116 x) 52 114 true).run Tryz.prog w= .ok (.tuple #[.agg #[.int .i64 0], .bool false]) w:=by kernel_rfl
theorem Uv (x:Value) (w:World):(Instr.typeAssert (.iface 116 x) 52 116 true).run Tryz.prog w= .ok (.tuple #[x, .bool true]) w:=by kernel_rfl
theorem Xbz (x:Value) (w:World):(Instr.typeAssert (.iface 158 x) 52 113 true).run Tryz.prog w= .ok (.tuple #[.agg #[.int .i64 0], .bool false]) w:=by kernel_rfl
theorem Vq (x:Value) (w:World):(Instr.typeAssert (.iface 158 x) 52 114 true).run Tryz.prog w= .ok (.tuple #[.agg #[.int .i64 0], .bool false]) w:=by kernel_rfl
theorem Xb0 (x:Value) (w:World):(Instr.typeAssert (.iface 158 x) 52 116 true).run Tryz.prog w= .ok (.tuple #[.agg #[.string ByteArray.empty], .bool false]) w:=by kernel_rfl
theorem Xgz (x:Value) (w:World):(Instr.typeAssert (.iface 158 x) 52 118 true).run Tryz.prog w= .ok (.tuple #[.agg #[.slice none 0 0, .slice none 0 0], .bool false]) w:=by kernel_rfl
theorem Xc1 (x:Value) (w:World):(Instr.typeAssert (.iface 118 x) 52 113 true).run Tryz.prog w= .ok (.tuple #[.agg #[.int .i64 0], .bool false]) w:=by kernel_rfl
theorem Uw (x:Value) (w:World):(Instr.typeAssert (.iface 118 x) 52 114 true).run Tryz.prog w= .ok (.tuple #[.agg #[.int .i64 0], .bool false]) w:=by kernel_rfl
theorem Xae (x:Value) (w:World):(Instr.typeAssert (.iface 118 x) 52 116 true).run Tryz.prog w= .ok (.tuple #[.agg #[.string ByteArray.empty], .bool false]) w:=by kernel_rfl
theorem Xdu (x:Value) (w:World):(Instr.typeAssert (.iface 118 x) 52 118 true).run Tryz.prog w= .ok (.tuple #[x, .bool true]) w:=by kernel_rfl
theorem Xzg (n:Int) (w:World):(Instr.field 113 (.agg #[.int .i64 n]) 0).run Tryz.prog w= .ok (.int .i64 n) w:=by kernel_rfl
theorem Xgf (n:Int) (w:World):(Instr.field 114 (.agg #[.int .i64 n]) 0).run Tryz.prog w= .ok (.int .i64 n) w:=by kernel_rfl
theorem Xna (s:ByteArray) (w:World):(Instr.field 116 (.agg #[.string s]) 0).run Tryz.prog w= .ok (.string s) w:=by kernel_rfl
theorem X2q (a:Option Addr) (n c:Nat) (y:Value) (w:World):(Instr.field 118 (.agg #[.slice a n c,y]) 0).run Tryz.prog w= .ok (.slice a n c) w:=by kernel_rfl
theorem Below.next {w w1 w2:World} (h:Below w.heap.size w w1) (k:Below w1.heap.size w1 w2):Below w.heap.size w w2:=h.trans (k.mono h.size)

theorem K6 (w:World):Calls Tryz.prog 250 #[.agg #[]] w fun e w'=>e= .returned (.int .i64 1)∧Below w.heap.size w w':=by
 go_enter Tryz.func250,Tryz.ntmps250
 go_wp2_with fail
 go_ret
 exact ⟨rfl,(Below.refl _ _).alloc (Nat.le_refl _) _⟩
theorem K7 (n:Int) (w:World):Calls Tryz.prog 240 #[.agg #[.int .i64 n]] w fun e w'=>e= .returned (.int .i64 2)∧Below w.heap.size w w':=by
 go_enter Tryz.func240,Tryz.ntmps240
 go_wp2_with fail
 go_ret
 exact ⟨rfl,(Below.refl _ _).alloc (Nat.le_refl _) _⟩
theorem K8 (n:Int) (w:World):Calls Tryz.prog 242 #[.agg #[.int .i64 n]] w fun e w'=>e= .returned (.int .i64 3)∧Below w.heap.size w w':=by
 go_enter Tryz.func242,Tryz.ntmps242
 go_wp2_with fail
 go_ret
 exact ⟨rfl,(Below.refl _ _).alloc (Nat.le_refl _) _⟩
theorem K9 (s:ByteArray) (w:World):Calls Tryz.prog 244 #[.agg #[.string s]] w fun e w'=>e= .returned (.int .i64 4)∧Below w.heap.size w w':=by
 go_enter Tryz.func244,Tryz.ntmps244
 go_wp2_with fail
 go_ret
 exact ⟨rfl,(Below.refl _ _).alloc (Nat.le_refl _) _⟩
theorem V8 (a:Option Addr) (n c:Nat) (w:World):Calls Tryz.prog 248 #[.agg #[.slice a n c]] w fun e w'=>e= .returned (.int .i64 5)∧Below w.heap.size w w':=by
 go_enter Tryz.func248,Tryz.ntmps248
 go_wp2_with fail
 go_ret
 exact ⟨rfl,(Below.refl _ _).alloc (Nat.le_refl _) _⟩
theorem Va (a:Option Addr) (n c:Nat) (a':Option Addr) (n' c':Nat) (w:World):Calls Tryz.prog 246 #[.agg #[.slice a n c, .slice a' n' c']] w fun e w'=>e= .returned (.int .i64 6)∧Below w.heap.size w w':=by
 go_enter Tryz.func246,Tryz.ntmps246
 go_wp2_with fail
 go_ret
 exact ⟨rfl,(Below.refl _ _).alloc (Nat.le_refl _) _⟩

theorem Xvv (w:World) (c0 c1 c2 c3 c4:Value):∀j u,[c0,c1,c2,c3,c4][j]? =some u→(w.alloc (.cells #[c0,c1,c2,c3,c4] 75)).cell? ((⟨w.heap.size,0,none⟩:Addr).add j)=some u:=
 World.news_of_block (cs:= #[c0,c1,c2,c3,c4]) (heap_alloc_new w _)
theorem Xeo (w:World) (b:Nat) (c0 c1 c2 c3 c4:Value) (hb:w.heap.size=b):∀j u,[c0,c1,c2,c3,c4][j]? =some u→(w.alloc (.cells #[c0,c1,c2,c3,c4] 75)).cell? ((⟨b,0,none⟩:Addr).add j)=some u:=by
 subst hb;exact Xvv w c0 c1 c2 c3 c4
set_option maxRecDepth 100000 in
theorem Xky (base:Nat) (v:Value) (ns:List VN) (KV IV:Nat→Value) (w:World) (h:Nest base w v ns KV IV) (hb:base≤w.heap.size) (hn:ns.length≤100000):
  Calls Tryz.prog 31 #[v, .iface 160 (.agg #[])] w fun e w'=>∃v' KV' IV',e= .returned v'∧Laid base w w' v v' ns [{kind:=1,n:=0,s:=ByteArray.empty,keys:= [],kids:= []}] KV IV KV' IV':=by
 have H:=Xa h
 obtain ⟨av,cv,rfl⟩:=Xj h.row
 clear h
 have tabool:=Xbv
 have taint:=Xac
 have tatext:=Xbw
 have tamap:=Xgy
 obtain ⟨i0,hi0,hz0,hs0,hy0⟩:=info_parts Kr
 go_enter Tryz.func31,Tryz.ntmps31
 go_wp2_with fail
 refine (K6 _).mono ?_
 rintro e w1 ⟨rfl,hb1⟩
 have HB1:=Xa hb1
 go_wp2_with fail
 refine (Xbe _).mono ?_
 rintro e w2 ⟨rfl,hb2⟩
 have HM:=Xa (Mid.start H.out hb HB1.out hb2)
 have z2:w1.heap.size<w2.heap.size:=by have:=hb2.size;simp at this;omega
 clear hb1 hb2
 go_wp2_with fail
 have y0:w2.cell? ⟨w1.heap.size,0,none⟩=some (.int .i64 1):=HM.out.node.cellAt 0 (by omega)
 have y1:w2.cell? ⟨w1.heap.size,1,none⟩=some (.int .i64 0):=HM.out.node.cellAt 1 (by omega)
 have y2:w2.cell? ⟨w1.heap.size,2,none⟩=some (.string ⟨#[]⟩):=HM.out.node.cellAt 2 (by omega)
 have y3:w2.cell? ⟨w1.heap.size,3,none⟩=some (.slice none 0 0):=HM.out.node.cellAt 3 (by omega)
 have y4:w2.cell? ⟨w1.heap.size,4,none⟩=some (.slice none 0 0):=HM.out.node.cellAt 4 (by omega)
 have HN:=Xa (HM.out.nest.row.alloc (.cells #[.int .i64 1, .int .i64 0, .string ⟨#[]⟩, .slice none 0 0, .slice none 0 0] 75))
 go_loopw [0,18] (fun o i wr=>o= .slice av ns.length cv∧i= .int .i64 0∧wr=w2) (fun _ _ _=>0)
 case atStart=>exact ⟨rfl,rfl,rfl⟩
 case round=>
  obtain ⟨rfl,rfl,hw⟩:=hrel
  rw[hw]
  clear hw
  go_wp2_with (at_builtin;refine wpList_append_own_at _ rfl _ _ 25 rfl base 75 i0 zeroNode 5 80 Tryz.underlying25 hi0 hz0 hs0 hy0 rfl (by decide) _ _ _ rfl HN.out ⟨w2.heap.size,0,none⟩ 1 1 [.int .i64 1, .int .i64 0, .string ⟨#[]⟩, .slice none 0 0, .slice none 0 0] rfl rfl ?c1 ?c2 ?c3 ?c4 ?c5 ?_)
  case c1=>exact Xvv _ _ _ _ _ _
  case c2=>intro u hu;simp at hu;rcases hu with rfl|rfl|rfl|rfl<;>rfl
  case c3=>simp[maxLen];omega
  case c4=>simp;omega
  case c5=>simp;have:=HM.out.frame.size;omega
  intro v' w6 hown hgrow _ hat
  have HL:=Xa (Mid.fin (x:={kind:=1,n:=0,s:=⟨#[]⟩,keys:= [],kids:= []}) HM.out rfl (World.ownsRow_nil _ _ _ _) (fun j _ y hy=>by simp[Value.ownBlock] at hy) (by simpa using hown) hgrow hat)
  clear hown hgrow hat
  go_wp2_with fail
  go_ret
  exact ⟨_,_,_,rfl,HL.out⟩
set_option maxRecDepth 100000 in
theorem Xkz (n:Int) (base:Nat) (v:Value) (ns:List VN) (KV IV:Nat→Value) (w:World) (h:Nest base w v ns KV IV) (hb:base≤w.heap.size) (hn:ns.length≤100000):
  Calls Tryz.prog 31 #[v, .iface 113 (.agg #[.int .i64 n])] w fun e w'=>∃v' KV' IV',e= .returned v'∧Laid base w w' v v' ns [{kind:=2,n:=n,s:=ByteArray.empty,keys:= [],kids:= []}] KV IV KV' IV':=by
 have H:=Xa h
 obtain ⟨av,cv,rfl⟩:=Xj h.row
 clear h
 have ta0:=Xbx
 obtain ⟨i0,hi0,hz0,hs0,hy0⟩:=info_parts Kr
 go_enter Tryz.func31,Tryz.ntmps31
 go_wp2_with fail
 refine (K7 _ _).mono ?_
 rintro e w1 ⟨rfl,hb1⟩
 have HB1:=Xa hb1
 go_wp2_with fail
 refine (Xdr _ _).mono ?_
 rintro e w2 ⟨rfl,hb2⟩
 have HM:=Xa (Mid.start H.out hb HB1.out hb2)
 have z2:w1.heap.size<w2.heap.size:=by have:=hb2.size;simp at this;omega
 clear hb1 hb2
 go_wp2_with fail
 have y0:w2.cell? ⟨w1.heap.size,0,none⟩=some (.int .i64 2):=HM.out.node.cellAt 0 (by omega)
 have y1:w2.cell? ⟨w1.heap.size,1,none⟩=some (.int .i64 0):=HM.out.node.cellAt 1 (by omega)
 have y2:w2.cell? ⟨w1.heap.size,2,none⟩=some (.string ⟨#[]⟩):=HM.out.node.cellAt 2 (by omega)
 have y3:w2.cell? ⟨w1.heap.size,3,none⟩=some (.slice none 0 0):=HM.out.node.cellAt 3 (by omega)
 have y4:w2.cell? ⟨w1.heap.size,4,none⟩=some (.slice none 0 0):=HM.out.node.cellAt 4 (by omega)
 have f1:w2.frozen? ⟨w1.heap.size,1,none⟩=false:=HM.out.node.frozenAt 1
 have HM2:=Xa ((HM.out.put 1 (.int .i64 n)).grow (World.grownBy_alloc _ (.cells #[.int .i64 n] 113) none))
 have x0:((w2.setCell ⟨w1.heap.size,1,none⟩ (.int .i64 n)).alloc (.cells #[.int .i64 n] 113)).cell? ⟨w1.heap.size,0,none⟩=some (.int .i64 2):=HM2.out.node.cellAt 0 (by omega)
 have x1:((w2.setCell ⟨w1.heap.size,1,none⟩ (.int .i64 n)).alloc (.cells #[.int .i64 n] 113)).cell? ⟨w1.heap.size,1,none⟩=some (.int .i64 n):=HM2.out.node.cellAt 1 (by omega)
 have x2:((w2.setCell ⟨w1.heap.size,1,none⟩ (.int .i64 n)).alloc (.cells #[.int .i64 n] 113)).cell? ⟨w1.heap.size,2,none⟩=some (.string ⟨#[]⟩):=HM2.out.node.cellAt 2 (by omega)
 have x3:((w2.setCell ⟨w1.heap.size,1,none⟩ (.int .i64 n)).alloc (.cells #[.int .i64 n] 113)).cell? ⟨w1.heap.size,3,none⟩=some (.slice none 0 0):=HM2.out.node.cellAt 3 (by omega)
 have x4:((w2.setCell ⟨w1.heap.size,1,none⟩ (.int .i64 n)).alloc (.cells #[.int .i64 n] 113)).cell? ⟨w1.heap.size,4,none⟩=some (.slice none 0 0):=HM2.out.node.cellAt 4 (by omega)
 have HN:=Xa (HM2.out.nest.row.alloc (.cells #[.int .i64 2, .int .i64 n, .string ⟨#[]⟩, .slice none 0 0, .slice none 0 0] 75))
 have HZ:=Xa HM2.out.frame.size
 go_loopw [0,18] (fun o i wr=>o= .slice av ns.length cv∧i= .int .i64 0∧wr=w2) (fun _ _ _=>0)
 case atStart=>exact ⟨rfl,rfl,rfl⟩
 case round=>
  obtain ⟨rfl,rfl,hw⟩:=hrel
  rw[hw]
  clear hw
  go_wp2_with (at_builtin;refine wpList_append_own_at _ rfl _ _ 25 rfl base 75 i0 zeroNode 5 80 Tryz.underlying25 hi0 hz0 hs0 hy0 rfl (by decide) _ _ _ rfl HN.out ⟨w2.heap.size+1,0,none⟩ 1 1 [.int .i64 2, .int .i64 n, .string ⟨#[]⟩, .slice none 0 0, .slice none 0 0] rfl rfl ?c1 ?c2 ?c3 ?c4 ?c5 ?_)
  case c1=>exact Xeo _ _ _ _ _ _ _ (by simp)
  case c2=>intro u hu;simp at hu;rcases hu with rfl|rfl|rfl|rfl|rfl<;>rfl
  case c3=>simp[maxLen];omega
  case c4=>simp;omega
  case c5=>have:=HZ.out;simp at this⊢;omega
  intro v' w6 hown hgrow _ hat
  have HL:=Xa (Mid.fin (x:={kind:=2,n:=n,s:=⟨#[]⟩,keys:= [],kids:= []}) HM2.out rfl (World.ownsRow_nil _ _ _ _) (fun j _ y hy=>by simp[Value.ownBlock] at hy) (by simpa using hown) hgrow (by simpa using hat))
  clear hown hgrow hat
  go_wp2_with fail
  go_ret
  exact ⟨_,_,_,rfl,HL.out⟩
set_option maxRecDepth 100000 in
theorem Xmt (n:Int) (base:Nat) (v:Value) (ns:List VN) (KV IV:Nat→Value) (w:World) (h:Nest base w v ns KV IV) (hb:base≤w.heap.size) (hn:ns.length≤100000):
  Calls Tryz.prog 31 #[v, .iface 114 (.agg #[.int .i64 n])] w fun e w'=>∃v' KV' IV',e= .returned v'∧Laid base w w' v v' ns [{kind:=3,n:=n,s:=ByteArray.empty,keys:= [],kids:= []}] KV IV KV' IV':=by
 have H:=Xa h
 obtain ⟨av,cv,rfl⟩:=Xj h.row
 clear h
 have ta0:=Xc0
 have ta1:=Gd
 obtain ⟨i0,hi0,hz0,hs0,hy0⟩:=info_parts Kr
 go_enter Tryz.func31,Tryz.ntmps31
 go_wp2_with fail
 refine (K8 _ _).mono ?_
 rintro e w1 ⟨rfl,hb1⟩
 have HB1:=Xa hb1
 go_wp2_with fail
 refine (Xds _ _).mono ?_
 rintro e w2 ⟨rfl,hb2⟩
 have HM:=Xa (Mid.start H.out hb HB1.out hb2)
 have z2:w1.heap.size<w2.heap.size:=by have:=hb2.size;simp at this;omega
 clear hb1 hb2
 go_wp2_with fail
 have y0:w2.cell? ⟨w1.heap.size,0,none⟩=some (.int .i64 3):=HM.out.node.cellAt 0 (by omega)
 have y1:w2.cell? ⟨w1.heap.size,1,none⟩=some (.int .i64 0):=HM.out.node.cellAt 1 (by omega)
 have y2:w2.cell? ⟨w1.heap.size,2,none⟩=some (.string ⟨#[]⟩):=HM.out.node.cellAt 2 (by omega)
 have y3:w2.cell? ⟨w1.heap.size,3,none⟩=some (.slice none 0 0):=HM.out.node.cellAt 3 (by omega)
 have y4:w2.cell? ⟨w1.heap.size,4,none⟩=some (.slice none 0 0):=HM.out.node.cellAt 4 (by omega)
 have f1:w2.frozen? ⟨w1.heap.size,1,none⟩=false:=HM.out.node.frozenAt 1
 have HM2:=Xa ((HM.out.put 1 (.int .i64 n)).grow (World.grownBy_alloc _ (.cells #[.int .i64 n] 114) none))
 have x0:((w2.setCell ⟨w1.heap.size,1,none⟩ (.int .i64 n)).alloc (.cells #[.int .i64 n] 114)).cell? ⟨w1.heap.size,0,none⟩=some (.int .i64 3):=HM2.out.node.cellAt 0 (by omega)
 have x1:((w2.setCell ⟨w1.heap.size,1,none⟩ (.int .i64 n)).alloc (.cells #[.int .i64 n] 114)).cell? ⟨w1.heap.size,1,none⟩=some (.int .i64 n):=HM2.out.node.cellAt 1 (by omega)
 have x2:((w2.setCell ⟨w1.heap.size,1,none⟩ (.int .i64 n)).alloc (.cells #[.int .i64 n] 114)).cell? ⟨w1.heap.size,2,none⟩=some (.string ⟨#[]⟩):=HM2.out.node.cellAt 2 (by omega)
 have x3:((w2.setCell ⟨w1.heap.size,1,none⟩ (.int .i64 n)).alloc (.cells #[.int .i64 n] 114)).cell? ⟨w1.heap.size,3,none⟩=some (.slice none 0 0):=HM2.out.node.cellAt 3 (by omega)
 have x4:((w2.setCell ⟨w1.heap.size,1,none⟩ (.int .i64 n)).alloc (.cells #[.int .i64 n] 114)).cell? ⟨w1.heap.size,4,none⟩=some (.slice none 0 0):=HM2.out.node.cellAt 4 (by omega)
 have HN:=Xa (HM2.out.nest.row.alloc (.cells #[.int .i64 3, .int .i64 n, .string ⟨#[]⟩, .slice none 0 0, .slice none 0 0] 75))
 have HZ:=Xa HM2.out.frame.size
 go_loopw [0,18] (fun o i wr=>o= .slice av ns.length cv∧i= .int .i64 0∧wr=w2) (fun _ _ _=>0)
 case atStart=>exact ⟨rfl,rfl,rfl⟩
 case round=>
  obtain ⟨rfl,rfl,hw⟩:=hrel
  rw[hw]
  clear hw
  go_wp2_with (at_builtin;refine wpList_append_own_at _ rfl _ _ 25 rfl base 75 i0 zeroNode 5 80 Tryz.underlying25 hi0 hz0 hs0 hy0 rfl (by decide) _ _ _ rfl HN.out ⟨w2.heap.size+1,0,none⟩ 1 1 [.int .i64 3, .int .i64 n, .string ⟨#[]⟩, .slice none 0 0, .slice none 0 0] rfl rfl ?c1 ?c2 ?c3 ?c4 ?c5 ?_)
  case c1=>exact Xeo _ _ _ _ _ _ _ (by simp)
  case c2=>intro u hu;simp at hu;rcases hu with rfl|rfl|rfl|rfl|rfl<;>rfl
  case c3=>simp[maxLen];omega
  case c4=>simp;omega
  case c5=>have:=HZ.out;simp at this⊢;omega
  intro v' w6 hown hgrow _ hat
  have HL:=Xa (Mid.fin (x:={kind:=3,n:=n,s:=⟨#[]⟩,keys:= [],kids:= []}) HM2.out rfl (World.ownsRow_nil _ _ _ _) (fun j _ y hy=>by simp[Value.ownBlock] at hy) (by simpa using hown) hgrow (by simpa using hat))
  clear hown hgrow hat
  go_wp2_with fail
  go_ret
  exact ⟨_,_,_,rfl,HL.out⟩
set_option maxRecDepth 100000 in
theorem Xk0 (s:ByteArray) (base:Nat) (v:Value) (ns:List VN) (KV IV:Nat→Value) (w:World) (h:Nest base w v ns KV IV) (hb:base≤w.heap.size) (hn:ns.length≤100000):
  Calls Tryz.prog 31 #[v, .iface 116 (.agg #[.string s])] w fun e w'=>∃v' KV' IV',e= .returned v'∧Laid base w w' v v' ns [{kind:=4,n:=0,s:=s,keys:= [],kids:= []}] KV IV KV' IV':=by
 have H:=Xa h
 obtain ⟨av,cv,rfl⟩:=Xj h.row
 clear h
 have ta0:=Xby
 have ta1:=Xad
 have ta2:=Uv
 obtain ⟨i0,hi0,hz0,hs0,hy0⟩:=info_parts Kr
 go_enter Tryz.func31,Tryz.ntmps31
 go_wp2_with fail
 refine (K9 _ _).mono ?_
 rintro e w1 ⟨rfl,hb1⟩
 have HB1:=Xa hb1
 go_wp2_with fail
 refine (Xdt _ _).mono ?_
 rintro e w2 ⟨rfl,hb2⟩
 have HM:=Xa (Mid.start H.out hb HB1.out hb2)
 have z2:w1.heap.size<w2.heap.size:=by have:=hb2.size;simp at this;omega
 clear hb1 hb2
 go_wp2_with fail
 have y0:w2.cell? ⟨w1.heap.size,0,none⟩=some (.int .i64 4):=HM.out.node.cellAt 0 (by omega)
 have y1:w2.cell? ⟨w1.heap.size,1,none⟩=some (.int .i64 0):=HM.out.node.cellAt 1 (by omega)
 have y2:w2.cell? ⟨w1.heap.size,2,none⟩=some (.string ⟨#[]⟩):=HM.out.node.cellAt 2 (by omega)
 have y3:w2.cell? ⟨w1.heap.size,3,none⟩=some (.slice none 0 0):=HM.out.node.cellAt 3 (by omega)
 have y4:w2.cell? ⟨w1.heap.size,4,none⟩=some (.slice none 0 0):=HM.out.node.cellAt 4 (by omega)
 have f2:w2.frozen? ⟨w1.heap.size,2,none⟩=false:=HM.out.node.frozenAt 2
 have HM2:=Xa ((HM.out.put 2 (.string s)).grow (World.grownBy_alloc _ (.cells #[.string s] 116) none))
 have x0:((w2.setCell ⟨w1.heap.size,2,none⟩ (.string s)).alloc (.cells #[.string s] 116)).cell? ⟨w1.heap.size,0,none⟩=some (.int .i64 4):=HM2.out.node.cellAt 0 (by omega)
 have x1:((w2.setCell ⟨w1.heap.size,2,none⟩ (.string s)).alloc (.cells #[.string s] 116)).cell? ⟨w1.heap.size,1,none⟩=some (.int .i64 0):=HM2.out.node.cellAt 1 (by omega)
 have x2:((w2.setCell ⟨w1.heap.size,2,none⟩ (.string s)).alloc (.cells #[.string s] 116)).cell? ⟨w1.heap.size,2,none⟩=some (.string s):=HM2.out.node.cellAt 2 (by omega)
 have x3:((w2.setCell ⟨w1.heap.size,2,none⟩ (.string s)).alloc (.cells #[.string s] 116)).cell? ⟨w1.heap.size,3,none⟩=some (.slice none 0 0):=HM2.out.node.cellAt 3 (by omega)
 have x4:((w2.setCell ⟨w1.heap.size,2,none⟩ (.string s)).alloc (.cells #[.string s] 116)).cell? ⟨w1.heap.size,4,none⟩=some (.slice none 0 0):=HM2.out.node.cellAt 4 (by omega)
 have HN:=Xa (HM2.out.nest.row.alloc (.cells #[.int .i64 4, .int .i64 0, .string s, .slice none 0 0, .slice none 0 0] 75))
 have HZ:=Xa HM2.out.frame.size
 go_loopw [0,18] (fun o i wr=>o= .slice av ns.length cv∧i= .int .i64 0∧wr=w2) (fun _ _ _=>0)
 case atStart=>exact ⟨rfl,rfl,rfl⟩
 case round=>
  obtain ⟨rfl,rfl,hw⟩:=hrel
  rw[hw]
  clear hw
  go_wp2_with (at_builtin;refine wpList_append_own_at _ rfl _ _ 25 rfl base 75 i0 zeroNode 5 80 Tryz.underlying25 hi0 hz0 hs0 hy0 rfl (by decide) _ _ _ rfl HN.out ⟨w2.heap.size+1,0,none⟩ 1 1 [.int .i64 4, .int .i64 0, .string s, .slice none 0 0, .slice none 0 0] rfl rfl ?c1 ?c2 ?c3 ?c4 ?c5 ?_)
  case c1=>exact Xeo _ _ _ _ _ _ _ (by simp)
  case c2=>intro u hu;simp at hu;rcases hu with rfl|rfl|rfl|rfl|rfl<;>rfl
  case c3=>simp[maxLen];omega
  case c4=>simp;omega
  case c5=>have:=HZ.out;simp at this⊢;omega
  intro v' w6 hown hgrow _ hat
  have HL:=Xa (Mid.fin (x:={kind:=4,n:=0,s:=s,keys:= [],kids:= []}) HM2.out rfl (World.ownsRow_nil _ _ _ _) (fun j _ y hy=>by simp[Value.ownBlock] at hy) (by simpa using hown) hgrow (by simpa using hat))
  clear hown hgrow hat
  go_wp2_with fail
  go_ret
  exact ⟨_,_,_,rfl,HL.out⟩

theorem Mid.keepB {base:Nat} {w wr:World} {nb:Nat} {v0 v kv:Value} {ns acc:List VN} {ks:List Int} {cs:List Value} {KV0 IV0 KV IV:Nat→Value} {B:Nat} (h:Mid base w wr nb v0 v kv ns acc ks cs KV0 IV0 KV IV) (hB:B≤base):∀k,k<B→wr.heap[k]? =w.heap[k]? :=
 fun k hk=>h.frame.block k (by have:=h.hbase;omega) (fun e=>by have:=h.v0b k e.symm;omega)
def Xke (B base f:Nat):Prop:=
 ∀(t:VT) (x v:Value) (ns:List VN) (KV IV:Nat→Value) (w:World),Nest base w v ns KV IV→TreeAt B w f t x→base≤w.heap.size→ns.length+(Yi f t ns.length).length≤100000→
  Calls Tryz.prog 31 #[v,x] w fun e w'=>∃v' KV' IV',e= .returned v'∧Laid base w w' v v' ns (Yi f t ns.length) KV IV KV' IV'
theorem Xiz {base:Nat} {w w3 w5:World} {nb:Nat} {v0 v kv:Value} {ns acc:List VN} {ks:List Int} {cs:List Value} {KV0 IV0 KV IV:Nat→Value} {o:Obj} (h:Mid base w w3 nb v0 v kv ns acc ks cs KV0 IV0 KV IV) (hg:(w3.alloc o).grownBy w5 kv.ownBlock):
  w5.ownsRow w.heap.size 75 5 (.slice (some ⟨nb,0,none⟩) 1 1) 1 cs:=
 h.node.kept ((World.grownBy_alloc w3 o _).trans hg) (Yo h.node h.kids (by decide))
set_option maxRecDepth 100000 in
theorem Xkf (B base f:Nat) (hB:B≤base) (ih:Xke B base f) (kids:List VT) (it v:Value) (ns:List VN) (KV IV:Nat→Value) (w:World) (hit:Ji B w it kids.length (fun j u=>TreeAt B w f (Yl kids j) u)) (h:Nest base w v ns KV IV) (hb:base≤w.heap.size) (hn:ns.length+(X6 f ns.length kids kids.length).length+1≤100000):
  Calls Tryz.prog 31 #[v, .iface 158 (.agg #[it])] w fun e w'=>∃v' KV' IV',e= .returned v'∧Laid base w w' v v' ns (X6 f ns.length kids kids.length++ [{kind:=5,n:=0,s:=ByteArray.empty,keys:= [],kids:=ksT f ns.length kids kids.length}]) KV IV KV' IV':=by
 have H:=Xa h
 obtain ⟨av,cv,rfl⟩:=Xj h.row
 clear h
 obtain ⟨hm0,ai,ci,rfl,hx⟩:=hit
 have HX:=Xa hx
 have IH:=Xa ih
 clear hx ih
 have ta0:=Xbz
 have ta1:=Vq
 have ta2:=Xb0
 have ta3:=Xgz
 obtain ⟨i0,hi0,hz0,hs0,hy0⟩:=info_parts Kr
 obtain ⟨i2,hi2,hz2,hs2,hy2⟩:=info_parts Wq
 go_enter Tryz.func31,Tryz.ntmps31
 go_wp2_with fail
 refine (V8 _ _ _ _).mono ?_
 rintro e w1 ⟨rfl,hb1⟩
 have HB1:=Xa hb1
 go_wp2_with fail
 refine (Ki _ _ _ _).mono ?_
 rintro e w2 ⟨rfl,hb2⟩
 have HM:=Xa (Mid.start H.out hb HB1.out hb2)
 have z2:w1.heap.size<w2.heap.size:=by have:=hb2.size;simp at this;omega
 clear hb1 hb2
 go_wp2_with fail
 go_loopw [0,18] (fun o i wr=>∃(k:Nat) (kv:Value) (KV' IV':Nat→Value),k≤kids.length∧i= .int .i64 k∧Mid base w wr w1.heap.size (.slice av ns.length cv) o kv ns (X6 f ns.length kids k) (ksT f ns.length kids k) [.int .i64 5, .int .i64 0, .string ⟨#[]⟩, .slice none 0 0,kv] KV IV KV' IV') (fun _ i _=>kids.length-(intOf i).toNat)
 case atStart=>exact ⟨0,_,_,_,Nat.zero_le _,rfl,by rw[Qs,Ja];exact HM.out⟩
 case round=>
  obtain ⟨k,kv,KV',IV',hk,rfl,hm⟩:=hrel
  clear HM z2
  have HM:=Xa hm
  obtain ⟨ao,co,ho⟩:=Xj hm.nest.row
  obtain ⟨M,hM⟩:∃M,(ns++X6 f ns.length kids k).length=M:=⟨_,rfl⟩
  have HMM:=Xa hM
  have hacc:=Xbo f ns.length kids k
  rw[hM] at ho
  subst ho
  have hfs:=hm.frame.size
  have hM1:M+1≤100000:=by rw[←hM,List.length_append];omega
  clear hm hM
  by_cases hlt:k<kids.length
  ·obtain ⟨b,rfl,hbB,hc⟩:=HX.out (by omega)
   obtain ⟨t,x,hck,htr⟩:=hc k hlt
   have hck':wr.cell? ⟨b,k,none⟩=some (.iface t x):=(World.cell?_of_block (HM.out.keepB hB b hbB)).trans hck
   have HT:=Xa (TreeAt.keep (HM.out.keepB hB) (Nat.le_refl _) htr)
   have hacc1:=Xbo f ns.length kids (k+1)
   have HA:=Xa (Zi f ns.length hlt)
   have HL0:Hid ((ns++X6 f ns.length kids k).length=ns.length+(X6 f ns.length kids k).length):=List.length_append
   clear hc hck htr
   go_wp2_with fail
   refine (IH.out (Yl kids k) (.iface t x) _ (ns++X6 f ns.length kids k) KV' IV' wr HM.out.nest HT.out (by omega) (by rw[HL0.out];rw[HA.out,List.length_append] at hacc1;omega)).mono ?_
   rintro e w3 ⟨v3,KV3,IV3,rfl,hl⟩
   have hm3:=HM.out.laid hl
   rw[HL0.out,←HA.out] at hm3
   have HM3:=Xa hm3
   obtain ⟨a3,c3,h3⟩:=Xj hm3.nest.row
   obtain ⟨L,hL⟩:∃L,(ns++X6 f ns.length kids (k+1)).length=L:=⟨_,rfl⟩
   rw[hL] at h3
   subst h3
   have hL1:L≤100000:=by rw[←hL,List.length_append];omega
   have HKS:Hid (ksT f ns.length kids (k+1)=ksT f ns.length kids k++ [(L:Int)-1]):=by rw[Hid,Qy f ns.length hlt,←hL,List.length_append]
   have hkl:=Xda f ns.length kids hk
   have HKL:=Xa hkl
   have y4:w3.cell? ⟨w1.heap.size,4,none⟩=some kv:=HM3.out.node.cellAt 4 (by omega)
   have hL0:1≤L:=by
    have:=Xnc HT.out (ns.length+(X6 f ns.length kids k).length)
    rw[←hL,HA.out,List.length_append,List.length_append]
    omega
   have HK3:=Xa HM3.out.kids
   obtain ⟨ak,ck,hkv⟩:=Xj HK3.out
   rw[HKL.out] at hkv
   subst hkv
   have HZ3:=Xa HM3.out.frame.size
   clear hm3 hl hL hkl hacc hacc1
   go_wp2_with (at_builtin;refine wpList_append_own_at _ rfl _ _ 73 rfl w.heap.size 2 i2 (.int .i64 0) 1 8 Tryz.underlying73 hi2 hz2 hs2 hy2 rfl (by decide) _ _ _ rfl (HK3.out.alloc _) ⟨w3.heap.size,0,none⟩ 1 1 [.int .i64 ((L:Int)-1)] rfl rfl ?c1 ?c2 ?c3 ?c4 ?c5 ?_)
   case c1=>exact cell_one_new _ _ _
   case c2=>intro u hu;simp at hu;subst hu;rfl
   case c3=>rw[HKL.out];simp[maxLen];omega
   case c4=>rw[HKL.out];omega
   case c5=>have:=HZ3.out;simp;omega
   intro kv' w5 hown hgrow _ hat
   obtain ⟨ak',ck',hk'⟩:=Xj hown
   rw[HKL.out] at hk'
   subst hk'
   have n5:=Xiz HM3.out hgrow
   have x4:w5.cell? ⟨w1.heap.size,4,none⟩=some (.slice ak k ck):=n5.cellAt 4 (by omega)
   have f4:w5.frozen? ⟨w1.heap.size,4,none⟩=false:=n5.frozenAt 4
   have HMK:=Xa (HM3.out.kid hown hgrow (by simpa using hat))
   clear hown hgrow hat n5
   go_wp2_with fail
   go_roundw
   case rel=>exact ⟨k+1,_,KV3,IV3,by omega,by go_num,by rw[HKS.out];exact HMK.out⟩
   case measure=>simp[intOf];omega
  ·obtain rfl:k=kids.length:=by omega
   have y0:wr.cell? ⟨w1.heap.size,0,none⟩=some (.int .i64 5):=HM.out.node.cellAt 0 (by omega)
   have y1:wr.cell? ⟨w1.heap.size,1,none⟩=some (.int .i64 0):=HM.out.node.cellAt 1 (by omega)
   have y2:wr.cell? ⟨w1.heap.size,2,none⟩=some (.string ⟨#[]⟩):=HM.out.node.cellAt 2 (by omega)
   have y3:wr.cell? ⟨w1.heap.size,3,none⟩=some (.slice none 0 0):=HM.out.node.cellAt 3 (by omega)
   have y4:wr.cell? ⟨w1.heap.size,4,none⟩=some kv:=HM.out.node.cellAt 4 (by omega)
   have HN:=Xa (HM.out.nest.row.alloc (.cells #[.int .i64 5, .int .i64 0, .string ⟨#[]⟩, .slice none 0 0,kv] 75))
   rw[HMM.out] at HN
   have h1:kv.oneCell'=true:=by obtain ⟨a,c,rfl⟩:=Xj HM.out.kids;rfl
   go_wp2_with (at_builtin;refine wpList_append_own_at _ rfl _ _ 25 rfl base 75 i0 zeroNode 5 80 Tryz.underlying25 hi0 hz0 hs0 hy0 rfl (by decide) _ _ _ rfl HN.out ⟨wr.heap.size,0,none⟩ 1 1 [.int .i64 5, .int .i64 0, .string ⟨#[]⟩, .slice none 0 0,kv] rfl rfl ?c1 ?c2 ?c3 ?c4 ?c5 ?_)
   case c1=>exact Xvv _ _ _ _ _ _
   case c2=>intro u hu;simp at hu;rcases hu with rfl|rfl|rfl|rfl|rfl<;>first|rfl|exact h1
   case c3=>unfold maxLen;omega
   case c4=>omega
   case c5=>simp;omega
   intro v' w6 hown hgrow _ hat
   have HL:=Xa (Mid.fin (x:={kind:=5,n:=0,s:=⟨#[]⟩,keys:= [],kids:=ksT f ns.length kids kids.length}) HM.out rfl (World.ownsRow_nil _ _ _ _) (fun j _ y hy=>by simp[Value.ownBlock] at hy) (by rw[HMM.out];exact hown) hgrow hat)
   clear hown hgrow hat
   go_wp2_with fail
   go_ret
   exact ⟨_,_,_,rfl,HL.out⟩

set_option maxRecDepth 100000 in
theorem Xmm (B base f:Nat) (hB:B≤base) (ih:Xke B base f) (keys:List ByteArray) (kids:List VT) (kv0 it v:Value) (ns:List VN) (KV IV:Nat→Value) (w:World) (hks:StrsAt B w kv0 keys) (hit:Ji B w it kids.length (fun j u=>TreeAt B w f (Yl kids j) u)) (h:Nest base w v ns KV IV) (hb:base≤w.heap.size) (hn:ns.length+(X6 f ns.length kids kids.length).length+1≤100000):
  Calls Tryz.prog 31 #[v, .iface 118 (.agg #[kv0,it])] w fun e w'=>∃v' KV' IV',e= .returned v'∧Laid base w w' v v' ns (X6 f ns.length kids kids.length++ [{kind:=6,n:=0,s:=ByteArray.empty,keys:=keys,kids:=ksT f ns.length kids kids.length}]) KV IV KV' IV':=by
 have H:=Xa h
 obtain ⟨av,cv,rfl⟩:=Xj h.row
 clear h
 obtain ⟨hm0,ai,ci,rfl,hx⟩:=hit
 have HX:=Xa hx
 have HKS0:=Xa hks
 obtain ⟨hkn,_,aK,cK,rfl,_⟩:=hks
 have IH:=Xa ih
 clear hx ih
 have ta0:=Xc1
 have ta1:=Uw
 have ta2:=Xae
 have ta3:=Xdu
 obtain ⟨i0,hi0,hz0,hs0,hy0⟩:=info_parts Kr
 obtain ⟨i1,hi1,hz1,hs1,hy1⟩:=info_parts Wr
 obtain ⟨i2,hi2,hz2,hs2,hy2⟩:=info_parts Wq
 go_enter Tryz.func31,Tryz.ntmps31
 go_wp2_with fail
 refine (Va _ _ _ _ _ _ _).mono ?_
 rintro e w1 ⟨rfl,hb1⟩
 have HB1:=Xa hb1
 go_wp2_with fail
 refine (Uu _ _ _ _ _ _ _).mono ?_
 rintro e w2 ⟨rfl,hb2⟩
 have HM:=Xa (Mid.start H.out hb HB1.out hb2)
 have z2:w1.heap.size<w2.heap.size:=by have:=hb2.size;simp at this;omega
 clear hb1 hb2
 go_wp2_with fail
 go_loopw [0,18] (fun o i wr=>∃(k:Nat) (kv:Value) (KV' IV':Nat→Value),k≤kids.length∧i= .int .i64 k∧Mid base w wr w1.heap.size (.slice av ns.length cv) o kv ns (X6 f ns.length kids k) (ksT f ns.length kids k) [.int .i64 6, .int .i64 0, .string ⟨#[]⟩, .slice none 0 0,kv] KV IV KV' IV') (fun _ i _=>kids.length-(intOf i).toNat)
 case atStart=>exact ⟨0,_,_,_,Nat.zero_le _,rfl,by rw[Qs,Ja];exact HM.out⟩
 case round=>
  obtain ⟨k,kv,KV',IV',hk,rfl,hm⟩:=hrel
  clear HM z2
  have HM:=Xa hm
  obtain ⟨ao,co,ho⟩:=Xj hm.nest.row
  obtain ⟨M,hM⟩:∃M,(ns++X6 f ns.length kids k).length=M:=⟨_,rfl⟩
  have HMM:=Xa hM
  have hacc:=Xbo f ns.length kids k
  rw[hM] at ho
  subst ho
  have hfs:=hm.frame.size
  have hM1:M+1≤100000:=by rw[←hM,List.length_append];omega
  clear hm hM
  by_cases hlt:k<kids.length
  ·obtain ⟨b,rfl,hbB,hc⟩:=HX.out (by omega)
   obtain ⟨t,x,hck,htr⟩:=hc k hlt
   have hck':wr.cell? ⟨b,k,none⟩=some (.iface t x):=(World.cell?_of_block (HM.out.keepB hB b hbB)).trans hck
   have HT:=Xa (TreeAt.keep (HM.out.keepB hB) (Nat.le_refl _) htr)
   have hacc1:=Xbo f ns.length kids (k+1)
   have HA:=Xa (Zi f ns.length hlt)
   have HL0:Hid ((ns++X6 f ns.length kids k).length=ns.length+(X6 f ns.length kids k).length):=List.length_append
   clear hc hck htr
   go_wp2_with fail
   refine (IH.out (Yl kids k) (.iface t x) _ (ns++X6 f ns.length kids k) KV' IV' wr HM.out.nest HT.out (by omega) (by rw[HL0.out];rw[HA.out,List.length_append] at hacc1;omega)).mono ?_
   rintro e w3 ⟨v3,KV3,IV3,rfl,hl⟩
   have hm3:=HM.out.laid hl
   rw[HL0.out,←HA.out] at hm3
   have HM3:=Xa hm3
   obtain ⟨a3,c3,h3⟩:=Xj hm3.nest.row
   obtain ⟨L,hL⟩:∃L,(ns++X6 f ns.length kids (k+1)).length=L:=⟨_,rfl⟩
   rw[hL] at h3
   subst h3
   have hL1:L≤100000:=by rw[←hL,List.length_append];omega
   have HKS:Hid (ksT f ns.length kids (k+1)=ksT f ns.length kids k++ [(L:Int)-1]):=by rw[Hid,Qy f ns.length hlt,←hL,List.length_append]
   have hkl:=Xda f ns.length kids hk
   have HKL:=Xa hkl
   have y4:w3.cell? ⟨w1.heap.size,4,none⟩=some kv:=HM3.out.node.cellAt 4 (by omega)
   have hL0:1≤L:=by
    have:=Xnc HT.out (ns.length+(X6 f ns.length kids k).length)
    rw[←hL,HA.out,List.length_append,List.length_append]
    omega
   have HK3:=Xa HM3.out.kids
   obtain ⟨ak,ck,hkv⟩:=Xj HK3.out
   rw[HKL.out] at hkv
   subst hkv
   have HZ3:=Xa HM3.out.frame.size
   clear hm3 hl hL hkl hacc hacc1
   go_wp2_with (at_builtin;refine wpList_append_own_at _ rfl _ _ 73 rfl w.heap.size 2 i2 (.int .i64 0) 1 8 Tryz.underlying73 hi2 hz2 hs2 hy2 rfl (by decide) _ _ _ rfl (HK3.out.alloc _) ⟨w3.heap.size,0,none⟩ 1 1 [.int .i64 ((L:Int)-1)] rfl rfl ?c1 ?c2 ?c3 ?c4 ?c5 ?_)
   case c1=>exact cell_one_new _ _ _
   case c2=>intro u hu;simp at hu;subst hu;rfl
   case c3=>rw[HKL.out];simp[maxLen];omega
   case c4=>rw[HKL.out];omega
   case c5=>have:=HZ3.out;simp;omega
   intro kv' w5 hown hgrow _ hat
   obtain ⟨ak',ck',hk'⟩:=Xj hown
   rw[HKL.out] at hk'
   subst hk'
   have n5:=Xiz HM3.out hgrow
   have x4:w5.cell? ⟨w1.heap.size,4,none⟩=some (.slice ak k ck):=n5.cellAt 4 (by omega)
   have f4:w5.frozen? ⟨w1.heap.size,4,none⟩=false:=n5.frozenAt 4
   have HMK:=Xa (HM3.out.kid hown hgrow (by simpa using hat))
   clear hown hgrow hat n5
   go_wp2_with fail
   go_roundw
   case rel=>exact ⟨k+1,_,KV3,IV3,by omega,by go_num,by rw[HKS.out];exact HMK.out⟩
   case measure=>simp[intOf];omega
  ·obtain rfl:k=kids.length:=by omega
   have zw:=(HM.out.node.lt _ rfl).2
   have y3:wr.cell? ⟨w1.heap.size,3,none⟩=some (.slice none 0 0):=HM.out.node.cellAt 3 (by omega)
   have HSRC:Hid (0<keys.length→∃ad,aK=some ad∧∀j u,(keys.map Value.string)[j]? =some u→(wr.alloc (.cells #[.slice aK keys.length cK, .slice ai kids.length ci] 118)).cell? (ad.add j)=some u):=by
    intro hp
    obtain ⟨_,_,aK',cK',e,hck⟩:=HKS0.out
    cases e
    obtain ⟨bk,ok,rfl,hbk,hcc⟩:=hck hp
    refine ⟨_,rfl,fun j u hj=> ?_⟩
    have hj':j<keys.length:=by have:=(List.getElem?_eq_some_iff.1 hj).1;simpa using this
    have hbs:bk<wr.heap.size:=by omega
    rw[show (⟨bk,ok,none⟩:Addr).add j=⟨bk,ok+j,none⟩ by simp[Addr.add],Xc ((Below.refl _ wr).alloc (Nat.le_refl _) _) hbs,World.cell?_of_block (HM.out.keepB hB bk hbk),hcc j hj']
    simp[hj',Xh] at hj⊢
    exact hj
   go_wp2_with (at_builtin;refine Ye rfl _ _ 72 rfl w.heap.size 9 i1 (.string ByteArray.empty) 1 16 Tryz.underlying72 hi1 hz1 hs1 hy1 rfl (by decide) _ 0 [] rfl (World.ownsRow_nil _ _ _ _) aK keys.length cK (keys.map .string) rfl (by simp) HSRC.out ?c2 ?c3 ?c4 ?c5 ?_)
   case c2=>intro u hu;first|rfl|(obtain ⟨q,_,rfl⟩:=List.mem_map.1 hu;rfl)
   case c3=>unfold maxLen;omega
   case c4=>omega
   case c5=>first|omega|(simp;omega)
   intro vk w5 hk2 hg2 hat2
   (try simp only[Nat.zero_add,List.nil_append] at hk2)
   have hm5:=(HM.out.grow (World.grownBy_alloc wr _ none)).grow hg2
   have hkr:=hk2.kept (hm5.node.stored 3 vk).2 (Yo hk2 hm5.node (by decide))
   have HKR:=Xa hkr
   have HM6:=Xa (hm5.put 3 vk)
   have HFK:Hid (∀j,j<ns.length+(X6 f ns.length kids kids.length).length→∀y,vk.ownBlock=some y→(KV' j).ownBlock≠some y):=by
    intro j hj y hy e
    have h1:=((HM.out.nest.rk j (by simpa using hj)).lt y e).2
    rcases hat2 with e2|e2
    ·rw[e2] at hy;simp[Value.ownBlock] at hy
    ·rw[e2] at hy;simp at hy;omega
   obtain ⟨ak,ck,hvk⟩:=Xj hk2
   subst hvk
   have x3:w5.cell? ⟨w1.heap.size,3,none⟩=some (.slice none 0 0):=hm5.node.cellAt 3 (by omega)
   have f3:w5.frozen? ⟨w1.heap.size,3,none⟩=false:=hm5.node.frozenAt 3
   have hs5:=hm5.frame.size
   have X0:(w5.setCell ⟨w1.heap.size,3,none⟩ (.slice ak keys.length ck)).cell? ⟨w1.heap.size,0,none⟩=some (.int .i64 6):=HM6.out.node.cellAt 0 (by omega)
   have X1:(w5.setCell ⟨w1.heap.size,3,none⟩ (.slice ak keys.length ck)).cell? ⟨w1.heap.size,1,none⟩=some (.int .i64 0):=HM6.out.node.cellAt 1 (by omega)
   have X2:(w5.setCell ⟨w1.heap.size,3,none⟩ (.slice ak keys.length ck)).cell? ⟨w1.heap.size,2,none⟩=some (.string ⟨#[]⟩):=HM6.out.node.cellAt 2 (by omega)
   have X3:(w5.setCell ⟨w1.heap.size,3,none⟩ (.slice ak keys.length ck)).cell? ⟨w1.heap.size,3,none⟩=some (.slice ak keys.length ck):=HM6.out.node.cellAt 3 (by omega)
   have X4:(w5.setCell ⟨w1.heap.size,3,none⟩ (.slice ak keys.length ck)).cell? ⟨w1.heap.size,4,none⟩=some kv:=HM6.out.node.cellAt 4 (by omega)
   have HN:=Xa (HM6.out.nest.row.alloc (.cells #[.int .i64 6, .int .i64 0, .string ⟨#[]⟩, .slice ak keys.length ck,kv] 75))
   rw[HMM.out] at HN
   have h1:kv.oneCell'=true:=by obtain ⟨a,c,rfl⟩:=Xj HM.out.kids;rfl
   clear hm5 hkr hk2 hg2 hat2 y3
   go_wp2_with (at_builtin;refine wpList_append_own_at _ rfl _ _ 25 rfl base 75 i0 zeroNode 5 80 Tryz.underlying25 hi0 hz0 hs0 hy0 rfl (by decide) _ _ _ rfl HN.out ⟨w5.heap.size,0,none⟩ 1 1 [.int .i64 6, .int .i64 0, .string ⟨#[]⟩, .slice ak keys.length ck,kv] rfl rfl ?c1 ?c2 ?c3 ?c4 ?c5 ?_)
   case c1=>exact Xeo _ _ _ _ _ _ _ (by simp)
   case c2=>intro u hu;simp at hu;rcases hu with rfl|rfl|rfl|rfl|rfl<;>first|rfl|exact h1
   case c3=>unfold maxLen;omega
   case c4=>omega
   case c5=>simp;omega
   intro v' w6 hown hgrow _ hat
   have HL:=Xa (Mid.fin (x:={kind:=6,n:=0,s:=⟨#[]⟩,keys:=keys,kids:=ksT f ns.length kids kids.length}) HM6.out rfl HKR.out HFK.out (by rw[HMM.out];exact hown) hgrow (by simpa using hat))
   clear hown hgrow hat
   go_wp2_with fail
   go_ret
   exact ⟨_,_,_,rfl,HL.out⟩
theorem Xex (B base:Nat) (hB:B≤base):∀f,Xke B base f:=by
 intro f
 induction f with
 |zero=>intro t x v ns KV IV w _ h;exact h.elim
 | succ f ih =>
  intro t x v ns KV IV w hnest h hb hn
  obtain ⟨kind,n,s,keys,kids⟩:=t
  rw[Q1] at hn⊢
  rcases h with ⟨rfl,rfl,rfl,rfl,rfl,rfl⟩|⟨rfl,rfl,rfl,rfl,rfl⟩|⟨rfl,rfl,rfl,rfl,rfl⟩|⟨rfl,rfl,rfl,rfl,rfl⟩|⟨rfl,rfl,rfl,rfl,it,rfl,hi⟩|⟨rfl,rfl,rfl,ks,it,rfl,hs,hi⟩
  ·have:=Xky base v ns KV IV w hnest hb (by simp at hn;omega)
   simpa [X6,ksT,Zr] using this
  ·have:=Xkz n base v ns KV IV w hnest hb (by simp at hn;omega)
   simpa [X6,ksT,Zr] using this
  ·have:=Xmt n base v ns KV IV w hnest hb (by simp at hn;omega)
   simpa [X6,ksT,Zr] using this
  ·have:=Xk0 s base v ns KV IV w hnest hb (by simp at hn;omega)
   simpa [X6,ksT,Zr] using this
  ·exact Xkf B base f hB ih kids it v ns KV IV w hi hnest hb (by simp at hn;omega)
  ·exact Xmm B base f hB ih keys kids ks it v ns KV IV w hs hi hnest hb (by simp at hn;omega)

structure KindIs (t:Nat) (x:Value) (F:FuncId) (k:Int):Prop where
 meth : ∀ w, (Go.method 389 t x "loop.example/g00345/impl.kind").run Tryz.prog w = .ok (F, x) w
 enter:∀w,(callFunc F #[x]).run Tryz.prog w= .ok (.enter F #[x]) w
 says:∀w,Calls Tryz.prog F #[x] w fun e w'=>e= .returned (.int .i64 k)∧Below w.heap.size w w'
theorem Qk {lo B:Nat} {w:World} {vs:List VN} {f i:Nat} {v:Value} (h:ValG lo B w vs f i v):∃t x F,v= .iface t x∧KindIs t x F (Xb vs i).kind:=by
 cases f with
 |zero=>exact h.elim
 | succ f =>
  rcases h with ⟨k,rfl⟩|⟨k,rfl⟩|⟨k,rfl⟩|⟨k,rfl⟩|⟨k,it,rfl,hi⟩|⟨k,ks,it,rfl,hs,hi⟩
  ·rw[k];exact ⟨_,_,250,rfl,fun w=>by kernel_rfl,fun w=>by kernel_rfl,fun w=>K6 w⟩
  ·rw[k];exact ⟨_,_,240,rfl,fun w=>by kernel_rfl,fun w=>by kernel_rfl,fun w=>K7 _ w⟩
  ·rw[k];exact ⟨_,_,242,rfl,fun w=>by kernel_rfl,fun w=>by kernel_rfl,fun w=>K8 _ w⟩
  ·rw[k];exact ⟨_,_,244,rfl,fun w=>by kernel_rfl,fun w=>by kernel_rfl,fun w=>K9 _ w⟩
  ·obtain ⟨a,c,rfl,_⟩:=hi
   rw[k];exact ⟨_,_,248,rfl,fun w=>by kernel_rfl,fun w=>by kernel_rfl,fun w=>V8 _ _ _ w⟩
  ·obtain ⟨a,c,rfl,_⟩:=hi
   obtain ⟨_,_,a',c',rfl,_⟩:=hs
   rw[k];exact ⟨_,_,246,rfl,fun w=>by kernel_rfl,fun w=>by kernel_rfl,fun w=>Va _ _ _ _ _ _ w⟩

theorem X2h (x:List UInt8):∀y:List UInt8,Op.bytesLess x y=true↔x<y:=by
 induction x with
 |nil=>intro y;cases y<;>simp[Op.bytesLess]
 | cons a x ih =>
  intro y
  cases y with
  |nil=>simp[Op.bytesLess]
  | cons b y =>
   have h:=ih y
   rw[List.cons_lt_cons_iff,←h]
   by_cases h1:a<b<;>by_cases h2:a=b<;>simp[Op.bytesLess,h1,h2]
theorem Xcl (a b:ByteArray):Y9 a b=true↔a.toList<b.toList:=X2h _ _
theorem Xbm {a b c:ByteArray} (h1:Y9 a b=true) (h2:Y9 b c=true):Y9 a c=true:=by
 rw[Xcl] at *;exact List.lt_trans h1 h2
theorem Xjv {a b:ByteArray} (h1:Y9 a b=false) (h2:a.toList≠b.toList):Y9 b a=true:=by
 have h3:¬a.toList<b.toList:=fun h=>by rw[←Xcl] at h;rw[h1] at h;cases h
 rw[Xcl]
 by_cases h:b.toList<a.toList
 ·exact h
 ·exact absurd (List.le_antisymm (List.not_lt.1 h) (List.not_lt.1 h3)) h2
def Xid (l:List ByteArray):Prop:=∀i j,i<j→j<l.length→Y9 (Xh l i) (Xh l j)=true
theorem Jh {l:List ByteArray} (h:Q0 l=true):Xid l:=by
 unfold Q0 at h
 rw[List.all_eq_true] at h
 have h1:∀j,j<l.length→0<j→Y9 (Xh l (j-1)) (Xh l j)=true:=by
  intro j hj h0
  have:=h j (List.mem_range.2 hj)
  unfold Ql at this
  simp only[Bool.and_eq_true,Bool.or_eq_true,decide_eq_true_eq] at this
  rcases this.2 with e|e
  ·omega
  ·exact e
 intro i j hij hj
 induction j with
 |zero=>omega
 | succ j ih =>
  have h2:=h1 (j+1) hj (by omega)
  rw[Nat.add_sub_cancel] at h2
  by_cases e:i=j
  ·subst e;exact h2
  ·exact Xbm (ih (by omega) (by omega)) h2
def Z4 (l:List ByteArray) (key:ByteArray):Nat:=(l.takeWhile fun k=>Y9 k key).length
def Y5 (l:List ByteArray) (key:ByteArray):Bool:=decide (Z4 l key<l.length)&&decide ((Xh l (Z4 l key)).toList=key.toList)
theorem X2i {p:ByteArray→Bool}:∀{l:List ByteArray} {i:Nat},i≤l.length→(∀j,j<i→p (Xh l j)=true)→(i<l.length→p (Xh l i)=false)→(l.takeWhile p).length=i:=by
 intro l
 induction l with
 |nil=>intro i hi _ _;simp at hi;subst hi;rfl
 | cons a l ih =>
  intro i hi h1 h2
  cases i with
  | zero =>
   have:=h2 (by simp)
   simp[Xh] at this
   simp[List.takeWhile_cons,this]
  | succ i =>
   have ha:=h1 0 (by omega)
   simp[Xh] at ha
   rw[List.takeWhile_cons,if_pos ha,List.length_cons]
   rw[ih (i:=i) (by simp at hi;omega) (fun j hj=>by have:=h1 (j+1) (by omega);simpa [Xh] using this) (fun hl=>by have:=h2 (by simp;omega);simpa [Xh] using this)]
theorem Xgv {l:List ByteArray} {key:ByteArray} {i:Nat} (hi:i≤l.length) (h1:∀j,j<i→Y9 (Xh l j) key=true) (h2:i<l.length→Y9 (Xh l i) key=false):Z4 l key=i:=X2i hi h1 h2
theorem Xl7 {l:List ByteArray} (key:ByteArray):Z4 l key≤l.length∧(∀j,j<Z4 l key→Y9 (Xh l j) key=true)∧(Z4 l key<l.length→Y9 (Xh l (Z4 l key)) key=false):=by
 unfold Z4
 induction l with
 |nil=>exact ⟨by simp,fun j hj=>absurd hj (by simp),fun h=>absurd h (by simp)⟩
 | cons a l ih =>
  cases h:Y9 a key
  ·rw[List.takeWhile_cons,h]
   refine ⟨by simp,fun j hj=>absurd hj (by simp),fun _=> ?_⟩
   simpa [Xh] using h
  ·rw[List.takeWhile_cons,h]
   simp only[if_true,List.length_cons]
   refine ⟨by omega,fun j hj=> ?_,fun hl=> ?_⟩
   ·cases j with
    |zero=>simpa [Xh] using h
    |succ j=>have:=ih.2.1 j (by omega);simpa [Xh] using this
   ·have:=ih.2.2 (by omega);simpa [Xh] using this
theorem Xtm {a b:ByteArray} (h:Y9 a b=true):a.toList≠b.toList:=fun e=>by
 rw[Xcl,e] at h;exact absurd h (List.lt_irrefl _)
def G8 (kind:Int) (keys:List ByteArray) (n:Nat) (x:PS):Option Nat:=
 if x.named=true then (if kind=6∧Y5 keys x.key=true then some (Z4 keys x.key) else none)
 else if kind=5∧x.pl<(n:Int) then some x.pl.toNat else none
def Q8 (x:VN) (s:PS):Option Nat:=G8 x.kind x.keys x.kids.length s
theorem Xjw {l:List ByteArray} (h:Xid l) {key:ByteArray} {i:Nat} (hi:i<l.length) (he:(Xh l i).toList=key.toList) (hf:∀j,j<i→(Xh l j).toList≠key.toList):Y5 l key=true∧Z4 l key=i:=by
 have hp:Z4 l key=i:=Xgv (by omega) (fun j hj=>by
   have:=h j i hj hi
   rw[Xcl] at this⊢
   rw[←he];exact this) (fun _=>by
   cases h3:Y9 (Xh l i) key
   ·rfl
   ·exact absurd he (Xtm h3))
 refine ⟨?_,hp⟩
 unfold Y5
 rw[hp]
 simp[hi,he]
theorem Xl8 {l:List ByteArray} {key:ByteArray} (hf:∀j,j<l.length→(Xh l j).toList≠key.toList):Y5 l key=false:=by
 unfold Y5
 by_cases h:Z4 l key<l.length
 ·simp[h,hf _ h]
 ·simp[h]

theorem Xx5 {vs:List VN} {k:Nat} (h:k<vs.length):vs.take (k+1)=vs.take k++ [Xb vs k]:=by
 rw[List.take_add_one,List.getElem?_eq_getElem h]
 simp[Xb,h]
def Gn (l:List Int) (d:Int) (k:Nat):List Int:=(l.take k).map (· +d)
theorem Xu5 (l:List Int) (d:Int):Gn l d 0= []:=by simp[Gn]
theorem Xx6 {l:List Int} {d:Int} {k:Nat} (h:k≤l.length):(Gn l d k).length=k:=by unfold Gn;rw[List.length_map,List.length_take];omega
theorem Xu6 {l:List Int} {d:Int} {k:Nat} (h:k<l.length):Gn l d (k+1)=Gn l d k++ [Xm l k+d]:=by
 unfold Gn
 rw[List.take_add_one,List.getElem?_eq_getElem h,List.map_append,Zd h]
 simp
theorem Xx7 (l:List Int) (d:Int):Gn l d l.length=l.map (· +d):=by simp[Gn]
def X1k (x:VN):Prop:=x.keys.length≤100000∧x.kids.length≤100000∧∀j,j<x.kids.length→-1000000≤Xm x.kids j∧Xm x.kids j≤1000000
theorem Xpe (w:World) (b:Nat) (c0 c1 c2 c3 c4:Value) (hb:w.heap.size=b):∀j u,[c0,c1,c2,c3,c4][j]? =some u→(w.alloc (.cells #[c0,c1,c2,c3,c4] 75)).cell? ((⟨b,0,none⟩:Addr).add j)=some u:=by
 subst hb;exact World.news_of_block (cs:= #[c0,c1,c2,c3,c4]) (heap_alloc_new w _)
set_option maxRecDepth 100000 in
theorem Xlr (B base:Nat) (v u:Value) (ns vs:List VN) (KV IV:Nat→Value) (w:World) (h:Nest base w v ns KV IV) (hu:NodesAt B w u vs) (hB:B≤base) (hb:base≤w.heap.size) (hn:ns.length+vs.length≤100000) (hnear:∀i,i<vs.length→X1k (Xb vs i)):
  Calls Tryz.prog 83 #[v,u] w fun e w'=>∃v' KV' IV',e= .returned v'∧Laid base w w' v v' ns (vs.map (Yb (ns.length:Int))) KV IV KV' IV':=by
 have H:=Xa h
 have HU:=Xa hu
 have HNR:=Xa hnear
 have HV0:=Xa (fun y hy=>(h.row.lt y hy).1)
 obtain ⟨av,cv,rfl⟩:=Xj h.row
 obtain ⟨hlen,au,cu,rfl,hcu⟩:=hu
 have HCU:=Xa hcu
 clear h hnear hcu
 obtain ⟨i0,hi0,hz0,hs0,hy0⟩:=info_parts Kr
 obtain ⟨i1,hi1,hz1,hs1,hy1⟩:=info_parts Wr
 obtain ⟨i2,hi2,hz2,hs2,hy2⟩:=info_parts Wq
 obtain ⟨D,hD⟩:∃D,ns.length=D:=⟨_,rfl⟩
 have HD:=Xa hD
 rw[hD] at hn⊢
 clear hD
 go_enter Tryz.func83,Tryz.ntmps83
 go_wp2_with fail
 go_loopw [0,6] (fun o i wr=>∃(c:Nat) (KV' IV':Nat→Value),c≤vs.length∧i= .int .i64 c∧Laid base w wr (.slice av D cv) o ns ((vs.take c).map (Yb (D:Int))) KV IV KV' IV') (fun _ i _=>vs.length-(intOf i).toNat)
 case atStart=>exact ⟨0,KV,IV,Nat.zero_le _,rfl,by have:=Laid.refl H.out;rw[HD.out] at this;simpa using this⟩
 case round=>
  obtain ⟨c,KV',IV',hc,rfl,hlaid⟩:=hrel
  have HLD:=Xa hlaid
  have hbl:Below B w wr:=hlaid.below (by have:=HV0.out;rw[HD.out] at this;exact this) hB hb
  have zs:=hbl.size
  obtain ⟨ao,co,eo⟩:=Xj hlaid.1.row
  obtain ⟨M,hM⟩:∃M,(ns++(vs.take c).map (Yb (D:Int))).length=M:=⟨_,rfl⟩
  have HMM:=Xa hM
  have HM1:Hid (M=D+c):=by rw[Hid];rw[←hM,List.length_append,HD.out,List.length_map,List.length_take];omega
  rw[hM] at eo
  subst eo
  clear hlaid hM
  by_cases hlt:c<vs.length
  ·have hM2:M+1≤100000:=by have:=HM1.out;omega
   obtain ⟨b0,o0,rfl,hb0,hcell⟩:=HCU.out (by omega)
   obtain ⟨ka,ki,hn1⟩:=hcell c hlt
   have hn2:=hn1.below hbl hb0
   have c0:=hn2.c0
   have c1:=hn2.c1
   have c2:=hn2.c2
   have c3:=hn2.c3
   have c4:=hn2.c4
   obtain ⟨_,_,aK,cK,eK,hkk⟩:=hn2.inn.keys
   obtain ⟨_,hkb,aI,cI,eI,hki⟩:=hn2.inn.kids
   subst eK eI
   have HKK:=Xa hkk
   have HKI:=Xa hki
   have near:=HNR.out c hlt
   have HNE:=Xa near.2.2
   have hk1:=near.1
   have hk2:=near.2.1
   clear hn1 hn2 hkk hki hcell near
   obtain ⟨nK,hnK⟩:∃nK,(Xb vs c).keys.length=nK:=⟨_,rfl⟩
   obtain ⟨nI,hnI⟩:∃nI,(Xb vs c).kids.length=nI:=⟨_,rfl⟩
   have HNK:=Xa hnK
   have HNI:=Xa hnI
   rw[hnK] at c3 hk1
   rw[hnI] at c4 hk2
   clear hnK hnI
   obtain ⟨W1,hW1⟩:∃W1,wr.alloc (.cells #[.int .i64 (Xb vs c).kind, .int .i64 (Xb vs c).n, .string (Xb vs c).s, .slice aK nK cK, .slice aI nI cI] 75)=W1:=⟨_,rfl⟩
   have hm0:=Mid.start (c0:= .int .i64 (Xb vs c).kind) (c1:= .int .i64 (Xb vs c).n) (c2:= .string (Xb vs c).s) (c3:= .slice aK nK cK) (c4:= .slice aI nI cI) HLD.out.1 (by omega) (Below.refl _ wr) (Below.refl _ _)
   rw[hW1] at hm0
   have HM0:=Xa hm0
   have z1:W1.heap.size=wr.heap.size+1:=by rw[←hW1];simp
   have HBW:Hid (Below wr.heap.size wr W1):=by rw[Hid,←hW1];exact (Below.refl _ _).alloc (Nat.le_refl _) _
   have HSRC:Hid (0<nK→∃ad,aK=some ad∧∀j u,((Xb vs c).keys.map Value.string)[j]? =some u→(W1.alloc (.cells #[] 9)).cell? (ad.add j)=some u):=by
    intro hp
    obtain ⟨bk,ok,rfl,hbk,hck⟩:=HKK.out (by rw[HNK.out];exact hp)
    refine ⟨_,rfl,fun j u hj=> ?_⟩
    have hj':j<(Xb vs c).keys.length:=by have:=(List.getElem?_eq_some_iff.1 hj).1;simpa using this
    rw[show (⟨bk,ok,none⟩:Addr).add j=⟨bk,ok+j,none⟩ by simp[Addr.add],Xc ((Below.refl _ W1).alloc (Nat.le_refl _) _) (by omega),Xc HBW.out (by omega),hck j hj']
    simp[hj',Xh] at hj⊢
    exact hj
   have HOWN:Hid ((W1.alloc (.cells #[] 9)).ownsRow wr.heap.size 9 1 (.slice (some ⟨wr.heap.size+1,0,none⟩) 0 0) 0 []):=by
    have:=World.ownsRow_lit (base:=wr.heap.size) (e:=9) (size:=1) W1 #[] 0 (by omega) (by simp[maxLen]) rfl
    rw[z1] at this
    exact this
   have y3:W1.cell? ⟨wr.heap.size,3,none⟩=some (.slice aK nK cK):=HM0.out.node.cellAt 3 (by omega)
   go_wp2_with (at_builtin;refine Ye rfl _ _ 72 rfl wr.heap.size 9 i1 (.string ByteArray.empty) 1 16 Tryz.underlying72 hi1 hz1 hs1 hy1 rfl (by decide) _ 0 [] rfl HOWN.out aK nK cK ((Xb vs c).keys.map .string) rfl (by simp[HNK.out]) HSRC.out ?c2 ?c3 ?c4 ?c5 ?_)
   case c2=>intro u hu;first|rfl|(obtain ⟨q,_,rfl⟩:=List.mem_map.1 hu;rfl)
   case c3=>unfold maxLen;omega
   case c4=>omega
   case c5=>first|omega|(simp;omega)
   intro vk w5 hk2 hg2 hat2
   (try simp only[Nat.zero_add,List.nil_append] at hk2)
   have hgg:W1.grownBy w5 none:=(World.grownBy_alloc W1 _ none).andThen hg2 (fun j hj=>Or.inl (by simp[Value.ownBlock] at hj;omega))
   have hm5:=HM0.out.grow hgg
   have HFK:Hid (∀j,j<(ns++(vs.take c).map (Yb (D:Int))).length+([]:List VN).length→∀y,vk.ownBlock=some y→(KV' j).ownBlock≠some y):=by
    intro j hj y hy e
    have h1:=((HLD.out.1.rk j (by simpa using hj)).lt y e).2
    have h2:=(hk2.lt y hy).1
    omega
   have hkr:=hk2.kept (hm5.node.stored 3 vk).2 (Yo hk2 hm5.node (by decide))
   obtain ⟨ak,ck,hvk⟩:=Xj hk2
   subst hvk
   have hm7:=(hm5.put 3 (.slice ak nK ck)).kid0
   have hkr7:=hkr.alloc (.cells #[] 2)
   have x3:w5.cell? ⟨wr.heap.size,3,none⟩=some (.slice aK nK cK):=hm5.node.cellAt 3 (by omega)
   have f3:w5.frozen? ⟨wr.heap.size,3,none⟩=false:=hm5.node.frozenAt 3
   have e5:(w5.setCell ⟨wr.heap.size,3,none⟩ (.slice ak nK ck)).heap.size=w5.heap.size:=by simp
   rw[e5] at hm7
   have HM7:=Xa hm7
   have HKR7:=Xa hkr7
   clear hm7 hkr7 hkr hm5 hgg hk2 hg2 hat2 y3 e5 c0 c1 c2 c3 c4
   go_wp2_with fail
   generalize ((w5.setCell ⟨wr.heap.size,3,none⟩ (.slice ak nK ck)).alloc (.cells #[] 2))=W7 at *
   clear x3 f3 HSRC HOWN HM0 HBW z1 hW1 hm0
   obtain ⟨W0,rfl⟩:∃W0,W0=wr:=⟨_,rfl⟩
   go_loopw [8,9] (fun it i wr=>∃k:Nat,k≤nI∧i= .int .i64 k∧Mid base W0 wr W0.heap.size (.slice ao M co) (.slice ao M co) it (ns++(vs.take c).map (Yb (D:Int))) [] (Gn (Xb vs c).kids (D:Int) k) [.int .i64 (Xb vs c).kind, .int .i64 (Xb vs c).n, .string (Xb vs c).s, .slice ak nK ck, .slice aI nI cI] KV' IV' KV' IV'∧wr.ownsRow W0.heap.size 9 1 (.slice ak nK ck) nK ((Xb vs c).keys.map .string)) (fun _ i _=>nI-(intOf i).toNat)
   case atStart=>exact ⟨0,Nat.zero_le _,rfl,by rw[Xu5];exact HM7.out,HKR7.out⟩
   case round=>
    obtain ⟨k,hk,rfl,hm,hkr⟩:=hrel
    have HM:=Xa hm
    have HKR:=Xa hkr
    have hfs:=hm.frame.size
    have hlen2:(Gn (Xb vs c).kids (D:Int) k).length=k:=Xx6 (by rw[HNI.out];exact hk)
    obtain ⟨ai,ci,ei⟩:=Xj hm.kids
    rw[hlen2] at ei
    subst ei
    have HLK:=Xa hlen2
    have y4:wr.cell? ⟨W0.heap.size,4,none⟩=some (.slice aI nI cI):=HM.out.node.cellAt 4 (by omega)
    clear hm hkr hlen2
    by_cases hkk:k<nI
    ·obtain ⟨bk,ok,rfl,hbk,hck⟩:=HKI.out (by rw[HNI.out];omega)
     obtain ⟨Q,hQ⟩:∃Q,Xm (Xb vs c).kids k=Q:=⟨_,rfl⟩
     have hcq:wr.cell? ⟨bk,ok+k,none⟩=some (.int .i64 Q):=by rw[←hQ];exact (Xc (HM.out.keepL hB) hbk).trans (hck k (by rw[HNI.out];exact hkk))
     have hQb:=HNE.out k (by rw[HNI.out];exact hkk)
     rw[hQ] at hQb
     obtain ⟨hQ1,hQ2⟩:=hQb
     have HTK:Hid (Gn (Xb vs c).kids (D:Int) (k+1)=Gn (Xb vs c).kids (D:Int) k++ [Q+(D:Int)]):=by rw[Hid,Xu6 (by rw[HNI.out];exact hkk),hQ]
     have HKD:=Xa HM.out.kids
     clear hQ hck
     go_wp2_with (at_builtin;refine wpList_append_own_at _ rfl _ _ 73 rfl W0.heap.size 2 i2 (.int .i64 0) 1 8 Tryz.underlying73 hi2 hz2 hs2 hy2 rfl (by decide) _ _ _ rfl (HKD.out.alloc _) ⟨wr.heap.size,0,none⟩ 1 1 [.int .i64 (Q+(D:Int))] rfl rfl ?c1 ?c2 ?c3 ?c4 ?c5 ?_)
     case c1=>exact cell_one_new _ _ _
     case c2=>first|rfl|(intro u hu;simp at hu;subst hu;rfl)
     case c3=>first|omega|(rw[HLK.out];unfold maxLen;omega)
     case c4=>first|omega|(rw[HLK.out];omega)
     case c5=>first|omega|(simp;omega)
     intro kv' w9 hown hgrow _ hat
     have HM9:=Xa (HM.out.kid1 hown hgrow (by simpa using hat))
     have HKR9:=Xa (HKR.out.kept ((World.grownBy_alloc wr _ _).trans hgrow) (Yo HKR.out HKD.out (by decide)))
     clear hown hgrow hat
     go_wp2_with fail
     go_roundw
     case rel=>exact ⟨k+1,by omega,by go_num,by rw[HTK.out];exact HM9.out,HKR9.out⟩
     case measure=>simp[intOf];omega
    ·obtain rfl:k=nI:=by omega
     have HMP:=Xa (HM.out.put 4 (.slice ai k ci))
     have f4:wr.frozen? ⟨W0.heap.size,4,none⟩=false:=HM.out.node.frozenAt 4
     have HKRP:=Xa (HKR.out.kept (HM.out.node.stored 4 (.slice ai k ci)).2 (Yo HKR.out HM.out.node (by decide)))
     have X0:(wr.setCell ⟨W0.heap.size,4,none⟩ (.slice ai k ci)).cell? ⟨W0.heap.size,0,none⟩=some (.int .i64 (Xb vs c).kind):=HMP.out.node.cellAt 0 (by omega)
     have X1:(wr.setCell ⟨W0.heap.size,4,none⟩ (.slice ai k ci)).cell? ⟨W0.heap.size,1,none⟩=some (.int .i64 (Xb vs c).n):=HMP.out.node.cellAt 1 (by omega)
     have X2:(wr.setCell ⟨W0.heap.size,4,none⟩ (.slice ai k ci)).cell? ⟨W0.heap.size,2,none⟩=some (.string (Xb vs c).s):=HMP.out.node.cellAt 2 (by omega)
     have X3:(wr.setCell ⟨W0.heap.size,4,none⟩ (.slice ai k ci)).cell? ⟨W0.heap.size,3,none⟩=some (.slice ak nK ck):=HMP.out.node.cellAt 3 (by omega)
     have X4:(wr.setCell ⟨W0.heap.size,4,none⟩ (.slice ai k ci)).cell? ⟨W0.heap.size,4,none⟩=some (.slice ai k ci):=HMP.out.node.cellAt 4 (by omega)
     have HN:=Xa (HMP.out.nest.row.alloc (.cells #[.int .i64 (Xb vs c).kind, .int .i64 (Xb vs c).n, .string (Xb vs c).s, .slice ak nK ck, .slice ai k ci] 75))
     rw[List.append_nil,HMM.out] at HN
     go_wp2_with (at_builtin;refine wpList_append_own_at _ rfl _ _ 25 rfl base 75 i0 zeroNode 5 80 Tryz.underlying25 hi0 hz0 hs0 hy0 rfl (by decide) _ _ _ rfl HN.out ⟨wr.heap.size,0,none⟩ 1 1 [.int .i64 (Xb vs c).kind, .int .i64 (Xb vs c).n, .string (Xb vs c).s, .slice ak nK ck, .slice ai k ci] rfl rfl ?c1 ?c2 ?c3 ?c4 ?c5 ?_)
     case c1=>exact Xpe _ _ _ _ _ _ _ (by simp)
     case c2=>intro u hu;simp at hu;rcases hu with rfl|rfl|rfl|rfl|rfl<;>rfl
     case c3=>unfold maxLen;omega
     case c4=>omega
     case c5=>simp;omega
     intro v' w6 hown hgrow _ hat
     have hfin:=Mid.fin (x:=Yb (D:Int) (Xb vs c)) HMP.out (by show (Xb vs c).kids.map (· +(D:Int))=_;rw[←HNI.out,Xx7]) (by show World.ownsRow _ _ _ _ _ (Xb vs c).keys.length _;rw[HNK.out];exact HKRP.out) HFK.out (by rw[List.append_nil,HMM.out,List.map_take];exact hown) hgrow (by simpa using hat)
     have HL:=Xa (HLD.out.trans hfin)
     have HTN:Hid ((vs.take (c+1)).map (Yb (D:Int))=(vs.take c).map (Yb (D:Int))++ [Yb (D:Int) (Xb vs c)]):=by rw[Hid,Xx5 hlt,List.map_append];rfl
     clear hown hgrow hat hfin
     go_wp2_with fail
     go_roundw
     case rel=>exact ⟨c+1,_,_,by omega,by go_num,by rw[HTN.out];exact HL.out⟩
     case measure=>simp[intOf];omega
  ·obtain rfl:c=vs.length:=by omega
   go_wp2_with fail
   go_ret
   exact ⟨_,_,_,rfl,by have:=HLD.out;rwa [List.take_length] at this⟩

def Yg (L:Nat→List VN):Nat→List VN
 |0=> []
 |i+1=>Yg L i++(L i).map (Yb ((Yg L i).length:Int))
def Zb (L:Nat→List VN):Nat→List Int
 |0=> []
 |i+1=>Zb L i++ [((Yg L (i+1)).length:Int)-1]
def Yn (kind:Int) (keys:List ByteArray) (L:Nat→List VN) (m:Nat):List VN:=Yg L m++ [{kind:=kind,n:=0,s:=ByteArray.empty,keys:=keys,kids:=Zb L m}]
theorem Qm (L:Nat→List VN):∀i,(Zb L i).length=i:=by
 intro i
 induction i with
 |zero=>rfl
 |succ i ih=>simp[Zb,ih]
theorem Vb (L:Nat→List VN) (i:Nat):(Yg L (i+1)).length=(Yg L i).length+(L i).length:=by simp[Yg]
theorem Xjk (L:Nat→List VN) {i j:Nat} (h:i≤j):(Yg L i).length≤(Yg L j).length:=by
 induction j with
 | zero => obtain rfl : i = 0 := by omega
           exact Nat.le_refl _
 | succ j ih =>
  rcases Nat.lt_or_ge i (j+1) with e|e
  ·have:=ih (by omega)
   rw[Vb]
   omega
  ·obtain rfl:i=j+1:=by omega
   exact Nat.le_refl _
structure Duo (base:Nat) (w wr:World) (v kv:Value) (ns:List VN) (ks:List Int) (KV IV:Nat→Value):Prop where
 nest:Nest base wr v ns KV IV
 kids:wr.ownsRow base 2 1 kv ks.length (ks.map (.int .i64))
 ki:∀j,j<ns.length→∀y,kv.ownBlock=some y→(IV j).ownBlock≠some y
 frame:Below base w wr
theorem Duo.laid {base:Nat} {w wr w':World} {v v' kv:Value} {ns add:List VN} {ks:List Int} {KV IV KV' IV':Nat→Value} (h:Duo base w wr v kv ns ks KV IV) (l:Laid base wr w' v v' ns add KV IV KV' IV') (hb:base≤wr.heap.size):Duo base w w' v' kv (ns++add) ks KV' IV':=by
 refine ⟨l.1,h.kids.kept l.2.1 (Yo h.kids h.nest.row (by decide)),fun j hj y hy=> ?_,h.frame.grown l.2.1 hb (fun k hk=>(h.nest.row.lt k hk).1)⟩
 by_cases e:j<ns.length
 ·rw[(l.2.2.2.1 j e).2];exact h.ki j e y hy
 ·intro e2
  have:=(l.2.2.2.2 j (by omega) (by simpa using hj)).2 y e2
  have:=(h.kids.lt y hy).2
  omega
theorem Duo.kid {base:Nat} {w wr w5:World} {v kv kv':Value} {ns:List VN} {ks:List Int} {KV IV:Nat→Value} {o:Obj} {q:Int} (h:Duo base w wr v kv ns ks KV IV) (hb:base≤wr.heap.size)
  (hown:w5.ownsRow base 2 1 kv' (ks.length+1) (ks.map (.int .i64)++ [.int .i64 q])) (hg:(wr.alloc o).grownBy w5 kv.ownBlock) (hat:kv'.ownBlock=kv.ownBlock∨kv'.ownBlock=some (wr.heap.size+1)):
  Duo base w w5 v kv' ns (ks++ [q]) KV IV:=by
 have hg1:wr.grownBy w5 kv.ownBlock:=(World.grownBy_alloc wr o _).trans hg
 have hkk:∀i,i<ns.length→(IV i).ownBlock=none∨(IV i).ownBlock≠kv.ownBlock:=by
  intro i hi
  cases e:kv.ownBlock with
  | none => cases e2 : (IV i).ownBlock with
   |none=>exact Or.inl rfl
   |some y=>exact Or.inr (by simp)
  |some y=>exact Or.inr (h.ki i hi y e)
 refine ⟨h.nest.kept hg1 (Yo h.nest.row h.kids (by decide)) (fun i hi=>Yo (h.nest.rk i hi) h.kids (by decide)) hkk,by simpa using hown,fun j hj y hy=> ?_,h.frame.grown hg1 hb (fun k hk=>(h.kids.lt k hk).1)⟩
 rcases hat with e|e
 ·exact h.ki j hj y (e▸hy)
 ·rw[e] at hy
  simp at hy
  intro e2
  have:=((h.nest.ri j hj).lt y e2).2
  omega
set_option maxRecDepth 100000 in
theorem Xbl (B:Nat) (kind:Int) (kv0 u:Value) (keys:List ByteArray) (m:Nat) (L:Nat→List VN) (w:World) (hks:StrsAt B w kv0 keys) (hu:U4 B w u m L) (hB:B≤w.heap.size) (hm:m≤100000) (hkn:keys.length≤100000) (hn:(Yg L m).length+1≤100000) (hnear:∀i,i<m→0<(L i).length∧∀j,j<(L i).length→X1k (Xb (L i) j)):
  Calls Tryz.prog 75 #[.int .i64 kind,kv0,u] w fun e w'=>∃r KV IV,e= .returned r∧Nest w.heap.size w' r (Yn kind keys L m) KV IV∧Below w.heap.size w w':=by
 have HU:=Xa hu
 have HKS:=Xa hks
 have HNR:=Xa hnear
 obtain ⟨_,au,cu,rfl,hcu⟩:=hu
 obtain ⟨_,_,aK,cK,rfl,hck⟩:=hks
 have HCU:=Xa hcu
 clear hcu hck hnear
 obtain ⟨i0,hi0,hz0,hs0,hy0⟩:=info_parts Kr
 obtain ⟨i1,hi1,hz1,hs1,hy1⟩:=info_parts Wr
 obtain ⟨i2,hi2,hz2,hs2,hy2⟩:=info_parts Wq
 have hd0:Duo w.heap.size w ((w.alloc (.cells #[] 75)).alloc (.cells #[] 2)) (.slice (some ⟨w.heap.size,0,none⟩) 0 0) (.slice (some ⟨w.heap.size+1,0,none⟩) 0 0) (Yg L 0) (Zb L 0) (fun _=>undef) (fun _=>undef):=by
  refine ⟨⟨?_,fun i hi=>absurd hi (by simp[Yg]),fun i hi=>absurd hi (by simp[Yg]),fun i j hi=>absurd hi (by simp[Yg]),fun i j hi=>absurd hi (by simp[Yg])⟩, ?_,fun j hj=>absurd hj (by simp[Yg]),((Below.refl _ _).alloc (Nat.le_refl _) _).alloc (by simp) _⟩
  ·exact (World.ownsRow_lit (base:=w.heap.size) (e:=75) (size:=5) w #[] 0 (Nat.le_refl _) (by simp[maxLen]) rfl).alloc _
  ·have:=World.ownsRow_lit (base:=w.heap.size) (e:=2) (size:=1) (w.alloc (.cells #[] 75)) #[] 0 (by simp) (by simp[maxLen]) rfl
   simpa [Zb] using this
 have HD0:=Xa hd0
 clear hd0
 go_enter Tryz.func75,Tryz.ntmps75
 go_wp2_with fail
 go_loopw [7,8,9] (fun o kd i wr=>∃(k:Nat) (KV IV:Nat→Value),k≤m∧i= .int .i64 k∧Duo w.heap.size w wr o kd (Yg L k) (Zb L k) KV IV) (fun _ _ i _=>m-(intOf i).toNat)
 case atStart=>exact ⟨0,_,_,Nat.zero_le _,rfl,HD0.out⟩
 case round=>
  obtain ⟨k,KV,IV,hk,rfl,hduo⟩:=hrel
  have HD:=Xa hduo
  have zs:=hduo.frame.size
  obtain ⟨ao,co,eo⟩:=Xj hduo.nest.row
  obtain ⟨ai,ci,ei⟩:=Xj hduo.kids
  obtain ⟨M,hM⟩:∃M,(Yg L k).length=M:=⟨_,rfl⟩
  have HMM:=Xa hM
  have hMle:M≤(Yg L m).length:=by rw[←hM];exact Xjk L hk
  rw[hM] at eo
  rw[Qm] at ei
  subst eo ei
  clear hduo hM
  by_cases hlt:k<m
  ·obtain ⟨b,rfl,hbB,hcell⟩:=HCU.out (by omega)
   obtain ⟨r,hcr,hnr⟩:=hcell k hlt
   have hcr':=(Xc HD.out.frame (by omega)).trans hcr
   have HNK:=Xa (hnr.below (HD.out.frame.mono hB))
   obtain ⟨_,ar,cr,rfl,_⟩:=hnr
   have HL1:=Xa (Xjk L (show k+1≤m by omega))
   have HLN:=Xa (Vb L k)
   obtain ⟨Lk,hLk⟩:∃Lk,(L k).length=Lk:=⟨_,rfl⟩
   have HLK:=Xa hLk
   rw[hLk] at hcr'
   have hMb:M+Lk+1≤100000:=by
    have h1:=HL1.out
    have h2:=HLN.out
    rw[HMM.out,hLk] at h2
    omega
   have HNK2:=Xa HNK.out
   rw[hLk] at HNK2
   have hLp:0<Lk:=by rw[←hLk];exact (HNR.out k hlt).1
   clear hcell hcr hLk hMle
   go_wp2_with fail
   refine (Xlr B w.heap.size (.slice ao M co) (.slice ar Lk cr) (Yg L k) (L k) KV IV wr HD.out.nest HNK2.out hB zs (by rw[HMM.out,HLK.out];omega) (HNR.out k hlt).2).mono ?_
   rintro e w3 ⟨v3,KV3,IV3,rfl,hl3⟩
   have hd3:=HD.out.laid hl3 zs
   have HD3:Hid (Duo w.heap.size w w3 v3 (.slice ai k ci) (Yg L (k+1)) (Zb L k) KV3 IV3):=hd3
   have z3:=HD3.out.frame.size
   obtain ⟨a3,c3,e3⟩:=Xj HD3.out.nest.row
   obtain ⟨N,hN⟩:∃N,(Yg L (k+1)).length=N:=⟨_,rfl⟩
   have hN1:N≤100000:=by rw[←hN,HLN.out,HMM.out,HLK.out];omega
   have hN0:1≤N:=by rw[←hN,HLN.out,HMM.out,HLK.out];omega
   have HNN:=Xa hN
   rw[hN] at e3
   subst e3
   have HKD:=Xa HD3.out.kids
   rw[Qm] at HKD
   have HKS2:Hid (Zb L (k+1)=Zb L k++ [(N:Int)-1]):=by rw[Hid,←HNN.out];rfl
   clear hl3 hd3 hN
   go_wp2_with (at_builtin;refine wpList_append_own_at _ rfl _ _ 73 rfl w.heap.size 2 i2 (.int .i64 0) 1 8 Tryz.underlying73 hi2 hz2 hs2 hy2 rfl (by decide) _ _ _ rfl (HKD.out.alloc _) ⟨w3.heap.size,0,none⟩ 1 1 [.int .i64 ((N:Int)-1)] rfl rfl ?c1 ?c2 ?c3 ?c4 ?c5 ?_)
   case c1=>exact cell_one_new _ _ _
   case c2=>first|rfl|(intro u hu;simp at hu;subst hu;rfl)
   case c3=>unfold maxLen;omega
   case c4=>omega
   case c5=>first|omega|(simp;omega)
   intro kv' w5 hown hgrow _ hat
   have HD5:=Xa (HD3.out.kid (by omega) (by rw[Qm];exact hown) hgrow (by simpa using hat))
   clear hown hgrow hat
   go_wp2_with fail
   go_roundw
   case rel=>exact ⟨k+1,KV3,IV3,by omega,by go_num,by rw[HKS2.out];exact HD5.out⟩
   case measure=>simp[intOf];omega
  ·obtain rfl:k=m:=by omega
   have HOWN:Hid ((wr.alloc (.cells #[] 9)).ownsRow w.heap.size 9 1 (.slice (some ⟨wr.heap.size,0,none⟩) 0 0) 0 []):=World.ownsRow_lit wr #[] 0 zs (by simp[maxLen]) rfl
   have HSRC:Hid (0<keys.length→∃ad,aK=some ad∧∀j u,(keys.map Value.string)[j]? =some u→(wr.alloc (.cells #[] 9)).cell? (ad.add j)=some u):=by
    intro hp
    obtain ⟨_,_,aK',cK',e,hck⟩:=HKS.out
    cases e
    obtain ⟨bk,ok,rfl,hbk,hcc⟩:=hck hp
    refine ⟨_,rfl,fun j u hj=> ?_⟩
    have hj':j<keys.length:=by have:=(List.getElem?_eq_some_iff.1 hj).1;simpa using this
    rw[show (⟨bk,ok,none⟩:Addr).add j=⟨bk,ok+j,none⟩ by simp[Addr.add],Xc ((Below.refl _ wr).alloc (Nat.le_refl _) _) (by omega),Xc HD.out.frame (by omega),hcc j hj']
    simp[hj',Xh] at hj⊢
    exact hj
   go_wp2_with (at_builtin;refine Ye rfl _ _ 72 rfl w.heap.size 9 i1 (.string ByteArray.empty) 1 16 Tryz.underlying72 hi1 hz1 hs1 hy1 rfl (by decide) _ 0 [] rfl HOWN.out aK keys.length cK (keys.map .string) rfl (by simp) HSRC.out ?c2 ?c3 ?c4 ?c5 ?_)
   case c2=>intro u hu;first|rfl|(obtain ⟨q,_,rfl⟩:=List.mem_map.1 hu;rfl)
   case c3=>unfold maxLen;omega
   case c4=>omega
   case c5=>first|omega|(simp;omega)
   intro vk w5 hk2 hg2 hat2
   (try simp only[Nat.zero_add,List.nil_append] at hk2)
   have hgg:wr.grownBy w5 none:=(World.grownBy_alloc wr _ none).andThen hg2 (fun j hj=>Or.inl (by simp[Value.ownBlock] at hj;omega))
   have nn:∀x:Option Nat,x=none∨x≠none:=fun x=>by cases x<;>simp
   have hnest5:=HD.out.nest.kept hgg (nn _) (fun _ _=>nn _) (fun _ _=>nn _)
   have hkids5:=HD.out.kids.kept hgg (nn _)
   have hb5:Below w.heap.size w w5:=HD.out.frame.grown hgg zs (fun k hk=>by cases hk)
   have HFK:Hid (∀j,j<(Yg L k).length→∀y,vk.ownBlock=some y→(KV j).ownBlock≠some y):=by
    intro j hj y hy e
    have h1:=((HD.out.nest.rk j hj).lt y e).2
    rcases hat2 with e2|e2
    ·rw[e2] at hy;simp[Value.ownBlock] at hy;omega
    ·rw[e2] at hy;simp at hy;omega
   obtain ⟨ak,ck,hvk⟩:=Xj hk2
   subst hvk
   have HN5:=Xa hnest5
   have HK5:=Xa hkids5
   have HV5:=Xa hk2
   have HB5:=Xa hb5
   have z5:=hb5.size
   have HROW:=Xa (hnest5.row.alloc (.cells #[.int .i64 kind, .int .i64 0, .string ⟨#[]⟩, .slice ak keys.length ck, .slice ai k ci] 75))
   rw[HMM.out] at HROW
   clear hnest5 hkids5 hb5 hk2 hg2 hat2 hgg nn HSRC HOWN
   go_wp2_with (at_builtin;go_loud (refine wpList_append_own_at _ rfl _ _ 25 rfl w.heap.size 75 i0 zeroNode 5 80 Tryz.underlying25 hi0 hz0 hs0 hy0 rfl (by decide) _ _ _ rfl HROW.out ⟨w5.heap.size,0,none⟩ 1 1 [.int .i64 kind, .int .i64 0, .string ⟨#[]⟩, .slice ak keys.length ck, .slice ai k ci] rfl rfl ?c1 ?c2 ?c3 ?c4 ?c5 ?_))
   case c1=>exact Xpe _ _ _ _ _ _ _ (by simp)
   case c2=>intro u hu;simp at hu;rcases hu with rfl|rfl|rfl|rfl|rfl<;>rfl
   case c3=>unfold maxLen;omega
   case c4=>omega
   case c5=>simp;omega
   intro v' w6 hown hgrow _ hat
   have hg6:w5.grownBy w6 (Value.slice ao M co).ownBlock:=(World.grownBy_alloc w5 _ _).trans hgrow
   have HF:=Xa (Nest.snoc (x:={kind:=kind,n:=0,s:=⟨#[]⟩,keys:=keys,kids:=Zb L k}) HN5.out HV5.out HK5.out HFK.out (fun j hj=>HD.out.ki j hj) (by rw[HMM.out];exact hown) hg6)
   have HB6:Hid (Below w.heap.size w w6):=HB5.out.grown hg6 z5 (fun x hx=>(HN5.out.row.lt x hx).1)
   clear hown hgrow hat hg6
   go_wp2_with fail
   go_ret
   exact ⟨_,_,_,rfl,HF.out,HB6.out⟩

theorem Xbj {vs:List VN} (hok:okB vs=true):∃h,tr (Yj vs) (vs.length-1)=some (0,h):=by
 unfold okB Jy at hok
 simp only[Bool.and_eq_true] at hok
 have h:=hok.2
 cases e:tr (Yj vs) (vs.length-1) with
 |none=>simp[e] at h
 |some p=>obtain ⟨a,b⟩:=p;simp[e] at h;obtain ⟨rfl,_⟩:=h;exact ⟨b,rfl⟩
def Xal (vs:List VN):VT:=Xw vs 80 (vs.length-1)
theorem Xkq (vs:List VN) (d:Int):run vs d 0 vs.length=vs.map (Yb d):=by
 unfold run
 apply List.ext_getElem?
 intro j
 by_cases hj:j<vs.length
 ·simp[List.getElem?_range',hj,Xb]
 ·simp[hj]
theorem Xpp {vs:List VN} (hok:okB vs=true) (sh:Nat):Yi 80 (Xal vs) sh=vs.map (Yb (sh:Int)):=by
 obtain ⟨p1,_,_,_⟩:=Xp hok
 obtain ⟨h,htr⟩:=Xbj hok
 unfold Xal
 rw[←Wo,Xbn vs 80 (vs.length-1) sh 0 h (by omega) htr,←Xkq]
 have e:vs.length-1+1-0=vs.length:=by omega
 rw[e]
 simp
def Vv (L:Nat→List VN) (m:Nat):List VT:=(List.range m).map fun i=>Xal (L i)
theorem Xf1 (L:Nat→List VN) (m:Nat):(Vv L m).length=m:=by simp[Vv]
theorem Xpq (L:Nat→List VN) {m j:Nat} (h:j<m):Yl (Vv L m) j=Xal (L j):=by simp[Vv,Yl,h]
theorem X3v (L:Nat→List VN) (m:Nat) (hok:∀i,i<m→okB (L i)=true):∀k,k≤m→X6 80 0 (Vv L m) k=Yg L k∧ksT 80 0 (Vv L m) k=Zb L k:=by
 intro k
 induction k with
 |zero=>intro _;exact ⟨Qs _ _ _,Ja _ _ _⟩
 | succ k ih =>
  intro hk
  obtain ⟨h1,h2⟩:=ih (by omega)
  have hlt:k<(Vv L m).length:=by rw[Xf1];omega
  have e:X6 80 0 (Vv L m) (k+1)=Yg L (k+1):=by
   rw[Zi 80 0 hlt,h1,Xpq L (by omega),Xpp (hok k (by omega)),Nat.zero_add]
   rfl
  refine ⟨e, ?_⟩
  rw[Qy 80 0 hlt,h2,e,Nat.zero_add]
  rfl
theorem Xh3 (kind:Int) (keys:List ByteArray) (L:Nat→List VN) (m:Nat) (hok:∀i,i<m→okB (L i)=true):Yi 81 (.mk kind 0 ByteArray.empty keys (Vv L m)) 0=Yn kind keys L m:=by
 rw[Q1,Xf1]
 obtain ⟨h1,h2⟩:=X3v L m hok m (Nat.le_refl _)
 rw[h1,h2]
 rfl
theorem Vk {L:Nat→List VN} {m:Nat} (hok:∀i,i<m→okB (L i)=true):∀k,k≤m→(Yg L k).length≤k *80:=by
 intro k
 induction k with
 |zero=>intro _;simp[Yg]
 | succ k ih =>
  intro hk
  have h1:=ih (by omega)
  have h2:=(Xp (hok k (by omega))).1
  rw[Vb]
  omega
theorem Z1 {a b:List VN} {i:Nat} (h:i<a.length):Xb (a++b) i=Xb a i:=by
 unfold Xb;rw[List.getD_eq_getElem?_getD,List.getD_eq_getElem?_getD,List.getElem?_append_left h]
theorem Zz {a b:List VN} {i:Nat} (h:a.length≤i):Xb (a++b) i=Xb b (i-a.length):=by
 unfold Xb;rw[List.getD_eq_getElem?_getD,List.getD_eq_getElem?_getD,List.getElem?_append_right h]
theorem Xjc {vs:List VN} {d:Int} {i:Nat} (h:i<vs.length):Xb (vs.map (Yb d)) i=Yb d (Xb vs i):=by
 unfold Xb;simp[h]
def X5a (x:VN):Prop:=Fits x∧x.keys.length≤80∧x.kids.length≤80∧∀j,j<x.kids.length→-10000≤Xm x.kids j∧Xm x.kids j≤10000
theorem X1u {L:Nat→List VN} {m:Nat} (hm:m≤80) (hok:∀i,i<m→okB (L i)=true) (hf:∀i,i<m→∀j,j<(L i).length→Fits (Xb (L i) j)):∀k,k≤m→∀i,i<(Yg L k).length→X5a (Xb (Yg L k) i):=by
 intro k
 induction k with
 |zero=>intro _ i hi;simp[Yg] at hi
 | succ k ih =>
  intro hk i hi
  have hle:=Vk hok k (by omega)
  rw[Yg]
  by_cases e:i<(Yg L k).length
  ·rw[Z1 e];exact ih (by omega) i e
  ·rw[Zz (by omega)]
   rw[Vb] at hi
   rw[Xjc (by omega)]
   have hj:i-(Yg L k).length<(L k).length:=by omega
   generalize i-(Yg L k).length=j at hj
   have f:=hf k (by omega) j hj
   have kf:=Ve (hok k (by omega)) j hj
   have p1:=(Xp (hok k (by omega))).1
   have hb:∀q,q<(Yb ((Yg L k).length:Int) (Xb (L k) j)).kids.length→-10000≤Xm (Yb ((Yg L k).length:Int) (Xb (L k) j)).kids q∧Xm (Yb ((Yg L k).length:Int) (Xb (L k) j)).kids q≤10000:=by
    intro q hq
    have hq':q<(Xb (L k) j).kids.length:=by simpa [Yb] using hq
    have hr:=Zx kf.1 hq'
    have ei:Xm (Yb ((Yg L k).length:Int) (Xb (L k) j)).kids q=Xm (Xb (L k) j).kids q+((Yg L k).length:Int):=by
     rw[Zd hq,Zd hq'];simp[Yb]
    rw[ei]
    omega
   exact ⟨⟨f.keysN,f.keysS,by simpa [Yb] using f.kidsN,fun q hq=>by have:=hb q hq;omega,f.size,f.klo,f.khi,f.nlo,f.nhi⟩,kf.2.2,by simpa [Yb] using kf.2.1,hb⟩
theorem Xlw (L:Nat→List VN):∀(m j:Nat),j<m→Xm (Zb L m) j=((Yg L (j+1)).length:Int)-1:=by
 intro m
 induction m with
 |zero=>intro j hj;omega
 | succ m ih =>
  intro j hj
  have hl:j<(Zb L (m+1)).length:=by rw[Qm];exact hj
  rw[Zd hl]
  by_cases e:j<m
  ·have:=ih j e
   rw[Zd (by rw[Qm];exact e)] at this
   simp only[Zb]
   rw[List.getElem_append_left (by rw[Qm];exact e)]
   exact this
  ·obtain rfl:j=m:=by omega
   simp only[Zb]
   rw[List.getElem_append_right (by rw[Qm];exact Nat.le_refl _)]
   simp[Qm]
theorem Xyo {L:Nat→List VN} {m:Nat} (hm:m≤80) (hok:∀i,i<m→okB (L i)=true) (hf:∀i,i<m→∀j,j<(L i).length→Fits (Xb (L i) j)) {kind:Int} (h1:1≤kind) (h6:kind≤6) {keys:List ByteArray} (hk:keys.length≤80) (hks:∀i,i<keys.length→(Xh keys i).size≤140737488355328):
  (Yn kind keys L m).length≤6401∧∀i,i<(Yn kind keys L m).length→X5a (Xb (Yn kind keys L m) i):=by
 have hle:=Vk hok m (Nat.le_refl _)
 refine ⟨by unfold Yn;simp;omega,fun i hi=> ?_⟩
 unfold Yn at hi⊢
 by_cases e:i<(Yg L m).length
 ·rw[Z1 e];exact X1u hm hok hf m (Nat.le_refl _) i e
 ·have e0:i-(Yg L m).length=0:=by simp at hi;omega
  rw[Zz (by omega),e0]
  have hb:∀j,j<(Zb L m).length→-10000≤Xm (Zb L m) j∧Xm (Zb L m) j≤10000:=by
   intro j hj
   rw[Qm] at hj
   rw[Xlw L m j hj]
   have:=Vk hok (j+1) (by omega)
   omega
  exact ⟨⟨by show keys.length≤_;omega,hks,by show (Zb L m).length≤_;rw[Qm];omega,fun j hj=>by have:=hb j hj;show-9223372036854775808≤Xm (Zb L m) j∧Xm (Zb L m) j≤9223372036854775807;omega,by show ByteArray.empty.size≤_;decide,by show-9223372036854775808≤kind;omega,by show kind≤_;omega,by show (-9223372036854775808:Int)≤0;decide,by show (0:Int)≤9223372036854775807;decide⟩,hk,by show (Zb L m).length≤80;rw[Qm];exact hm,hb⟩

def Xqw (L:Nat→List VN) (m:Nat):Bool:=(List.range m).all fun i=>okB (L i)
theorem Ug {L:Nat→List VN} {m:Nat} (h:Xqw L m=true):∀i,i<m→okB (L i)=true:=fun i hi=>by
 unfold Xqw at h;rw[List.all_eq_true] at h;exact h i (List.mem_range.2 hi)
theorem X35 {L:Nat→List VN} {m:Nat} (h:∀i,i<m→okB (L i)=true):Xqw L m=true:=by
 unfold Xqw;rw[List.all_eq_true];exact fun i hi=>h i (List.mem_range.1 hi)
theorem Xdl {L:Nat→List VN} {m:Nat} (hok:∀i,i<m→okB (L i)=true):∀i,i<m→0<(L i).length∧∀j,j<(L i).length→X1k (Xb (L i) j):=by
 intro i hi
 obtain ⟨p1,_,_,_⟩:=Xp (hok i hi)
 refine ⟨by omega,fun j hj=> ?_⟩
 have kf:=Ve (hok i hi) j hj
 exact ⟨by omega,by omega,fun q hq=>by have:=Zx kf.1 hq;omega⟩

def Gi:Nat→VT→Prop
 |0,_=>False
 |f+1, .mk _ _ _ _ kids=>∀j,j<kids.length→Gi f (Yl kids j)
def Xd4 (kind n:Int) (s:ByteArray) (keys:List ByteArray) (m:Nat):Bool:=X9 ⟨kind,n,s,keys,List.replicate m 0⟩
def goodT:Nat→VT→Prop
 |0,_=>False
 |f+1, .mk kind n s keys kids=>Xd4 kind n s keys kids.length=true∧∀j,j<kids.length→goodT f (Yl kids j)
def hiK (F:VT→Nat) (kids:List VT):Nat→Nat
 |0=>0
 |k+1=>max (hiK F kids k) (F (Yl kids k))
def hiT:Nat→VT→Nat
 |0,_=>0
 |f+1, .mk _ _ _ _ kids=>hiK (hiT f) kids kids.length+1
theorem goodT.full:∀{f:Nat} {t:VT},goodT f t→Gi f t
 |0,_,h=>h.elim
 |f+1, .mk _ _ _ _ _,h=>fun j hj=>(h.2 j hj).full
theorem Xn4 (x:VN):X9 x=Xd4 x.kind x.n x.s x.keys x.kids.length:=by
 unfold Xd4 X9 Yv Zk
 simp
theorem Xn5 (f sh:Nat) (kids:List VT) {k m:Nat} (h:k≤m) (hm:m≤kids.length):∃t,X6 f sh kids m=X6 f sh kids k++t:=by
 induction m with
 | zero => obtain rfl : k = 0 := by omega
           exact ⟨[],by simp⟩
 | succ m ih =>
  by_cases e:k=m+1
  ·subst e;exact ⟨[],by simp⟩
  ·obtain ⟨t,ht⟩:=ih (by omega) (by omega)
   exact ⟨t++_,by rw[Zi f sh (by omega),ht,List.append_assoc]⟩
theorem Xhs {f:Nat} {t:VT} (h:Gi f t) (sh:Nat):1≤(Yi f t sh).length:=by
 cases f with
 |zero=>exact h.elim
 |succ f=>obtain ⟨kind,n,s,keys,kids⟩:=t;rw[Q1];simp
theorem X4l:∀{f:Nat} {t:VT},Gi f t→∀(vs:List VN) (sh:Nat),(∀j,j<(Yi f t sh).length→Yj vs (sh+j)=(Xb (Yi f t sh) j).kids)→tr (Yj vs) (sh+(Yi f t sh).length-1)=some (sh,hiT f t):=by
 intro f
 induction f with
 |zero=>intro t h;exact h.elim
 | succ f ih =>
  intro t h vs sh hk
  obtain ⟨kind,n,s,keys,kids⟩:=t
  rw[Q1] at hk⊢
  rw[List.length_append,List.length_cons,List.length_nil] at hk⊢
  have hroot:=hk (X6 f sh kids kids.length).length (by omega)
  rw[Zz (Nat.le_refl _),Nat.sub_self] at hroot
  have hroot':Yj vs (sh+(X6 f sh kids kids.length).length)=ksT f sh kids kids.length:=hroot
  rw[show sh+((X6 f sh kids kids.length).length+(0+1))-1=sh+(X6 f sh kids kids.length).length by omega,Ua,hroot']
  have hf:∀k,k≤kids.length→∀h0,(ksT f sh kids k).reverse.foldl (X7 (tr (Yj vs))) (some (sh+(X6 f sh kids k).length,h0))=some (sh,max h0 (hiK (hiT f) kids k)):=by
   intro k
   induction k with
   |zero=>intro _ h0;rw[Ja,Qs];simp[hiK]
   | succ k ihk =>
    intro hkl h0
    rw[Qy f sh (by omega),List.reverse_append,List.reverse_cons,List.reverse_nil,List.nil_append,List.cons_append,List.nil_append,List.foldl_cons]
    have hlen:(X6 f sh kids (k+1)).length=(X6 f sh kids k).length+(Yi f (Yl kids k) (sh+(X6 f sh kids k).length)).length:=by rw[Zi f sh (by omega),List.length_append]
    have hpos:=Xhs (h k (by omega)) (sh+(X6 f sh kids k).length)
    have htr:=ih (h k (by omega)) vs (sh+(X6 f sh kids k).length) (fun j hj=>by
     obtain ⟨t1,ht1⟩:=Xn5 f sh kids (show k+1≤kids.length by omega) (Nat.le_refl _)
     have hl1:=congrArg List.length ht1
     rw[List.length_append] at hl1
     have:=hk ((X6 f sh kids k).length+j) (by omega)
     rw[Z1 (by omega),ht1,Z1 (by omega),Zi f sh (by omega),Zz (by omega)] at this
     rw[Nat.add_assoc,this,Nat.add_sub_cancel_left])
    have hst:X7 (tr (Yj vs)) (some (sh+(X6 f sh kids (k+1)).length,h0)) (((sh+(X6 f sh kids (k+1)).length:Nat):Int)-1)=some (sh+(X6 f sh kids k).length,max h0 (hiT f (Yl kids k))):=by
     unfold X7
     simp only
     rw[if_pos ⟨by omega,trivial⟩]
     rw[show sh+(X6 f sh kids (k+1)).length-1=sh+(X6 f sh kids k).length+(Yi f (Yl kids k) (sh+(X6 f sh kids k).length)).length-1 by omega,htr]
     rfl
    rw[hst,ihk (by omega),hiK]
    congr 2
    omega
  rw[hf _ (Nat.le_refl _) 0]
  simp[hiT]
theorem Xlg (f sh:Nat) (kids:List VT) (P:VN→Prop):∀k,k≤kids.length→((∀j,j<(X6 f sh kids k).length→P (Xb (X6 f sh kids k) j))↔∀i,i<k→∀j,j<(Yi f (Yl kids i) (sh+(X6 f sh kids i).length)).length→P (Xb (Yi f (Yl kids i) (sh+(X6 f sh kids i).length)) j)):=by
 intro k
 induction k with
 |zero=>intro _;rw[Qs];simp
 | succ k ih =>
  intro hk
  have ih':=ih (by omega)
  rw[Zi f sh (by omega),List.length_append]
  constructor
  ·intro h i hi j hj
   by_cases e:i=k
   ·subst e
    have:=h ((X6 f sh kids i).length+j) (by omega)
    rw[Zz (by omega),Nat.add_sub_cancel_left] at this
    exact this
   ·exact ih'.1 (fun j hj=>by have:=h j (by omega);rw[Z1 hj] at this;exact this) i (by omega) j hj
  ·intro h j hj
   by_cases e:j<(X6 f sh kids k).length
   ·rw[Z1 e]
    exact ih'.2 (fun i hi=>h i (by omega)) j e
   ·rw[Zz (by omega)]
    exact h k (by omega) _ (by omega)
theorem Xww:∀{f:Nat} {t:VT},Gi f t→∀sh,((∀j,j<(Yi f t sh).length→X9 (Xb (Yi f t sh) j)=true)↔goodT f t):=by
 intro f
 induction f with
 |zero=>intro t h;exact h.elim
 | succ f ih =>
  intro t h sh
  obtain ⟨kind,n,s,keys,kids⟩:=t
  rw[Q1,List.length_append,List.length_cons,List.length_nil]
  have hr:X9 (Xb (X6 f sh kids kids.length++ [{kind:=kind,n:=n,s:=s,keys:=keys,kids:=ksT f sh kids kids.length}]) (X6 f sh kids kids.length).length)=Xd4 kind n s keys kids.length:=by
   rw[Zz (Nat.le_refl _),Nat.sub_self]
   have:=Xn4 {kind:=kind,n:=n,s:=s,keys:=keys,kids:=ksT f sh kids kids.length}
   rw[Xda f sh kids (Nat.le_refl _)] at this
   exact this
  have ha:=Xlg f sh kids (fun x=>X9 x=true) kids.length (Nat.le_refl _)
  constructor
  ·intro hj
   refine ⟨by rw[←hr];exact hj _ (by omega),fun i hi=> ?_⟩
   refine (ih (h i hi) (sh+(X6 f sh kids i).length)).1 ?_
   exact ha.1 (fun j hj'=>by have:=hj j (by omega);rw[Z1 hj'] at this;exact this) i hi
  ·rintro ⟨g1,g2⟩ j hj
   by_cases e:j<(X6 f sh kids kids.length).length
   ·rw[Z1 e]
    exact ha.2 (fun i hi=>(ih (h i hi) _).2 (g2 i hi)) j e
   ·obtain rfl:j=(X6 f sh kids kids.length).length:=by omega
    rw[hr];exact g1
theorem Xwx {f:Nat} {t:VT} (h:Gi f t):okB (Yi f t 0)=true↔(Yi f t 0).length≤80∧goodT f t∧hiT f t≤8:=by
 have hpos:=Xhs h 0
 have htr:=X4l h (Yi f t 0) 0 (fun j hj=>by rw[Nat.zero_add];rfl)
 rw[Nat.zero_add] at htr
 have hn:=Xww h 0
 rw[←Xi0]
 unfold Xfm
 have hall:((List.range (Yi f t 0).length).all fun i=>(tr (Yj (Yi f t 0)) i).isSome)=true:=by
  simp only[List.all_eq_true,List.mem_range]
  intro i hi
  obtain ⟨q,hq⟩:=Xkk _ _ htr i (by simp) (by omega)
  rw[hq];rfl
 rw[hall]
 unfold Jy Ub
 rw[htr]
 simp only[Bool.and_eq_true,decide_eq_true_eq,List.all_eq_true,List.mem_range,true_and]
 rw[hn]
 constructor
 ·rintro ⟨⟨⟨_,a⟩,b⟩,c⟩;exact ⟨a,b,c⟩
 ·rintro ⟨a,b,c⟩;exact ⟨⟨⟨hpos,a⟩,b⟩,c⟩

theorem Xyk (a b:Int) (x:VN):Yb a (Yb b x)=Yb (a+b) x:=by
 unfold Yb
 simp only[List.map_map]
 congr 1
 apply List.map_congr_left
 intro y _
 simp only[Function.comp]
 omega
theorem Xvc (x:VN):Yb 0 x=x:=by
 unfold Yb
 cases x
 simp
theorem Xvd:∀(f:Nat) (t:VT) (sh:Nat),Yi f t sh=(Yi f t 0).map (Yb (sh:Int)):=by
 intro f
 induction f with
 |zero=>intro t sh;rfl
 | succ f ih =>
  intro t sh
  obtain ⟨kind,n,s,keys,kids⟩:=t
  have hk:∀k,k≤kids.length→X6 f sh kids k=(X6 f 0 kids k).map (Yb (sh:Int))∧ksT f sh kids k=(ksT f 0 kids k).map (· +(sh:Int)):=by
   intro k
   induction k with
   |zero=>intro _;rw[Qs,Qs,Ja,Ja];exact ⟨rfl,rfl⟩
   | succ k ihk =>
    intro hk
    obtain ⟨h1,h2⟩:=ihk (by omega)
    have hl:(X6 f sh kids k).length=(X6 f 0 kids k).length:=by rw[h1,List.length_map]
    have ha:X6 f sh kids (k+1)=(X6 f 0 kids (k+1)).map (Yb (sh:Int)):=by
     rw[Zi f sh (by omega),Zi f 0 (by omega),List.map_append,h1,List.length_map,ih _ (sh+(X6 f 0 kids k).length),ih _ (0+(X6 f 0 kids k).length),List.map_map]
     congr 1
     apply List.map_congr_left
     intro x _
     simp only[Function.comp,Xyk]
     congr 1
     omega
    refine ⟨ha, ?_⟩
    rw[Qy f sh (by omega),Qy f 0 (by omega),List.map_append,h2,ha,List.length_map]
    congr 1
    simp only[List.map_cons,List.map_nil,List.cons.injEq,and_true]
    omega
  obtain ⟨h1,h2⟩:=hk _ (Nat.le_refl _)
  rw[Q1,Q1,List.map_append,h1,h2]
  rfl
theorem X3s (f:Nat) (kids:List VT):∀k,k≤kids.length→X6 f 0 kids k=Yg (fun i=>Yi f (Yl kids i) 0) k∧ksT f 0 kids k=Zb (fun i=>Yi f (Yl kids i) 0) k:=by
 intro k
 induction k with
 |zero=>intro _;exact ⟨Qs _ _ _,Ja _ _ _⟩
 | succ k ih =>
  intro hk
  obtain ⟨h1,h2⟩:=ih (by omega)
  have ha:X6 f 0 kids (k+1)=Yg (fun i=>Yi f (Yl kids i) 0) (k+1):=by
   rw[Zi f 0 (by omega),Yg,h1,Nat.zero_add,Xvd f _ (Yg _ k).length]
  refine ⟨ha, ?_⟩
  rw[Qy f 0 (by omega),Zb,h2,ha,Nat.zero_add]
theorem Xyl:∀{f g:Nat} {t:VT},Gi f t→f≤g→∀sh,Yi g t sh=Yi f t sh:=by
 intro f
 induction f with
 |zero=>intro g t h;exact h.elim
 | succ f ih =>
  intro g t h hfg sh
  obtain ⟨g,rfl⟩:∃g',g=g'+1:=⟨g-1,by omega⟩
  obtain ⟨kind,n,s,keys,kids⟩:=t
  have hk:∀k,k≤kids.length→X6 g sh kids k=X6 f sh kids k∧ksT g sh kids k=ksT f sh kids k:=by
   intro k
   induction k with
   |zero=>intro _;rw[Qs,Qs,Ja,Ja];exact ⟨rfl,rfl⟩
   | succ k ihk =>
    intro hk
    obtain ⟨h1,h2⟩:=ihk (by omega)
    have ha:X6 g sh kids (k+1)=X6 f sh kids (k+1):=by rw[Zi g sh (by omega),Zi f sh (by omega),h1,ih (h k (by omega)) (by omega)]
    exact ⟨ha,by rw[Qy g sh (by omega),Qy f sh (by omega),h2,ha]⟩
  obtain ⟨h1,h2⟩:=hk _ (Nat.le_refl _)
  rw[Q1,Q1,h1,h2]
theorem X48 {F:VT→Nat} {kids:List VT}:∀{m j:Nat},j<m→F (Yl kids j)≤hiK F kids m:=by
 intro m
 induction m with
 |zero=>intro j h;omega
 | succ m ih =>
  intro j h
  rw[hiK]
  by_cases e:j=m
  ·subst e;omega
  ·have:=ih (j:=j) (by omega);omega
theorem Xym {F:VT→Nat} {kids:List VT} {h:Nat}:∀{m:Nat},(∀j,j<m→F (Yl kids j)≤h)→hiK F kids m≤h:=by
 intro m
 induction m with
 |zero=>intro _;simp[hiK]
 | succ m ih =>
  intro hj
  rw[hiK]
  have:=ih (fun j h=>hj j (by omega))
  have:=hj m (by omega)
  omega

theorem V7 {vs:List VN} (hok:okB vs=true):∀f i,i<vs.length→i<f→goodT f (Xw vs f i):=by
 intro f
 induction f with
 |zero=>intro i _ h;omega
 | succ f ih =>
  intro i hi hf
  obtain ⟨_,p2,_,_⟩:=Xp hok
  rw[Xw]
  refine ⟨?_,fun j hj=> ?_⟩
  ·have:=(p2 i hi).1
   rw[Xn4] at this
   rw[List.length_map]
   exact this
  ·rw[List.length_map] at hj
   have hki:=Zx (p2 i hi).2 hj
   rw[Ud hj]
   exact ih _ (by omega) (by omega)
theorem X5p {vs:List VN} (hok:okB vs=true):(Yi vs.length (Xw vs vs.length (vs.length-1)) 0).length=vs.length:=by
 obtain ⟨p1,_⟩:=Xp hok
 obtain ⟨h,htr⟩:=Xbj hok
 rw[←Wo,Xbn vs vs.length (vs.length-1) 0 0 h (by omega) htr]
 unfold run
 rw[List.length_map,List.length_range']
 omega
theorem K4 {vs:List VN} (hok:okB vs=true):Yi vs.length (Xw vs vs.length (vs.length-1)) 0=vs:=by
 obtain ⟨p1,_⟩:=Xp hok
 obtain ⟨h,htr⟩:=Xbj hok
 rw[←Wo,Xbn vs vs.length (vs.length-1) 0 0 h (by omega) htr]
 rw[show vs.length-1+1-0=vs.length by omega,show (((0:Nat):Int)-((0:Nat):Int))=0 by omega,Xkq]
 have:(Yb 0)=id:=by funext x;exact Xvc x
 rw[this,List.map_id]
theorem X4u {f sh:Nat} {kids:List VT} {vs:List VN} {x:VN} (hk:∀j,j<(X6 f sh kids kids.length++ [x]).length→Xb vs (sh+j)=Xb (X6 f sh kids kids.length++ [x]) j) {k:Nat} (hkl:k<kids.length):
  ∀j,j<(Yi f (Yl kids k) (sh+(X6 f sh kids k).length)).length→Xb vs (sh+(X6 f sh kids k).length+j)=Xb (Yi f (Yl kids k) (sh+(X6 f sh kids k).length)) j:=by
 intro j hj
 have hlen:(X6 f sh kids (k+1)).length=(X6 f sh kids k).length+(Yi f (Yl kids k) (sh+(X6 f sh kids k).length)).length:=by rw[Zi f sh hkl,List.length_append]
 obtain ⟨t1,ht1⟩:=Xn5 f sh kids (show k+1≤kids.length by omega) (Nat.le_refl _)
 have hl1:=congrArg List.length ht1
 rw[List.length_append] at hl1
 have:=hk ((X6 f sh kids k).length+j) (by rw[List.length_append];omega)
 rw[Z1 (by omega),ht1,Z1 (by omega),Zi f sh hkl,Zz (by omega)] at this
 rw[Nat.add_assoc,this,Nat.add_sub_cancel_left]
theorem Xfr:∀{f:Nat} {t:VT},Gi f t→∀(vs:List VN) (sh g:Nat),f≤g→(∀j,j<(Yi f t sh).length→Xb vs (sh+j)=Xb (Yi f t sh) j)→Xw vs g (sh+(Yi f t sh).length-1)=t:=by
 intro f
 induction f with
 |zero=>intro t h;exact h.elim
 | succ f ih =>
  intro t h vs sh g hg hk
  obtain ⟨g,rfl⟩:∃k,g=k+1:=⟨g-1,by omega⟩
  obtain ⟨kind,n,s,keys,kids⟩:=t
  rw[Q1] at hk⊢
  have hroot:=hk (X6 f sh kids kids.length).length (by rw[List.length_append,List.length_cons];omega)
  rw[Zz (Nat.le_refl _),Nat.sub_self] at hroot
  have hroot':Xb vs (sh+(X6 f sh kids kids.length).length)={kind:=kind,n:=n,s:=s,keys:=keys,kids:=ksT f sh kids kids.length}:=hroot
  rw[List.length_append,List.length_cons,List.length_nil,show sh+((X6 f sh kids kids.length).length+(0+1))-1=sh+(X6 f sh kids kids.length).length by omega,Xw,hroot']
  have hf:∀k,k≤kids.length→(ksT f sh kids k).map (fun x=>Xw vs g x.toNat)=kids.take k:=by
   intro k
   induction k with
   |zero=>intro _;rw[Ja];rfl
   | succ k ihk =>
    intro hkl
    have hlen:(X6 f sh kids (k+1)).length=(X6 f sh kids k).length+(Yi f (Yl kids k) (sh+(X6 f sh kids k).length)).length:=by rw[Zi f sh (by omega),List.length_append]
    rw[Qy f sh (by omega),List.map_append,ihk (by omega),Xdv (by omega)]
    have e:=ih (h k (by omega)) vs (sh+(X6 f sh kids k).length) g (by omega) (X4u hk (by omega))
    congr 1
    rw[List.map_cons,List.map_nil,show (((sh+(X6 f sh kids (k+1)).length:Nat):Int)-1).toNat=sh+(X6 f sh kids k).length+(Yi f (Yl kids k) (sh+(X6 f sh kids k).length)).length-1 by omega,e]
  dsimp only
  rw[hf _ (Nat.le_refl _),List.take_length]

def Kd (L:Nat→List VN):Nat→Nat
 |0=>1
 |i+1=>off (J8 (L i)) (J9 (L i)) (Kd L i) (L i).length
theorem X3p {vs:List VN} (h:Few vs) (k:Nat):∀i,i≤vs.length→off (J8 vs) (J9 vs) k i≤k+i *163:=by
 intro i
 induction i with
 |zero=>intro _;simp[off]
 | succ i ih =>
  intro hi
  have h1:=ih (by omega)
  have h2:=h.2 i (by omega)
  rw[off]
  unfold J8 J9 at *
  omega
theorem Xko {L:Nat→List VN} {m:Nat} (h:∀i,i<m→Few (L i)):∀i,i≤m→1≤Kd L i∧Kd L i≤1+i *13040:=by
 intro i
 induction i with
 |zero=>intro _;simp[Kd]
 | succ i ih =>
  intro hi
  have h1:=ih (by omega)
  have hf:=h i (by omega)
  have h2:=X3p hf (Kd L i) (L i).length (Nat.le_refl _)
  have h3:=Xog (J8 (L i)) (J9 (L i)) (Kd L i) (L i).length
  have h4:=hf.1
  rw[Kd]
  omega
def HRow (w:World) (r:Value) (vs:List VN) (K I:Nat→Value) (k:Nat):Prop:=
 ∀j,j<vs.length→HNode w (blk r) j (J8 vs j) (J9 vs j) (blk (K j)) (blk (I j)) (off (J8 vs) (J9 vs) k j)
theorem HRow.below {w w':World} {r:Value} {vs:List VN} {K I:Nat→Value} {k:Nat} (h:HRow w r vs K I k) (hb:Below w.heap.size w w'):HRow w' r vs K I k:=fun j hj=>(h j hj).below hb
theorem HRow.low {base lo:Nat} {w w' W:World} {r:Value} {vs:List VN} {K I:Nat→Value} {k:Nat} (h:HRow w r vs K I k) (hn:Nest base W r vs K I) (hin:∀x,U3 r vs.length K I x→x<lo) (hb:Below lo w w'):HRow w' r vs K I k:=by
 intro j hj
 refine (h j hj).keep hb.size (fun q _=> ?_) (fun hp q=> ?_) (fun hp q=> ?_)
 ·exact Xc hb (hin _ (Or.inl (Xde hn.row (by omega))))
 ·exact Xc hb (hin _ (Or.inr ⟨j,hj,Or.inl (Xde (hn.rk j hj) hp)⟩))
 ·exact Xc hb (hin _ (Or.inr ⟨j,hj,Or.inr (Xde (hn.ri j hj) hp)⟩))
theorem Xyc {P:Nat→Prop} {w w':World} {base e s n:Nat} {v:Value} {xs:List Value} (h:w.ownsRow base e s v n xs) (ho:Only P w w') (hP:∀x,P x→v.ownBlock≠some x):w'.ownsRow base e s v n xs:=by
 refine ⟨h.1, ?_⟩
 rcases h.2 with hn|⟨g,cap,cur,rfl,hg,hgg,rest⟩
 ·exact .inl hn
 ·exact .inr ⟨g,cap,cur,rfl,hg,(ho.2 g (h.lt g rfl).2 (fun p=>hP g p rfl)).trans hgg,rest⟩
structure Held2 (w:World) (base:Nat) (v:Value) (m:Nat) (L:Nat→List VN) (rs:Nat→Value) (KV IV:Nat→Nat→Value):Prop where
 row:w.ownsRow base 25 1 v m ((List.range m).map rs)
 held:∀i,i<m→HRow w (rs i) (L i) (KV i) (IV i) (Kd L i)
theorem Held2.below {w w':World} {base:Nat} {v:Value} {m:Nat} {L:Nat→List VN} {rs:Nat→Value} {KV IV:Nat→Nat→Value} (h:Held2 w base v m L rs KV IV) (hb:Below w.heap.size w w'):Held2 w' base v m L rs KV IV:=
 ⟨Z2 h.row hb (fun x hx=>(h.row.lt x hx).2),fun i hi=>(h.held i hi).below hb⟩
set_option maxRecDepth 100000 in
theorem Xi7 (base:Nat) (v:Value) (m:Nat) (L:Nat→List VN) (rs:Nat→Value) (KV IV:Nat→Nat→Value) (lo:Nat→Nat) (w:World) (h:Rows2 base w v m L rs KV IV lo) (hm:m≤80) (hf:∀i,i<m→Few (L i)):
  Calls Tryz.prog 20 #[v, .int .i64 1] w fun e w'=>e= .returned (.int .i64 (Kd L m:Nat))∧Held2 w' base v m L rs KV IV∧Below base w w':=by
 have H:=Xa h
 have HF:=Xa hf
 obtain ⟨a,c,e⟩:=Xj h.row
 subst e
 clear h hf
 go_enter Tryz.func20,Tryz.ntmps20
 go_wp2_with fail
 go_loopw [1,5] (fun q i wr=>∃k:Nat,k≤m∧q= .int .i64 (Kd L k:Nat)∧i= .int .i64 k∧Below base w wr∧wr.ownsRow base 25 1 (.slice a m c) m ((List.range m).map rs)∧(∀j,k≤j→j<m→Nest (lo j) wr (rs j) (L j) (KV j) (IV j))∧(∀j,j<k→HRow wr (rs j) (L j) (KV j) (IV j) (Kd L j))) (fun _ i _=>m-(intOf i).toNat)
 case atStart=>exact ⟨0,Nat.zero_le _,rfl,rfl,Below.refl _ _,H.out.row,fun j _ hj=>H.out.nest j hj,fun j hj=>absurd hj (by omega)⟩
 case round=>
  obtain ⟨k,hk,rfl,rfl,hbel,hrow,hnest,hheld⟩:=hrel
  have HR:=Xa hrow
  have HN:=Xa hnest
  have HH:=Xa hheld
  have hs:=hbel.size
  clear hrow hnest hheld
  have ob:=Xko HF.out k hk
  by_cases hlt:k<m
  ·obtain ⟨g,cap,e,_,hgl⟩:=HR.out.form (by omega)
   cases e
   have nk:=HN.out k (Nat.le_refl _) hlt
   have HNK:=Xa nk
   obtain ⟨ak,ck,er⟩:=Xj nk.row
   have hcell:wr.cell? ⟨g,k,none⟩=some (rs k):=by rw[HR.out.cellAt k (by omega)];simp[hlt]
   obtain ⟨Lk,hLk⟩:∃Lk,(L k).length=Lk:=⟨_,rfl⟩
   rw[hLk] at er
   rw[er] at hcell
   have HER:=Xa er
   have HLK:=Xa hLk
   have hL80:Lk≤80:=by rw[←hLk];exact (HF.out k hlt).1
   have hlo:lo k≤wr.heap.size:=by have:=H.out.mono k m (by omega) (Nat.le_refl _);have:=H.out.top;omega
   have HMK:=Xa (Nest.mark (by rw[←HER.out];exact HNK.out) HLK.out (HF.out k hlt))
   have HO2:Hid (Kd L (k+1)=off (J8 (L k)) (J9 (L k)) (Kd L k) Lk):=by rw[Hid,←HLK.out];rfl
   clear nk er hLk
   have HOE:Hid (∃o,Kd L k=o):=⟨_,rfl⟩
   obtain ⟨o,ho⟩:=HOE.out
   rw[ho] at ob HO2⊢
   have HOO:=Xa ho
   clear ho
   go_wp2_with fail
   refine (Ww (lo k) _ Lk ck o ak _ _ _ _ wr HMK.out hlo (by omega) (by omega) (by omega)).mono ?_
   rintro e w3 ⟨rfl,hh3,hon3,hb3⟩
   rw[←HO2.out]
   have HMX:Hid (∀x,Xav (blk (.slice ak Lk ck)) Lk (J8 (L k)) (J9 (L k)) (fun i=>blk (KV k i)) (fun i=>blk (IV k i)) x→U3 (rs k) (L k).length (KV k) (IV k) x):=by
    intro x hx
    apply HNK.out.marked
    rw[HER.out,HLK.out]
    exact hx
   have HB3:=Xa (hbel.trans (hb3.mono (H.out.low k hk)))
   have HR3:=Xa (Xyc HR.out hon3 (fun x hx=>HNK.out.far HR.out (HMX.out x hx)))
   have HN3:Hid (∀j,k+1≤j→j<m→Nest (lo j) w3 (rs j) (L j) (KV j) (IV j)):=fun j h1 h2=>
    (HN.out j (by omega) h2).from ((From.refl (lo j) wr).only hon3 (fun x hx=>Nat.lt_of_lt_of_le (H.out.inn k hlt x (HMX.out x hx)) (H.out.mono (k+1) j h1 (by omega))))
   have HH3:Hid (∀j,j<k+1→HRow w3 (rs j) (L j) (KV j) (IV j) (Kd L j)):=by
    intro j hj
    by_cases e:j=k
    ·subst e
     intro q hq
     rw[HER.out,HOO.out]
     exact hh3 q (by rw[←HLK.out];exact hq)
    ·exact (HH.out j (by omega)).low (H.out.nest j (by omega)) (fun x hx=>Nat.lt_of_lt_of_le (H.out.inn j (by omega) x hx) (H.out.mono (j+1) k (by omega) hk)) hb3
   clear hh3 hon3 hb3
   go_wp2_with fail
   go_roundw
   case rel=>exact ⟨k+1,by omega,rfl,by go_num,HB3.out,HR3.out,HN3.out,HH3.out⟩
   case measure=>simp[intOf];omega
  ·obtain rfl:k=m:=by omega
   go_wp2_with fail
   go_ret
   exact ⟨rfl,⟨HR.out,HH.out⟩,hbel⟩
set_option maxRecDepth 100000 in
theorem Xcv (base:Nat) (v:Value) (m:Nat) (L:Nat→List VN) (rs:Nat→Value) (KV IV:Nat→Nat→Value) (lo:Nat→Nat) (w W:World) (hW:Rows2 base W v m L rs KV IV lo) (h:Held2 w base v m L rs KV IV) (hm:m≤80) (hf:∀i,i<m→Few (L i)):
  Calls Tryz.prog 21 #[v, .int .i64 1] w fun e w'=>e= .returned (.int .i64 (Kd L m:Nat))∧Below w.heap.size w w':=by
 have H:=Xa h
 have HF:=Xa hf
 have HW:=Xa hW
 obtain ⟨a,c,e⟩:=Xj h.row
 subst e
 clear h hf hW
 go_enter Tryz.func21,Tryz.ntmps21
 go_wp2_with fail
 go_loopw [1,5] (fun q i wr=>∃k:Nat,k≤m∧q= .int .i64 (Kd L k:Nat)∧i= .int .i64 k∧Below w.heap.size w wr) (fun _ i _=>m-(intOf i).toNat)
 case atStart=>exact ⟨0,Nat.zero_le _,rfl,rfl,Below.refl _ _⟩
 case round=>
  obtain ⟨k,hk,rfl,rfl,hbel⟩:=hrel
  have HH:=Xa (H.out.below hbel)
  have hs:=hbel.size
  have ob:=Xko HF.out k hk
  by_cases hlt:k<m
  ·obtain ⟨g,cap,e,_,hgl⟩:=HH.out.row.form (by omega)
   cases e
   have HNK:=Xa (HW.out.nest k hlt)
   obtain ⟨ak,ck,er⟩:=Xj HNK.out.row
   have hcell:wr.cell? ⟨g,k,none⟩=some (rs k):=by rw[HH.out.row.cellAt k (by omega)];simp[hlt]
   obtain ⟨Lk,hLk⟩:∃Lk,(L k).length=Lk:=⟨_,rfl⟩
   rw[hLk] at er
   rw[er] at hcell
   have HER:=Xa er
   have HLK:=Xa hLk
   have hL80:Lk≤80:=by rw[←hLk];exact (HF.out k hlt).1
   have HAD:Hid (0<Lk→ak=some ⟨blk (.slice ak Lk ck),0,none⟩):=fun hp=>(Nest.mark (by rw[←HER.out];exact HNK.out) HLK.out (HF.out k hlt) hp).1
   have HO2:Hid (Kd L (k+1)=off (J8 (L k)) (J9 (L k)) (Kd L k) Lk):=by rw[Hid,←HLK.out];rfl
   have HKF:Hid (∀i,i<Lk→J8 (L k) i≤1048576∧J9 (L k) i≤1048576):=fun i hi=>by
    have:=(HF.out k hlt).2 i (by rw[HLK.out];exact hi)
    unfold J8 J9
    omega
   have HHK:Hid (∀i,i<Lk→HNode wr (blk (.slice ak Lk ck)) i (J8 (L k) i) (J9 (L k) i) (blk (KV k i)) (blk (IV k i)) (off (J8 (L k)) (J9 (L k)) (Kd L k) i)):=fun i hi=>by
    have:=HH.out.held k hlt i (by rw[HLK.out];exact hi)
    rw[HER.out] at this
    exact this
   clear er hLk
   have HOE:Hid (∃o,Kd L k=o):=⟨_,rfl⟩
   obtain ⟨o,ho⟩:=HOE.out
   have ob2:=Xko HF.out (k+1) (by omega)
   rw[ho] at ob HO2 HHK⊢
   clear ho
   go_wp2_with fail
   refine (Xkb _ Lk ck o ak _ _ (fun i=>blk (KV k i)) (fun i=>blk (IV k i)) wr HAD.out (by omega) HKF.out (by omega) (by omega) HHK.out).mono ?_
   rintro e w3 ⟨rfl,hb3⟩
   rw[←HO2.out]
   have HB3:=Xa (hbel.trans (hb3.mono hs))
   have hn0:¬((Kd L (k+1):Int)<0):=by omega
   clear hb3
   go_wp2_with fail
   go_roundw
   case rel=>exact ⟨k+1,by omega,rfl,by go_num,HB3.out⟩
   case measure=>simp[intOf];omega
  ·obtain rfl:k=m:=by omega
   go_wp2_with fail
   go_ret
   exact ⟨rfl,hbel⟩

theorem Xs2 {keys:List ByteArray} (hr:Q0 keys=true) {j:Nat} (hj:j<keys.length):Z7 (Xh keys j)=true∧(0<j→Y9 (Xh keys (j-1)) (Xh keys j)=true):=by
 have:=List.all_eq_true.1 hr j (List.mem_range.2 hj)
 unfold Ql at this
 simp only[Bool.and_eq_true,Bool.or_eq_true,decide_eq_true_eq] at this
 exact ⟨this.1,fun h=>this.2.resolve_left (by omega)⟩
theorem Xca {s:ByteArray} (h:s.toList= []):s=ByteArray.empty:=by
 exact X42 (by rw[h,ByteArray.toList_eq];rfl)
theorem Xuy {kind n:Int} {s:ByteArray} {keys:List ByteArray} {m:Nat} (h:Xd4 kind n s keys m=true):
  (kind=1∧n=0∧s=ByteArray.empty∧keys= []∧m=0)∨(kind=2∧(n=0∨n=1)∧s=ByteArray.empty∧keys= []∧m=0)∨(kind=3∧(-1000000000000000≤n∧n≤1000000000000000)∧s=ByteArray.empty∧keys= []∧m=0)∨
  (kind=4∧n=0∧s.size≤60∧keys= []∧m=0)∨(kind=5∧n=0∧s=ByteArray.empty∧keys= [])∨(kind=6∧n=0∧s=ByteArray.empty∧keys.length=m∧Q0 keys=true):=by
 unfold Xd4 X9 Yv Zk at h
 simp only[Bool.and_eq_true,List.length_replicate] at h
 obtain ⟨⟨⟨⟨u1,u2⟩,u3⟩,u4⟩,v⟩:=h
 by_cases k1:kind=1
 ·subst k1;simp at u1 u2 u3 u4;exact .inl ⟨rfl,u1,Xca u2,u3,u4⟩
 by_cases k2:kind=2
 ·subst k2;simp at u2 u3 u4 v;exact .inr (.inl ⟨rfl,v,Xca u2,u3,u4⟩)
 by_cases k3:kind=3
 ·subst k3;simp at u2 u3 u4 v;exact .inr (.inr (.inl ⟨rfl,v,Xca u2,u3,u4⟩))
 by_cases k4:kind=4
 ·subst k4;simp[Z7] at u1 u3 u4 v;exact .inr (.inr (.inr (.inl ⟨rfl,u1,v.1,u3,u4⟩)))
 by_cases k5:kind=5
 ·subst k5;simp at u1 u2 u3;exact .inr (.inr (.inr (.inr (.inl ⟨rfl,u1,Xca u2,u3⟩))))
 by_cases k6:kind=6
 ·subst k6;simp at u1 u2 v;exact .inr (.inr (.inr (.inr (.inr ⟨rfl,u1,Xca u2,v.1,v.2⟩))))
 simp[k1,k2,k3,k4,k5,k6] at v

theorem X2f (f:Nat) (kids:List VT):∀k,k≤kids.length→(Yg (fun i=>Yi f (Yl kids i) 0) k).length=((kids.take k).map fun t=>(Yi f t 0).length).sum:=by
 intro k
 induction k with
 |zero=>intro _;rfl
 | succ k ih =>
  intro hk
  rw[Vb,ih (by omega),Xdv (by omega),List.map_append,List.sum_append]
  simp
theorem X34 (f:Nat) (kind n:Int) (s:ByteArray) (keys:List ByteArray) (kids:List VT):(Yi (f+1) (.mk kind n s keys kids) 0).length=(kids.map fun t=>(Yi f t 0).length).sum+1:=by
 rw[Q1,(X3s f kids _ (Nat.le_refl _)).1,List.length_append,X2f f kids _ (Nat.le_refl _),List.take_length]
 rfl


theorem Xqc {w w':World} {base e s n:Nat} {v:Value} {xs:List Value} (h:w.ownsRow base e s v n xs) (hb:∀x,v.ownBlock=some x→w'.heap[x]? =w.heap[x]?):w'.ownsRow base e s v n xs:=by
 refine ⟨h.1, ?_⟩
 rcases h.2 with hn|⟨g,cap,cur,rfl,hg,hgg,rest⟩
 ·exact .inl hn
 ·exact .inr ⟨g,cap,cur,rfl,hg,(hb g rfl).trans hgg,rest⟩

theorem Nest.low {base base':Nat} {w:World} {v:Value} {vs:List VN} {KV IV:Nat→Value} (h:Nest base w v vs KV IV) (hb:base'≤base):Nest base' w v vs KV IV:=
 ⟨Qc h.row hb,fun i hi=>Qc (h.rk i hi) hb,fun i hi=>Qc (h.ri i hi) hb,h.dkk,h.dii⟩
end Go.Proofs.YtdjddneidbddpaaGreatDoor
