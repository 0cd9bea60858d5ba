import Derived.Test.YtdjddneidbddpaaGreatDoorByP
import Derived.Test.YtdjddneidbddpaaGreatDoorProg
import Derived.WalkKit
import Derived.LaidEql
import Derived.Stop.Asserts
import Derived.RowKitTokens
namespace Go.Proofs.YtdjddneidbddpaaGreatDoor
set_option linter.unusedSectionVars false
set_option maxHeartbeats 4000000
open Go.RowKit Go.Extern.Stop Go.Stop Go.Extern
set_option linter.unusedSimpArgs false
set_option linter.unusedVariables false
theorem Xqj (t:Addr) (w:World):(ReflectliteValue.unpack (.iface 109 (.pointer (some t)))).run Tryz.prog w
  = .ok (.agg #[.pointer (some ⟨6,109,none⟩), .pointer (some ⟨w.heap.size,0,none⟩), .int .u64 150]) (w.alloc (.cells #[.pointer (some t)] 109)):=by kernel_rfl
theorem Xy8 (a : Addr) (w : World) : (ReflectliteValue.methodAny (ReflectliteValue.valueError "reflectlite.Value.Type" 0) (fun t _ _ _ => ReflectliteType.toType t) #[.agg #[.pointer (some ⟨6, 109, none⟩), .pointer (some a), .int .u64 150]]).run Tryz.prog w
  = .ok (.iface 204 (.agg #[.pointer (some ⟨6,109,none⟩)])) w:=by kernel_rfl
theorem Xls (h : Value) (w : World) : (Go.method 389 204 (.agg #[h]) "Kind").run Tryz.prog w = .ok (234, h) w := by kernel_rfl
theorem Xy9 (w:World):((ReflectliteType.abiMethod fun t=>(fun a:Nat=>Value.int IntKind.u8 (a:Int))<$>Rtype.kind t) #[.pointer (some ⟨6,109,none⟩)]).run Tryz.prog w= .ok (.int .u8 22) w:=by kernel_rfl
theorem Xza (w:World):((ReflectliteType.abiMethod fun t=>(fun a:Nat=>Value.int IntKind.u8 (a:Int))<$>Rtype.kind t) #[.pointer (some ⟨6,105,none⟩)]).run Tryz.prog w= .ok (.int .u8 25) w:=by kernel_rfl
theorem rlm (z:Sem Value) (f:TypeId->Addr->Nat->Nat->Sem Value) (v:Value):
  ReflectliteValue.method z f #[v]=(do match<-ReflectliteValue.parts v with|none=>z|some (t,a,fl)=>f t a fl (fl%32)):=rfl
theorem Xkl (a:Addr) (w:World):(ReflectliteValue.parts (.agg #[.pointer (some ⟨6,109,none⟩), .pointer (some a), .int .u64 150])).run Tryz.prog w= .ok (some (109,a,150)) w:=by kernel_rfl
theorem Xvp (a p:Addr) (W:World) (ha:W.cell? a=some (.pointer (some p))):
  (ReflectliteValue.method (ReflectliteValue.valueError "reflectlite.Value.IsNil" 0) ReflectliteValue.isNil #[.agg #[.pointer (some ⟨6, 109, none⟩), .pointer (some a), .int .u64 150]]).run Tryz.prog W = .ok (.bool false) W := by
 rw[rlm]
 simp only[Sem.run_bind,Xkl,Result.andThen]
 simp[ReflectliteValue.isNil,loadVar,isAgg,underlying,Tryz.underlying109,ha,Result.andThen]
theorem Xlt (h : Value) (w : World) : (Go.method 389 204 (.agg #[h]) "Elem").run Tryz.prog w = .ok (258, .agg #[h]) w := by kernel_rfl
theorem Xef (h : Value) (w : World) : (Go.method 389 204 (.agg #[h]) "Implements").run Tryz.prog w = .ok (259, .agg #[h]) w := by kernel_rfl
theorem Xcp (h : Value) (w : World) : (Go.method 389 204 (.agg #[h]) "AssignableTo").run Tryz.prog w = .ok (256, .agg #[h]) w := by kernel_rfl
theorem Xzb (w:World):(ReflectliteType.method ReflectliteType.elem #[.agg #[.pointer (some ⟨6,109,none⟩)]]).run Tryz.prog w= .ok (.iface 204 (.agg #[.pointer (some ⟨6,105,none⟩)])) w:=by kernel_rfl
theorem Xjg (w : World) : (ReflectliteType.relation "Implements" ReflectliteType.implements_ #[.agg #[.pointer (some ⟨6, 105, none⟩)], .iface 204 (.agg #[.pointer (some ⟨6, 60, none⟩)])]).run Tryz.prog w = .ok (.bool true) w := by kernel_rfl
theorem Xs7 (v:Value) (w:World):(ReflectliteType.typeOf #[.iface 105 v]).run Tryz.prog w= .ok (.iface 204 (.agg #[.pointer (some ⟨6,105,none⟩)])) w:=by kernel_rfl
theorem Xjh (w : World) : (ReflectliteType.relation "AssignableTo" ReflectliteType.assignableTo #[.agg #[.pointer (some ⟨6, 105, none⟩)], .iface 204 (.agg #[.pointer (some ⟨6, 105, none⟩)])]).run Tryz.prog w = .ok (.bool true) w := by kernel_rfl
theorem Xqk (c:Int) (te:Nat) (xe:Value) (w:World):(ReflectliteValue.unpack (.iface 105 (.agg #[.int .i64 c, .iface te xe]))).run Tryz.prog w
  = .ok (.agg #[.pointer (some ⟨6,105,none⟩), .pointer (some ⟨w.heap.size,0,none⟩), .int .u64 153]) (w.alloc (.cells #[.int .i64 c, .iface te xe] 105)):=by kernel_rfl
theorem Xs8 (w:World):(Rtype.elem? 109).run Tryz.prog w= .ok (some 105) w:=by kernel_rfl
theorem X30 (p:Addr) (w:World):(ReflectliteValue.mk 105 p ReflectliteValue.flagAddr).run Tryz.prog w= .ok (.agg #[.pointer (some ⟨6,105,none⟩), .pointer (some p), .int .u64 409]) w:=by kernel_rfl
theorem Xvq (a p:Addr) (W:World) (ha:W.cell? a=some (.pointer (some p))):
  (ReflectliteValue.method (ReflectliteValue.valueError "reflectlite.Value.Elem" 0) ReflectliteValue.elem #[.agg #[.pointer (some ⟨6, 109, none⟩), .pointer (some a), .int .u64 150]]).run Tryz.prog W
   = .ok (.agg #[.pointer (some ⟨6,105,none⟩), .pointer (some p), .int .u64 409]) W:=by
 rw[rlm]
 simp only[Sem.run_bind,Xkl,Result.andThen]
 simp[ReflectliteValue.elem,loadVar,isAgg,underlying,Tryz.underlying109,ha,Result.andThen,Xs8,X30]
theorem rls (v x:Value):ReflectliteValue.set #[v,x]=(do
  let (some (dst,a,fl),some (src,b,_)):=(<-ReflectliteValue.parts v,<-ReflectliteValue.parts x)
   |unsupported (.noEntry "extern/(internal/reflectlite.Value).Set.zeroValue")
  if fl / ReflectliteValue.flagAddr % 2 == 0 then unsupported (.noEntry "extern/(internal/reflectlite.Value).Set.unaddressable")
  let val<-loadVar src b
  if<-Rtype.directlyAssignable dst src then storeVar dst a val
  else if<-Rtype.implements dst src then
   if (<-Rtype.kind src)==20 then
    match val with
    |.nilIface => unsupported (.noEntry "extern/reflectlite: a nil value of one interface type handed on as a value of another")
    |_=>storeVar dst a val
   else storeVar dst a (.iface src val)
  else panicString ("reflectlite.Set: value of type " ++ (<- Rtype.spelt src) ++ " is not assignable to type " ++ (<- Rtype.spelt dst))
  pure (.tuple #[])):=rfl
theorem Xs9 (a:Addr) (w:World):(ReflectliteValue.parts (.agg #[.pointer (some ⟨6,105,none⟩), .pointer (some a), .int .u64 409])).run Tryz.prog w= .ok (some (105,a,409)) w:=by kernel_rfl
theorem Xvr (a:Addr) (w:World):(ReflectliteValue.parts (.agg #[.pointer (some ⟨6,105,none⟩), .pointer (some a), .int .u64 153])).run Tryz.prog w= .ok (some (105,a,153)) w:=by kernel_rfl
theorem Xta (w:World):(Rtype.directlyAssignable 105 105).run Tryz.prog w= .ok true w:=by kernel_rfl
theorem Xzc (w:World):(sizeOf 105).run Tryz.prog w= .ok 2 w:=by kernel_rfl
theorem X2k (tb bb:Nat) (c:Int) (te:Nat) (xe o0 o1:Value) (W:World) (h0:W.cell? ⟨bb,0,none⟩=some (.int .i64 c)) (h1:W.cell? ⟨bb,1,none⟩=some (.iface te xe)) (t0:W.cell? ⟨tb,0,none⟩=some o0) (t1:W.cell? ⟨tb,1,none⟩=some o1) (f0:W.frozen? ⟨tb,0,none⟩=false) (f1:W.frozen? ⟨tb,1,none⟩=false):
  (ReflectliteValue.set #[.agg #[.pointer (some ⟨6, 105, none⟩), .pointer (some ⟨tb, 0, none⟩), .int .u64 409], .agg #[.pointer (some ⟨6, 105, none⟩), .pointer (some ⟨bb, 0, none⟩), .int .u64 153]]).run Tryz.prog W
   = .ok (.tuple #[]) ((W.setCell ⟨tb,0,none⟩ (.int .i64 c)).setCell ⟨tb,1,none⟩ (.iface te xe)):=by
 rw[rls]
 simp only[Sem.run_bind,Xs9,Xvr,Result.andThen]
 simp[ReflectliteValue.flagAddr,loadVar,isAgg,underlying,Tryz.underlying105,h0,h1,Result.andThen,Xta,Xzc,storeVar,Value.cells,storeCells,Addr.add]
 have b:(loadCells ⟨bb,0,none⟩ 2).run Tryz.prog W= .ok #[.int .i64 c, .iface te xe] W:=by
  simp[loadCells,loadCellsFrom,Addr.add,h0,h1,Result.andThen]
 rw[b]
 simp[storeCells,Addr.add,Result.andThen]
 rw[run_store Tryz.prog W ⟨tb,0,none⟩ _ _ (by rfl)]
 simp[t0,f0]
 rw[run_store Tryz.prog (W.setCell ⟨tb,0,none⟩ (.int .i64 c)) ⟨tb,1,none⟩ _ _ (by rfl)]
 rw[World.cell?_setCell_other (h:=by simp)]
 simp[t1,f1]


open Go.RowKit Go.Extern.Stop Go.Stop Go.Extern
def ErrT (w:World):Prop:=w.cell? ⟨2,0,none⟩=some (.iface 204 (.agg #[.pointer (some ⟨6,60,none⟩)]))
theorem ErrT.lt {w:World} (hg:ErrT w):2<w.heap.size:=by
 rcases Nat.lt_or_ge 2 w.heap.size with h|h
 ·exact h
 ·unfold ErrT at hg;simp[World.cell?,Array.getElem?_eq_none h] at hg
theorem ErrT.below {w w':World} {B:Nat} (hg:ErrT w) (hb:Below B w w') (hB:2<B):ErrT w':=(Xc hb hB).trans hg
def asW (w:World) (tb:Nat) (c:Int) (x:Value):World:=
 (((((w.alloc (.cells #[.pointer (some ⟨tb,0,none⟩)] 109)).alloc (.cells #[.pointer (some ⟨6,109,none⟩), .pointer (some ⟨w.heap.size,0,none⟩), .int .u64 150] 171)).alloc (.cells #[.pointer (some ⟨6,109,none⟩), .pointer (some ⟨w.heap.size,0,none⟩), .int .u64 150] 171)).alloc (.cells #[.int .i64 c,x] 105)).setCell ⟨tb,0,none⟩ (.int .i64 c)).setCell ⟨tb,1,none⟩ x
theorem X4j (tb:Nat) (c:Int) (te:Nat) (xe o0 o1:Value) (w:World) (hg:ErrT w) (t0:w.cell? ⟨tb,0,none⟩=some o0) (t1:w.cell? ⟨tb,1,none⟩=some o1) (f0:w.frozen? ⟨tb,0,none⟩=false) (f1:w.frozen? ⟨tb,1,none⟩=false):
  Calls Tryz.prog 65 #[.iface 105 (.agg #[.int .i64 c, .iface te xe]), .iface 109 (.pointer (some ⟨tb,0,none⟩))] w fun ev w'=>ev= .returned (.bool true)/\w'=asW w tb c (.iface te xe):=by
 have d:=hg.lt
 have b:tb<w.heap.size:=by
  rcases Nat.lt_or_ge tb w.heap.size with h|h
  ·exact h
  ·simp[World.cell?,Array.getElem?_eq_none h] at t0
 have G:= @run_callFunc_extern Tryz.prog 121 _ (fun args=>ReflectliteValue.unpack (args.getD 0 (.tuple #[]))) Tryz.func121 (by kernel_rfl) (by kernel_rfl) (by kernel_rfl) (by kernel_rfl)
 have J := @run_callFunc_extern Tryz.prog 122 _ (ReflectliteValue.methodAny (ReflectliteValue.valueError "reflectlite.Value.Type" 0) (fun t _ _ _ => ReflectliteType.toType t)) Tryz.func122 (by kernel_rfl) (by kernel_rfl) (by kernel_rfl) (by kernel_rfl)
 have L := @run_callFunc_extern Tryz.prog 123 _ (ReflectliteValue.method (ReflectliteValue.valueError "reflectlite.Value.IsNil" 0) ReflectliteValue.isNil) Tryz.func123 (by kernel_rfl) (by kernel_rfl) (by kernel_rfl) (by kernel_rfl)
 have f:= @run_callFunc_extern Tryz.prog 234 _ (ReflectliteType.abiMethod fun t=>do pure (.int .u8 (<-Rtype.kind t))) Tryz.func234 (by kernel_rfl) (by kernel_rfl) (by kernel_rfl) (by kernel_rfl)
 have g:= @run_callFunc_extern Tryz.prog 258 _ (ReflectliteType.method ReflectliteType.elem) Tryz.func258 (by kernel_rfl) (by kernel_rfl) (by kernel_rfl) (by kernel_rfl)
 have j := @run_callFunc_extern Tryz.prog 259 _ (ReflectliteType.relation "Implements" ReflectliteType.implements_) Tryz.func259 (by kernel_rfl) (by kernel_rfl) (by kernel_rfl) (by kernel_rfl)
 have l:= @run_callFunc_extern Tryz.prog 159 _ ReflectliteType.typeOf Tryz.func159 (by kernel_rfl) (by kernel_rfl) (by kernel_rfl) (by kernel_rfl)
 have o := @run_callFunc_extern Tryz.prog 256 _ (ReflectliteType.relation "AssignableTo" ReflectliteType.assignableTo) Tryz.func256 (by kernel_rfl) (by kernel_rfl) (by kernel_rfl) (by kernel_rfl)
 have p := @run_callFunc_extern Tryz.prog 160 _ (ReflectliteValue.method (ReflectliteValue.valueError "reflectlite.Value.Elem" 0) ReflectliteValue.elem) Tryz.func160 (by kernel_rfl) (by kernel_rfl) (by kernel_rfl) (by kernel_rfl)
 have q:= @run_callFunc_extern Tryz.prog 161 _ ReflectliteValue.set Tryz.func161 (by kernel_rfl) (by kernel_rfl) (by kernel_rfl) (by kernel_rfl)
 have M:=Xs7
 have P:=Xcp
 have s:=Xjh
 have y:=Xqk
 have R:=Xqj
 have S:=Xy8
 have T:=Xls
 have V:=Xlt
 have X:=Xef
 have z:=Xy9
 have B:=Xza
 have C:=Xzb
 have D:=Xjg
 have Y:=Xvp ⟨w.heap.size,0,none⟩ ⟨tb,0,none⟩ ((w.alloc (.cells #[.pointer (some ⟨tb,0,none⟩)] 109)).alloc (.cells #[.pointer (some ⟨6,109,none⟩), .pointer (some ⟨w.heap.size,0,none⟩), .int .u64 150] 171)) (by simp)
 have F:((w.alloc (.cells #[.pointer (some ⟨tb,0,none⟩)] 109)).alloc (.cells #[.pointer (some ⟨6,109,none⟩), .pointer (some ⟨w.heap.size,0,none⟩), .int .u64 150] 171)).cell? ⟨2,0,none⟩=some (.iface 204 (.agg #[.pointer (some ⟨6,60,none⟩)])):=by
  rw[World.cell?_alloc_lt _ _ ⟨2,0,none⟩ (by simp;omega),World.cell?_alloc_lt _ _ ⟨2,0,none⟩ d];exact hg
 have Z:=Xvq ⟨w.heap.size,0,none⟩ ⟨tb,0,none⟩ (((w.alloc (.cells #[.pointer (some ⟨tb,0,none⟩)] 109)).alloc (.cells #[.pointer (some ⟨6,109,none⟩), .pointer (some ⟨w.heap.size,0,none⟩), .int .u64 150] 171)).alloc (.cells #[.pointer (some ⟨6,109,none⟩), .pointer (some ⟨w.heap.size,0,none⟩), .int .u64 150] 171)) (by rw[World.cell?_alloc_lt _ _ ⟨w.heap.size,0,none⟩ (by simp;omega)];simp)
 have st:=X2k tb (w.heap.size+1+1+1) c te xe o0 o1 ((((w.alloc (.cells #[.pointer (some ⟨tb,0,none⟩)] 109)).alloc (.cells #[.pointer (some ⟨6,109,none⟩), .pointer (some ⟨w.heap.size,0,none⟩), .int .u64 150] 171)).alloc (.cells #[.pointer (some ⟨6,109,none⟩), .pointer (some ⟨w.heap.size,0,none⟩), .int .u64 150] 171)).alloc (.cells #[.int .i64 c, .iface te xe] 105))
  (by rw[World.cell?_alloc_at _ _ _ _ (by simp)];rfl)
  (by rw[World.cell?_alloc_at _ _ _ _ (by simp)];rfl)
  (by rw[World.cell?_alloc_lt _ _ ⟨tb,0,none⟩ (by simp;omega),World.cell?_alloc_lt _ _ ⟨tb,0,none⟩ (by simp;omega),World.cell?_alloc_lt _ _ ⟨tb,0,none⟩ (by simp;omega),World.cell?_alloc_lt _ _ ⟨tb,0,none⟩ b];exact t0)
  (by rw[World.cell?_alloc_lt _ _ ⟨tb,1,none⟩ (by simp;omega),World.cell?_alloc_lt _ _ ⟨tb,1,none⟩ (by simp;omega),World.cell?_alloc_lt _ _ ⟨tb,1,none⟩ (by simp;omega),World.cell?_alloc_lt _ _ ⟨tb,1,none⟩ b];exact t1)
  (by rw[World.frozen?_alloc_old _ _ ⟨tb,0,none⟩ (by simp;omega),World.frozen?_alloc_old _ _ ⟨tb,0,none⟩ (by simp;omega),World.frozen?_alloc_old _ _ ⟨tb,0,none⟩ (by simp;omega),World.frozen?_alloc_old _ _ ⟨tb,0,none⟩ (Nat.ne_of_lt b)];exact f0)
  (by rw[World.frozen?_alloc_old _ _ ⟨tb,1,none⟩ (by simp;omega),World.frozen?_alloc_old _ _ ⟨tb,1,none⟩ (by simp;omega),World.frozen?_alloc_old _ _ ⟨tb,1,none⟩ (by simp;omega),World.frozen?_alloc_old _ _ ⟨tb,1,none⟩ (Nat.ne_of_lt b)];exact f1)
 unfold ErrT at hg
 go_enter Tryz.func65,Tryz.ntmps65
 go_wp2
 refine wp_loop_rounds 1 ?_
 rw[rounds_succ]
 go_wp2
 go_ret
 exact ⟨rfl,rfl⟩
theorem Xuj (c:Int) (te:Nat) (xe:Value) (w:World) (hg:ErrT w):
  Calls Tryz.prog 30 #[.iface 105 (.agg #[.int .i64 c, .iface te xe])] w fun ev w'=>ev= .returned (.int .i64 c)/\Below w.heap.size w w':=by
 have b:=hg.lt
 have d:=Xa (hg.below ((Below.refl w.heap.size w).alloc (Nat.le_refl _) (.cells #[.int .i64 0, .nilIface] 105)) b)
 have g:(asW (w.alloc (.cells #[.int .i64 0, .nilIface] 105)) w.heap.size c (.iface te xe)).cell? ⟨w.heap.size,0,none⟩=some (.int .i64 c):=by
  unfold asW
  rw[World.cell?_setCell_other (h:=by simp)]
  refine World.cell?_setCell_same _ _ _ (u:= .int .i64 0) ?_
  rw[World.cell?_alloc_lt _ _ ⟨w.heap.size,0,none⟩ (by simp;omega),World.cell?_alloc_lt _ _ ⟨w.heap.size,0,none⟩ (by simp;omega),World.cell?_alloc_lt _ _ ⟨w.heap.size,0,none⟩ (by simp;omega),World.cell?_alloc_lt _ _ ⟨w.heap.size,0,none⟩ (by simp)]
  simp
 have f:Hid (Below w.heap.size w (asW (w.alloc (.cells #[.int .i64 0, .nilIface] 105)) w.heap.size c (.iface te xe))):=by
  unfold Hid asW
  exact (((((((Below.refl w.heap.size w).alloc (Nat.le_refl _) _).alloc (by simp) _).alloc (by simp;omega) _).alloc (by simp;omega) _).alloc (by simp;omega) _).setCell (Nat.le_refl _) _).setCell (Nat.le_refl _) _
 go_enter Tryz.func30,Tryz.ntmps30
 go_wp2_with fail
 refine (X4j w.heap.size c te xe (.int .i64 0) .nilIface _ d.out (by simp) (by simp) (by simp) (by simp)).mono ?_
 rintro e j ⟨rfl,rfl⟩
 generalize asW (w.alloc (.cells #[.int .i64 0, .nilIface] 105)) w.heap.size c (.iface te xe)=W1 at *
 go_wp2_with fail
 go_ret
 exact ⟨rfl,f.out⟩
end Go.Proofs.YtdjddneidbddpaaGreatDoor
