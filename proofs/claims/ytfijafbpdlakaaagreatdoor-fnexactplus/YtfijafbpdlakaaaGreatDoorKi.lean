/-
  Closed facts on what errors.As asks of the types, at the program's own refusal.
-/
import Derived.Test.YtfijafbpdlakaaaGreatDoorFlat
import Derived.Test.YtfijafbpdlakaaaGreatDoorProg
import Derived.WalkKit
import Derived.LaidEql
import Derived.Stop.Asserts
import Derived.RowKitTokens
import Derived.Test.YtfijafbpdlakaaaGreatDoorVAt
import Derived.Test.YtfijafbpdlakaaaGreatDoorWnM
import Derived.Test.YtfijafbpdlakaaaGreatDoorWn6
import Derived.Test.YtfijafbpdlakaaaGreatDoorRows
import Derived.ProofKit
import Derived.LaidMore
import Derived.OpenShut
import Derived.ShutString
import Derived.ChangeOld
import Derived.Below
import Derived.LaidLaws
import Derived.LaidHandle
import Derived.Stop.Joined
import Derived.Stop.LaidErr
import Derived.Test.YtfijafbpdlakaaaGreatDoorKp
namespace Go.Proofs.YtfijafbpdlakaaaGreatDoor
open Go.RowKit Go.Extern.Stop Go.Stop Go.Extern
set_option linter.unusedSimpArgs false
set_option linter.unusedVariables false

/-- The handle of a type. -/
def hdl (t : Nat) : Value := .pointer (some ⟨4, t, none⟩)

theorem as_valueOfP (t : Addr) (w : World) : (ReflectliteValue.unpack (.iface 137 (.pointer (some t)))).run Tryz.prog w
    = .ok (.agg #[.pointer (some ⟨4, 137, none⟩), .pointer (some ⟨w.heap.size, 0, none⟩), .int .u64 150]) (w.alloc (.cells #[.pointer (some t)] 137)) := by kernel_rfl
theorem as_typeP (a : Addr) (w : World) : (ReflectliteValue.methodAny (ReflectliteValue.valueError "reflectlite.Value.Type" 0) (fun t _ _ _ => ReflectliteType.toType t) #[.agg #[.pointer (some ⟨4, 137, none⟩), .pointer (some a), .int .u64 150]]).run Tryz.prog w
    = .ok (.iface 169 (.agg #[.pointer (some ⟨4, 137, none⟩)])) w := by kernel_rfl
theorem as_methodKind (h : Value) (w : World) : (Go.method 316 169 (.agg #[h]) "Kind").run Tryz.prog w = .ok (138, h) w := by kernel_rfl
theorem as_kindP (w : World) : ((ReflectliteType.abiMethod fun t => (fun a : Nat => Value.int IntKind.u8 (a : Int)) <$> Rtype.kind t) #[.pointer (some ⟨4, 137, none⟩)]).run Tryz.prog w = .ok (.int .u8 22) w := by kernel_rfl
theorem as_kindR (w : World) : ((ReflectliteType.abiMethod fun t => (fun a : Nat => Value.int IntKind.u8 (a : Int)) <$> Rtype.kind t) #[.pointer (some ⟨4, 115, none⟩)]).run Tryz.prog w = .ok (.int .u8 25) w := by kernel_rfl

theorem rlm (z : Sem Value) (f : TypeId → Addr → Nat → Nat → Sem Value) (v : Value) :
    ReflectliteValue.method z f #[v] = (do match ← ReflectliteValue.parts v with | none => z | some (t, a, fl) => f t a fl (fl % 32)) := rfl
theorem as_partsP (a : Addr) (w : World) : (ReflectliteValue.parts (.agg #[.pointer (some ⟨4, 137, none⟩), .pointer (some a), .int .u64 150])).run Tryz.prog w = .ok (some (137, a, 150)) w := by kernel_rfl
theorem as_isNilP (a p : Addr) (W : World) (ha : W.cell? a = some (.pointer (some p))) :
    (ReflectliteValue.method (ReflectliteValue.valueError "reflectlite.Value.IsNil" 0) ReflectliteValue.isNil #[.agg #[.pointer (some ⟨4, 137, none⟩), .pointer (some a), .int .u64 150]]).run Tryz.prog W = .ok (.bool false) W := by
  rw [rlm]
  simp only [Sem.run_bind, as_partsP, Result.andThen]
  simp [ReflectliteValue.isNil, loadVar, isAgg, underlying, Tryz.underlying137, ha, Result.andThen]

theorem as_methodElem (h : Value) (w : World) : (Go.method 316 169 (.agg #[h]) "Elem").run Tryz.prog w = .ok (162, .agg #[h]) w := by kernel_rfl
theorem as_methodImplements (h : Value) (w : World) : (Go.method 316 169 (.agg #[h]) "Implements").run Tryz.prog w = .ok (163, .agg #[h]) w := by kernel_rfl
theorem as_methodAssignableTo (h : Value) (w : World) : (Go.method 316 169 (.agg #[h]) "AssignableTo").run Tryz.prog w = .ok (160, .agg #[h]) w := by kernel_rfl
theorem as_elemP (w : World) : (ReflectliteType.method ReflectliteType.elem #[.agg #[.pointer (some ⟨4, 137, none⟩)]]).run Tryz.prog w = .ok (.iface 169 (.agg #[.pointer (some ⟨4, 115, none⟩)])) w := by kernel_rfl
theorem as_implementsR (w : World) : (ReflectliteType.relation "Implements" ReflectliteType.implements_ #[.agg #[.pointer (some ⟨4, 115, none⟩)], .iface 169 (.agg #[.pointer (some ⟨4, 82, none⟩)])]).run Tryz.prog w = .ok (.bool true) w := by kernel_rfl
theorem as_typeOfR (v : Value) (w : World) : (ReflectliteType.typeOf #[.iface 115 v]).run Tryz.prog w = .ok (.iface 169 (.agg #[.pointer (some ⟨4, 115, none⟩)])) w := by kernel_rfl
theorem as_assignableR (w : World) : (ReflectliteType.relation "AssignableTo" ReflectliteType.assignableTo #[.agg #[.pointer (some ⟨4, 115, none⟩)], .iface 169 (.agg #[.pointer (some ⟨4, 115, none⟩)])]).run Tryz.prog w = .ok (.bool true) w := by kernel_rfl
theorem as_valueOfR (c : Int) (te : Nat) (xe : Value) (w : World) : (ReflectliteValue.unpack (.iface 115 (.agg #[.int .i64 c, .iface te xe]))).run Tryz.prog w
    = .ok (.agg #[.pointer (some ⟨4, 115, none⟩), .pointer (some ⟨w.heap.size, 0, none⟩), .int .u64 153]) (w.alloc (.cells #[.int .i64 c, .iface te xe] 115)) := by kernel_rfl
theorem as_elemOfP (w : World) : (Rtype.elem? 137).run Tryz.prog w = .ok (some 115) w := by kernel_rfl
theorem as_mkR (p : Addr) (w : World) : (ReflectliteValue.mk 115 p ReflectliteValue.flagAddr).run Tryz.prog w = .ok (.agg #[.pointer (some ⟨4, 115, none⟩), .pointer (some p), .int .u64 409]) w := by kernel_rfl
theorem as_elemVP (a p : Addr) (W : World) (ha : W.cell? a = some (.pointer (some p))) :
    (ReflectliteValue.method (ReflectliteValue.valueError "reflectlite.Value.Elem" 0) ReflectliteValue.elem #[.agg #[.pointer (some ⟨4, 137, none⟩), .pointer (some a), .int .u64 150]]).run Tryz.prog W
      = .ok (.agg #[.pointer (some ⟨4, 115, none⟩), .pointer (some p), .int .u64 409]) W := by
  rw [rlm]
  simp only [Sem.run_bind, as_partsP, Result.andThen]
  simp [ReflectliteValue.elem, loadVar, isAgg, underlying, Tryz.underlying137, ha, Result.andThen, as_elemOfP, as_mkR]
theorem rls (v x : Value) : ReflectliteValue.set #[v, x] = (do
    let (some (dst, a, fl), some (src, b, _)) := (← ReflectliteValue.parts v, ← ReflectliteValue.parts x)
      | unsupported (.noEntry "extern/(internal/reflectlite.Value).Set.zeroValue")
    if fl / ReflectliteValue.flagAddr % 2 == 0 then unsupported (.noEntry "extern/(internal/reflectlite.Value).Set.unaddressable")
    let val ← loadVar src b
    if ← Rtype.directlyAssignable dst src then storeVar dst a val
    else if ← Rtype.implements dst src then
      if (← Rtype.kind src) == 20 then
        match val with
        | .nilIface => unsupported (.noEntry "extern/reflectlite: a nil value of one interface type handed on as a value of another")
        | _ => storeVar dst a val
      else storeVar dst a (.iface src val)
    else panicString ("reflectlite.Set: value of type " ++ (← Rtype.spelt src) ++ " is not assignable to type " ++ (← Rtype.spelt dst))
    pure (.tuple #[])) := rfl
theorem as_partsRa (a : Addr) (w : World) : (ReflectliteValue.parts (.agg #[.pointer (some ⟨4, 115, none⟩), .pointer (some a), .int .u64 409])).run Tryz.prog w = .ok (some (115, a, 409)) w := by kernel_rfl
theorem as_partsR (a : Addr) (w : World) : (ReflectliteValue.parts (.agg #[.pointer (some ⟨4, 115, none⟩), .pointer (some a), .int .u64 153])).run Tryz.prog w = .ok (some (115, a, 153)) w := by kernel_rfl
theorem as_directR (w : World) : (Rtype.directlyAssignable 115 115).run Tryz.prog w = .ok true w := by kernel_rfl
theorem as_sizeR (w : World) : (sizeOf 115).run Tryz.prog w = .ok 2 w := by kernel_rfl
theorem as_setR (tb bb : Nat) (c : Int) (te : Nat) (xe o0 o1 : Value) (W : World) (h0 : W.cell? ⟨bb, 0, none⟩ = some (.int .i64 c)) (h1 : W.cell? ⟨bb, 1, none⟩ = some (.iface te xe)) (t0 : W.cell? ⟨tb, 0, none⟩ = some o0) (t1 : W.cell? ⟨tb, 1, none⟩ = some o1) (f0 : W.frozen? ⟨tb, 0, none⟩ = false) (f1 : W.frozen? ⟨tb, 1, none⟩ = false) :
    (ReflectliteValue.set #[.agg #[.pointer (some ⟨4, 115, none⟩), .pointer (some ⟨tb, 0, none⟩), .int .u64 409], .agg #[.pointer (some ⟨4, 115, none⟩), .pointer (some ⟨bb, 0, none⟩), .int .u64 153]]).run Tryz.prog W
      = .ok (.tuple #[]) ((W.setCell ⟨tb, 0, none⟩ (.int .i64 c)).setCell ⟨tb, 1, none⟩ (.iface te xe)) := by
  rw [rls]
  simp only [Sem.run_bind, as_partsRa, as_partsR, Result.andThen]
  simp [ReflectliteValue.flagAddr, loadVar, isAgg, underlying, Tryz.underlying115, h0, h1, Result.andThen, as_directR, as_sizeR, storeVar, Value.cells, storeCells, Addr.add]
  have hl : (loadCells ⟨bb, 0, none⟩ 2).run Tryz.prog W = .ok #[.int .i64 c, .iface te xe] W := by
    simp [loadCells, loadCellsFrom, Addr.add, h0, h1, Result.andThen]
  rw [hl]
  simp [storeCells, Addr.add, Result.andThen]
  rw [run_store Tryz.prog W ⟨tb, 0, none⟩ _ _ (by rfl)]
  simp [t0, f0]
  rw [run_store Tryz.prog (W.setCell ⟨tb, 0, none⟩ (.int .i64 c)) ⟨tb, 1, none⟩ _ _ (by rfl)]
  rw [World.cell?_setCell_other (h := by simp)]
  simp [t1, f1]
end Go.Proofs.YtfijafbpdlakaaaGreatDoor

/-
  errors.As at the program's own refusal: it is found at once, and codeOf answers its code.
-/
namespace Go.Proofs.YtfijafbpdlakaaaGreatDoor
open Go.RowKit Go.Extern.Stop Go.Stop Go.Extern
set_option linter.unusedSimpArgs false
set_option linter.unusedVariables false

/-- What the package's variables hold: the errors' own type. -/
def ErrT (w : World) : Prop := w.cell? ⟨2, 0, none⟩ = some (.iface 169 (.agg #[.pointer (some ⟨4, 82, none⟩)]))

theorem ErrT.lt {w : World} (hg : ErrT w) : 2 < w.heap.size := by
  rcases Nat.lt_or_ge 2 w.heap.size with h | h
  · exact h
  · unfold ErrT at hg; simp [World.cell?, Array.getElem?_eq_none h] at hg
theorem ErrT.below {w w' : World} {B : Nat} (hg : ErrT w) (hb : Below B w w') (hB : 2 < B) : ErrT w' := (below_cell hb hB).trans hg

/-- The world behind errors.As. -/
def asW (w : World) (tb : Nat) (c : Int) (x : Value) : World :=
  (((((w.alloc (.cells #[.pointer (some ⟨tb, 0, none⟩)] 137)).alloc (.cells #[.pointer (some ⟨4, 137, none⟩), .pointer (some ⟨w.heap.size, 0, none⟩), .int .u64 150] 154)).alloc (.cells #[.pointer (some ⟨4, 137, none⟩), .pointer (some ⟨w.heap.size, 0, none⟩), .int .u64 150] 154)).alloc (.cells #[.int .i64 c, x] 115)).setCell ⟨tb, 0, none⟩ (.int .i64 c)).setCell ⟨tb, 1, none⟩ x

set_option maxHeartbeats 4000000 in
theorem as_hit (tb : Nat) (c : Int) (te : Nat) (xe o0 o1 : Value) (w : World) (hg : ErrT w) (t0 : w.cell? ⟨tb, 0, none⟩ = some o0) (t1 : w.cell? ⟨tb, 1, none⟩ = some o1) (f0 : w.frozen? ⟨tb, 0, none⟩ = false) (f1 : w.frozen? ⟨tb, 1, none⟩ = false) :
    Calls Tryz.prog 90 #[.iface 115 (.agg #[.int .i64 c, .iface te xe]), .iface 137 (.pointer (some ⟨tb, 0, none⟩))] w fun ev w' => ev = .returned (.bool true) ∧ w' = asW w tb c (.iface te xe) := by
  have hlt := hg.lt
  have htl : tb < w.heap.size := by
    rcases Nat.lt_or_ge tb w.heap.size with h | h
    · exact h
    · simp [World.cell?, Array.getElem?_eq_none h] at t0
  have h6 := @run_callFunc_extern Tryz.prog 104 _ (fun args => ReflectliteValue.unpack (args.getD 0 (.tuple #[]))) Tryz.func104 (by kernel_rfl) (by kernel_rfl) (by kernel_rfl) (by kernel_rfl)
  have h7 := @run_callFunc_extern Tryz.prog 105 _ (ReflectliteValue.methodAny (ReflectliteValue.valueError "reflectlite.Value.Type" 0) (fun t _ _ _ => ReflectliteType.toType t)) Tryz.func105 (by kernel_rfl) (by kernel_rfl) (by kernel_rfl) (by kernel_rfl)
  have h8 := @run_callFunc_extern Tryz.prog 106 _ (ReflectliteValue.method (ReflectliteValue.valueError "reflectlite.Value.IsNil" 0) ReflectliteValue.isNil) Tryz.func106 (by kernel_rfl) (by kernel_rfl) (by kernel_rfl) (by kernel_rfl)
  have h27 := @run_callFunc_extern Tryz.prog 138 _ (ReflectliteType.abiMethod fun t => do pure (.int .u8 (← Rtype.kind t))) Tryz.func138 (by kernel_rfl) (by kernel_rfl) (by kernel_rfl) (by kernel_rfl)
  have h37 := @run_callFunc_extern Tryz.prog 162 _ (ReflectliteType.method ReflectliteType.elem) Tryz.func162 (by kernel_rfl) (by kernel_rfl) (by kernel_rfl) (by kernel_rfl)
  have h38 := @run_callFunc_extern Tryz.prog 163 _ (ReflectliteType.relation "Implements" ReflectliteType.implements_) Tryz.func163 (by kernel_rfl) (by kernel_rfl) (by kernel_rfl) (by kernel_rfl)
  have h10 := @run_callFunc_extern Tryz.prog 115 _ ReflectliteType.typeOf Tryz.func115 (by kernel_rfl) (by kernel_rfl) (by kernel_rfl) (by kernel_rfl)
  have h35 := @run_callFunc_extern Tryz.prog 160 _ (ReflectliteType.relation "AssignableTo" ReflectliteType.assignableTo) Tryz.func160 (by kernel_rfl) (by kernel_rfl) (by kernel_rfl) (by kernel_rfl)
  have h11 := @run_callFunc_extern Tryz.prog 116 _ (ReflectliteValue.method (ReflectliteValue.valueError "reflectlite.Value.Elem" 0) ReflectliteValue.elem) Tryz.func116 (by kernel_rfl) (by kernel_rfl) (by kernel_rfl) (by kernel_rfl)
  have h12 := @run_callFunc_extern Tryz.prog 117 _ ReflectliteValue.set Tryz.func117 (by kernel_rfl) (by kernel_rfl) (by kernel_rfl) (by kernel_rfl)
  have tO := as_typeOfR
  have mA := as_methodAssignableTo
  have a25 := as_assignableR
  have v25 := as_valueOfR
  have f6 := as_valueOfP
  have f7 := as_typeP
  have mK := as_methodKind
  have mE := as_methodElem
  have mI := as_methodImplements
  have k27 := as_kindP
  have k25 := as_kindR
  have e27 := as_elemP
  have i25 := as_implementsR
  have n8 := as_isNilP ⟨w.heap.size, 0, none⟩ ⟨tb, 0, none⟩ ((w.alloc (.cells #[.pointer (some ⟨tb, 0, none⟩)] 137)).alloc (.cells #[.pointer (some ⟨4, 137, none⟩), .pointer (some ⟨w.heap.size, 0, none⟩), .int .u64 150] 154)) (by simp)
  have hg2 : ((w.alloc (.cells #[.pointer (some ⟨tb, 0, none⟩)] 137)).alloc (.cells #[.pointer (some ⟨4, 137, none⟩), .pointer (some ⟨w.heap.size, 0, none⟩), .int .u64 150] 154)).cell? ⟨2, 0, none⟩ = some (.iface 169 (.agg #[.pointer (some ⟨4, 82, none⟩)])) := by
    rw [World.cell?_alloc_lt _ _ ⟨2, 0, none⟩ (by simp; omega), World.cell?_alloc_lt _ _ ⟨2, 0, none⟩ hlt]; exact hg
  have el := as_elemVP ⟨w.heap.size, 0, none⟩ ⟨tb, 0, none⟩ (((w.alloc (.cells #[.pointer (some ⟨tb, 0, none⟩)] 137)).alloc (.cells #[.pointer (some ⟨4, 137, none⟩), .pointer (some ⟨w.heap.size, 0, none⟩), .int .u64 150] 154)).alloc (.cells #[.pointer (some ⟨4, 137, none⟩), .pointer (some ⟨w.heap.size, 0, none⟩), .int .u64 150] 154)) (by rw [World.cell?_alloc_lt _ _ ⟨w.heap.size, 0, none⟩ (by simp; omega)]; simp)
  have st := as_setR tb (w.heap.size + 1 + 1 + 1) c te xe o0 o1 ((((w.alloc (.cells #[.pointer (some ⟨tb, 0, none⟩)] 137)).alloc (.cells #[.pointer (some ⟨4, 137, none⟩), .pointer (some ⟨w.heap.size, 0, none⟩), .int .u64 150] 154)).alloc (.cells #[.pointer (some ⟨4, 137, none⟩), .pointer (some ⟨w.heap.size, 0, none⟩), .int .u64 150] 154)).alloc (.cells #[.int .i64 c, .iface te xe] 115))
    (by rw [World.cell?_alloc_at _ _ _ _ (by simp)]; rfl)
    (by rw [World.cell?_alloc_at _ _ _ _ (by simp)]; rfl)
    (by rw [World.cell?_alloc_lt _ _ ⟨tb, 0, none⟩ (by simp; omega), World.cell?_alloc_lt _ _ ⟨tb, 0, none⟩ (by simp; omega), World.cell?_alloc_lt _ _ ⟨tb, 0, none⟩ (by simp; omega), World.cell?_alloc_lt _ _ ⟨tb, 0, none⟩ htl]; exact t0)
    (by rw [World.cell?_alloc_lt _ _ ⟨tb, 1, none⟩ (by simp; omega), World.cell?_alloc_lt _ _ ⟨tb, 1, none⟩ (by simp; omega), World.cell?_alloc_lt _ _ ⟨tb, 1, none⟩ (by simp; omega), World.cell?_alloc_lt _ _ ⟨tb, 1, none⟩ htl]; exact t1)
    (by rw [World.frozen?_alloc_old _ _ ⟨tb, 0, none⟩ (by simp; omega), World.frozen?_alloc_old _ _ ⟨tb, 0, none⟩ (by simp; omega), World.frozen?_alloc_old _ _ ⟨tb, 0, none⟩ (by simp; omega), World.frozen?_alloc_old _ _ ⟨tb, 0, none⟩ (Nat.ne_of_lt htl)]; exact f0)
    (by rw [World.frozen?_alloc_old _ _ ⟨tb, 1, none⟩ (by simp; omega), World.frozen?_alloc_old _ _ ⟨tb, 1, none⟩ (by simp; omega), World.frozen?_alloc_old _ _ ⟨tb, 1, none⟩ (by simp; omega), World.frozen?_alloc_old _ _ ⟨tb, 1, none⟩ (Nat.ne_of_lt htl)]; exact f1)
  unfold ErrT at hg
  go_enter Tryz.func90, Tryz.ntmps90
  go_wp2
  refine wp_loop_rounds 1 ?_
  rw [rounds_succ]
  go_wp2
  go_ret
  exact ⟨rfl, rfl⟩

set_option maxHeartbeats 4000000 in
theorem codeOf_hit (c : Int) (te : Nat) (xe : Value) (w : World) (hg : ErrT w) :
    Calls Tryz.prog 74 #[.iface 115 (.agg #[.int .i64 c, .iface te xe])] w fun ev w' => ev = .returned (.int .i64 c) ∧ Below w.heap.size w w' := by
  have hlt := hg.lt
  have HG := hideIt (hg.below ((Below.refl w.heap.size w).alloc (Nat.le_refl _) (.cells #[.int .i64 0, .nilIface] 115)) hlt)
  have e0 : (asW (w.alloc (.cells #[.int .i64 0, .nilIface] 115)) w.heap.size c (.iface te xe)).cell? ⟨w.heap.size, 0, none⟩ = some (.int .i64 c) := by
    unfold asW
    rw [World.cell?_setCell_other (h := by simp)]
    refine World.cell?_setCell_same _ _ _ (u := .int .i64 0) ?_
    rw [World.cell?_alloc_lt _ _ ⟨w.heap.size, 0, none⟩ (by simp; omega), World.cell?_alloc_lt _ _ ⟨w.heap.size, 0, none⟩ (by simp; omega), World.cell?_alloc_lt _ _ ⟨w.heap.size, 0, none⟩ (by simp; omega), World.cell?_alloc_lt _ _ ⟨w.heap.size, 0, none⟩ (by simp)]
    simp
  have HB : Hid (Below w.heap.size w (asW (w.alloc (.cells #[.int .i64 0, .nilIface] 115)) w.heap.size c (.iface te xe))) := by
    unfold Hid asW
    exact (((((((Below.refl w.heap.size w).alloc (Nat.le_refl _) _).alloc (by simp) _).alloc (by simp; omega) _).alloc (by simp; omega) _).alloc (by simp; omega) _).setCell (Nat.le_refl _) _).setCell (Nat.le_refl _) _
  go_enter Tryz.func74, Tryz.ntmps74
  go_wp2_with fail
  refine (as_hit w.heap.size c te xe (.int .i64 0) .nilIface _ HG.out (by simp) (by simp) (by simp) (by simp)).mono ?_
  rintro e w1 ⟨rfl, rfl⟩
  generalize asW (w.alloc (.cells #[.int .i64 0, .nilIface] 115)) w.heap.size c (.iface te xe) = W1 at *
  go_wp2_with fail
  go_ret
  exact ⟨rfl, HB.out⟩
end Go.Proofs.YtfijafbpdlakaaaGreatDoor

/-
  impl.LengthOf: a refusal with its code, or the length's node.
-/
namespace Go.Proofs.YtfijafbpdlakaaaGreatDoor
open Go.RowKit
set_option linter.unusedSimpArgs false
set_option linter.unusedVariables false

/-- What the package's variables hold: the errors' own type, and some error. -/
structure Errs (w : World) : Prop where
  et : ErrT w
  kind : ∃ te xe, w.cell? ⟨0, 0, none⟩ = some (.iface te xe)

theorem cell_lt {w : World} {b o : Nat} {v : Value} (h : w.cell? ⟨b, o, none⟩ = some v) : b < w.heap.size := by
  rcases Nat.lt_or_ge b w.heap.size with h1 | h1
  · exact h1
  · simp [World.cell?, Array.getElem?_eq_none h1] at h

theorem Errs.below {w w' : World} (h : Errs w) (hb : Below w.heap.size w w') : Errs w' := by
  obtain ⟨te, xe, hk⟩ := h.kind
  exact ⟨h.et.below hb h.et.lt, ⟨te, xe, (below_cell hb (cell_lt hk)).trans hk⟩⟩

/-- A refusal with a code. -/
def Refuses (c : Int) (v : Value) : Prop := ∃ te xe, v = .iface 115 (.agg #[.int .i64 c, .iface te xe])

set_option maxHeartbeats 800000 in
theorem wrongKind_any (w : World) (h : Errs w) : Calls Tryz.prog 52 #[] w fun e w' => (∃ v, e = .returned v ∧ Refuses 2 v) ∧ w' = w := by
  obtain ⟨te, xe, hk⟩ := h.kind
  clear h
  go_enter Tryz.func52, Tryz.ntmps52
  go_wp2_with fail
  go_ret
  exact ⟨⟨_, rfl, te, xe, rfl⟩, rfl⟩

theorem ta_null_list (x : Value) (w : World) : (Instr.typeAssert (.iface 132 x) 54 91 true).run Tryz.prog w = .ok (.tuple #[.agg #[.slice none 0 0], .bool false]) w := by kernel_rfl

/-- What comes of a length. -/
def LenAns (o : Option Int) (e : Ending) : Prop := match o with
  | some n => e = .returned (.tuple #[.iface 86 (.agg #[.int .i64 n]), .nilIface])
  | none => ∃ v, e = .returned (.tuple #[.nilIface, v]) ∧ Refuses 2 v

/-- A number's tree is one node. -/
theorem lay_number (n : Int) : layT 1 (.mk 3 n ByteArray.empty [] []) 0 = leafN 3 n ByteArray.empty := by
  rfl

set_option maxRecDepth 100000 in
set_option maxHeartbeats 3200000 in
theorem nodesOr_no (c : Int) (u v : Value) (w : World) (hv : Refuses c v) (hu : u = .nilIface ∨ ∃ t x, u = .iface t x) (hE : Errs w) :
    Calls Tryz.prog 51 #[u, v] w fun e w' => e = .returned (.tuple #[.slice none 0 0, .int .i64 c]) ∧ Below w.heap.size w w' := by
  obtain ⟨te, xe, rfl⟩ := hv
  have HE := hideIt hE
  clear hE
  rcases hu with rfl | ⟨t, x, rfl⟩
  all_goals
    go_enter Tryz.func51, Tryz.ntmps51
    go_wp2_with fail
    refine (codeOf_hit c te xe w HE.out.et).mono ?_
    rintro e w1 ⟨rfl, hb⟩
    go_wp2_with fail
    go_ret2
    exact ⟨rfl, hb⟩

set_option maxRecDepth 100000 in
set_option maxHeartbeats 3200000 in
theorem nodesOr_yes (f : Nat) (t : VT) (x : Value) (ns : List VN) (w : World) (ht : TreeAt w.heap.size w f t x) (hns : layT f t 0 = ns) (hn : ns.length ≤ 100000) :
    Calls Tryz.prog 51 #[x, .nilIface] w fun e w' => ∃ r KV IV, e = .returned (.tuple #[r, .int .i64 0]) ∧ Nest w.heap.size w' r ns KV IV ∧ Below w.heap.size w w' := by
  obtain ⟨ty, xv, rfl⟩ : ∃ ty xv, x = .iface ty xv := by
    cases f with
    | zero => exact ht.elim
    | succ f =>
      obtain ⟨kind, n, s, keys, kids⟩ := t
      rcases ht with ⟨_, _, _, _, _, rfl⟩ | ⟨_, _, _, _, rfl⟩ | ⟨_, _, _, _, rfl⟩ | ⟨_, _, _, _, rfl⟩ | ⟨_, _, _, _, it, rfl, _⟩ | ⟨_, _, _, ks, it, rfl, _⟩ <;> exact ⟨_, _, rfl⟩
  have HT := hideIt ht
  have HNS := hideIt hns
  clear ht hns
  go_enter Tryz.func51, Tryz.ntmps51
  go_wp2_with fail
  refine (withNodes_any w.heap.size w.heap.size (Nat.le_refl _) f t (.iface ty xv) (.slice none 0 0) [] (fun _ => undef) (fun _ => undef) w (Nest.nil _ _ _ _) HT.out (Nat.le_refl _) (by rw [List.length_nil, HNS.out]; omega)).mono ?_
  rintro e w1 ⟨r, K, I, rfl, hl1⟩
  have hn1 : Nest w.heap.size w1 r ns K I := by have := hl1.1; rw [List.nil_append, List.length_nil, HNS.out] at this; exact this
  have hb1 : Below w.heap.size w w1 := (Below.refl _ _).grown hl1.2.1 (Nat.le_refl _) (fun k hk => by simp [Value.ownBlock] at hk)
  have HN1 := hideIt hn1
  have HB1 := hideIt hb1
  obtain ⟨ar, cr, er⟩ := own_slice hn1.row
  obtain ⟨N, hN⟩ : ∃ N, ns.length = N := ⟨_, rfl⟩
  rw [hN] at er
  subst er
  clear hn1 hb1 hN hl1
  go_wp2_with fail
  go_ret2
  exact ⟨_, K, I, rfl, HN1.out, HB1.out⟩

theorem len_nodeb {vs : List VN} (hok : okB vs = true) : (-1000000000000000 ≤ (rootN vs).n ∧ (rootN vs).n ≤ 1000000000000000) ∧ (rootN vs).s.size ≤ 1000000 := by
  obtain ⟨p1, p2, _, _⟩ := okB_parts hok
  have hn := (p2 (vs.length - 1) (by omega)).1
  change nodeB (rootN vs) = true at hn
  unfold nodeB at hn
  simp only [Bool.and_eq_true] at hn
  obtain ⟨h1, h2⟩ := hn
  unfold unnamedB at h1
  simp only [Bool.and_eq_true, Bool.not_eq_true', Bool.and_eq_false_iff, decide_eq_false_iff_not, Decidable.not_not, Nat.not_lt, Nat.le_zero, ne_eq] at h1
  obtain ⟨⟨⟨n1, n2⟩, _⟩, _⟩ := h1
  unfold namedB at h2
  constructor
  · rcases n1 with (h | h) | h
    · simp [h] at h2; omega
    · simp [h] at h2; omega
    · omega
  · rcases n2 with h | h
    · simp [h, textB] at h2; omega
    · have e : (rootN vs).s = ByteArray.empty := by
        cases hs : (rootN vs).s with | mk d => rw [hs, ByteArray.toList_eq] at h; simp at h; subst h; rfl
      rw [e]; decide

end Go.Proofs.YtfijafbpdlakaaaGreatDoor

/-
  What the listed variables give a walk: the errors' own type, and the errors of the program.
-/
namespace Go.Proofs.YtfijafbpdlakaaaGreatDoor
open Go.ChangeShapes Go.WideShapes Go.ChangeAt Go.RowKit
set_option linter.unusedVariables false

theorem ev_own : ownKnob Tryz.prog.godebug = none := by kernel_rfl
theorem ev_laidOut : laidOutB Tryz.prog = true := by kernel_rfl
theorem ev_et : Tryz.prog.globalNamed "errors.errorType" = some 2 := by kernel_rfl
theorem ev_gk : Tryz.prog.globalNamed "loop.example/g00345/impl.errKind" = some 0 := by kernel_rfl
theorem ev_gkType : (Tryz.prog.globals[0]?).map (·.type) = some 82 := by kernel_rfl
theorem ev_rt : (Tryz.prog.cutTypes.find? (·.1 == "internal/reflectlite.rtype")).map (·.2) = some 169 := by kernel_rfl
theorem ev_oneRow : ((List.range 216).filter fun t => Tryz.prog.rowNamed t [101, 114, 114, 111, 114]) = [82] := by kernel_rfl
theorem ev_size : Tryz.prog.types.size = 216 := by kernel_rfl
theorem ev_hdl : typeHandle Tryz.prog 82 = .pointer (some ⟨4, 82, none⟩) := by kernel_rfl
theorem ev_star : "*" ++ "errors.errorString" = "*errors.errorString" := by decide
theorem ev_row (u : TypeId) (h : Tryz.prog.typeName? 3 u = some "*errors.errorString") : u = 184 :=
  typeName_ptr_named (nm := "errors.errorString") (by rw [ev_star]; kernel_rfl) (by kernel_rfl) (by decide) u (by rw [ev_star]; exact h)
theorem ev_cellsE : Tryz.prog.cellsOf 204 = 1 := by kernel_rfl
theorem ev_cellsS : Tryz.prog.cellsOf 9 = 1 := by kernel_rfl

/-- What the handle's condition gives: the variable's one cell. -/
theorem ev_handle {W : World} (h : handlesMet Tryz.prog [("errors.errorType", Rows.laid_errors_errorType)] W) : ErrT W := by
  obtain ⟨name, u, ty, e1, e2, e3, e4, e5⟩ := h _ (List.mem_singleton.2 rfl)
  have en : name = [101, 114, 114, 111, 114] := (Option.some.inj e1).symm
  subst en
  obtain rfl := Option.some.inj (ev_rt.symm.trans e2)
  have hm : ty ∈ (List.range 216).filter fun t => Tryz.prog.rowNamed t [101, 114, 114, 111, 114] := List.mem_filter.2 ⟨List.mem_range.2 (by rw [← ev_size]; exact e3), e4⟩
  rw [ev_oneRow] at hm
  obtain rfl := List.mem_singleton.1 hm
  rw [ev_hdl] at e5
  unfold ErrT
  simpa using World.var?_cell ev_et e5 0

theorem ev_var_below {P : Program} {B g : Nat} {W W' : World} {n : String} {cs : Array Value} (h : Below B W W') (hg : P.globalNamed n = some g) (hgB : g < B) (hv : W.var? P n = some cs) : W'.var? P n = some cs := by
  unfold World.var? at hv ⊢
  simp only [hg, Option.bind_some] at hv ⊢
  rw [h.block g hgB]
  exact hv
end Go.Proofs.YtfijafbpdlakaaaGreatDoor

/-
  impl.rightNodes: the nodes of a value, if these are right.
-/
namespace Go.Proofs.YtfijafbpdlakaaaGreatDoor
open Go.RowKit
set_option linter.unusedSimpArgs false
set_option linter.unusedVariables false

theorem TreeAt.iface {B : Nat} {w : World} {f : Nat} {t : VT} {v : Value} (h : TreeAt B w f t v) : ∃ ty x, v = .iface ty x := by
  cases f with
  | zero => exact h.elim
  | succ f =>
    obtain ⟨kind, n, s, keys, kids⟩ := t
    rcases h with ⟨_, _, _, _, _, rfl⟩ | ⟨_, _, _, _, rfl⟩ | ⟨_, _, _, _, rfl⟩ | ⟨_, _, _, _, rfl⟩ | ⟨_, _, _, _, it, rfl, _⟩ | ⟨_, _, _, ks, it, rfl, _⟩ <;> exact ⟨_, _, rfl⟩

def rightNs (ns : List VN) : List VN := if okB ns = true then ns else []

set_option maxRecDepth 100000 in
set_option maxHeartbeats 3200000 in
theorem rightNodes_any (f : Nat) (t : VT) (x : Value) (ns : List VN) (w : World) (ht : TreeAt w.heap.size w f t x) (hns : layT f t 0 = ns) (hn : ns.length ≤ 100000) (hf : ∀ i, i < ns.length → Fits (nodeAt ns i)) :
    Calls Tryz.prog 75 #[x] w fun e w' => ∃ r base KV IV, e = .returned (.tuple #[r, .bool (okB ns)]) ∧ w.heap.size ≤ base ∧ base ≤ w'.heap.size ∧ Nest base w' r (rightNs ns) KV IV ∧ Below w.heap.size w w' := by
  obtain ⟨ty, xv, rfl⟩ := ht.iface
  have HT := hideIt ht
  have HNS := hideIt hns
  have HF := hideIt hf
  have HRN : Hid (rightNs ns = if okB ns = true then ns else []) := rfl
  clear ht hns hf
  go_enter Tryz.func75, Tryz.ntmps75
  go_wp2_with fail
  refine (withNodes_any w.heap.size w.heap.size (Nat.le_refl _) f t (.iface ty xv) (.slice none 0 0) [] (fun _ => undef) (fun _ => undef) w (Nest.nil _ _ _ _) HT.out (Nat.le_refl _) (by rw [List.length_nil, HNS.out]; omega)).mono ?_
  rintro e w1 ⟨r, K, I, rfl, hl1⟩
  have hn1 : Nest w.heap.size w1 r ns K I := by have := hl1.1; rw [List.nil_append, List.length_nil, HNS.out] at this; exact this
  have hb1 : Below w.heap.size w w1 := (Below.refl _ _).grown hl1.2.1 (Nat.le_refl _) (fun k hk => by simp [Value.ownBlock] at hk)
  have z1 := hb1.size
  have HN1 := hideIt hn1
  have HB1 := hideIt hb1
  obtain ⟨ar, cr, er⟩ := own_slice hn1.row
  obtain ⟨N, hN⟩ : ∃ N, ns.length = N := ⟨_, rfl⟩
  rw [hN] at er
  subst er
  clear hn1 hb1 hN hl1
  go_wp2_with fail
  refine (implOk_any w1.heap.size _ ns _ (HN1.out.nodes (by omega) HF.out) (Nat.le_refl _)).mono ?_
  rintro e w2 ⟨rfl, hb2⟩
  have z2 := hb2.size
  have HN2 := hideIt (HN1.out.below hb2)
  have HB2 := hideIt (HB1.out.trans (hb2.mono z1))
  clear hb2
  cases ok1 : okB ns
  · go_wp2_with fail
    go_ret2
    exact ⟨.slice none 0 0, w.heap.size, fun _ => undef, fun _ => undef, by rw [ok1]; rfl, Nat.le_refl _, by omega, by rw [HRN.out, ok1]; exact Nest.nil _ _ _ _, HB2.out⟩
  · go_wp2_with fail
    go_ret2
    exact ⟨.slice ar N cr, w.heap.size, K, I, by rw [ok1]; rfl, Nat.le_refl _, by omega, by rw [HRN.out, ok1]; exact HN2.out, HB2.out⟩
end Go.Proofs.YtfijafbpdlakaaaGreatDoor

/-
  The method kind of a value whose type is not known: by its contract.
-/
namespace Go.Proofs.YtfijafbpdlakaaaGreatDoor
open Go.RowKit
set_option linter.unusedSimpArgs false
set_option linter.unusedVariables false

/-- The value's kind, as its method says it. -/
structure KindIs (t : Nat) (x : Value) (F : FuncId) (k : Int) : Prop where
  meth : ∀ w, (Go.method 316 t x "loop.example/g00345/impl.kind").run Tryz.prog w = .ok (F, x) w
  enter : ∀ w, (callFunc F #[x]).run Tryz.prog w = .ok (.enter F #[x]) w
  says : ∀ w, Calls Tryz.prog F #[x] w fun e w' => e = .returned (.int .i64 k) ∧ Below w.heap.size w w'

theorem kindIs {lo B : Nat} {w : World} {vs : List VN} {f i : Nat} {v : Value} (h : ValIs lo B w vs f i v) : ∃ t x F, v = .iface t x ∧ KindIs t x F (nodeAt vs i).kind := by
  cases f with
  | zero => exact h.elim
  | succ f =>
    rcases h with ⟨k, rfl⟩ | ⟨k, rfl⟩ | ⟨k, rfl⟩ | ⟨k, rfl⟩ | ⟨k, it, rfl, hi⟩ | ⟨k, ks, it, rfl, hs, hi⟩
    · rw [k]; exact ⟨_, _, 154, rfl, fun w => by kernel_rfl, fun w => by kernel_rfl, fun w => kind1_any w⟩
    · rw [k]; exact ⟨_, _, 150, rfl, fun w => by kernel_rfl, fun w => by kernel_rfl, fun w => kind2_any _ w⟩
    · rw [k]; exact ⟨_, _, 142, rfl, fun w => by kernel_rfl, fun w => by kernel_rfl, fun w => kind3_any _ w⟩
    · rw [k]; exact ⟨_, _, 144, rfl, fun w => by kernel_rfl, fun w => by kernel_rfl, fun w => kind4_any _ w⟩
    · obtain ⟨a, c, rfl, _⟩ := hi
      rw [k]; exact ⟨_, _, 146, rfl, fun w => by kernel_rfl, fun w => by kernel_rfl, fun w => kind5_any _ _ _ w⟩
    · obtain ⟨a, c, rfl, _⟩ := hi
      obtain ⟨_, _, a', c', rfl, _⟩ := hs
      rw [k]; exact ⟨_, _, 148, rfl, fun w => by kernel_rfl, fun w => by kernel_rfl, fun w => kind6_any _ _ _ _ _ _ w⟩
end Go.Proofs.YtfijafbpdlakaaaGreatDoor
