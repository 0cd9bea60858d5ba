/-
  The four functions that take sizes from a budget: each returns a number and only makes new memory; where the number is not below 0, nothing is greater than the budget was.
-/
import Derived.Test.YtgmnihofkpjboaaGreatDoorStepC
import Derived.Test.YtgmnihofkpjboaaGreatDoorProg
import Derived.Test.YtgmnihofkpjboaaGreatDoorStepN
namespace Go.Proofs.YtgmnihofkpjboaaGreatDoor
open Go.RowKit
set_option linter.unusedSimpArgs false
set_option linter.unusedVariables false

set_option maxHeartbeats 400000 in
theorem szInt64S_any (B : Nat) (v : Value) (l : List Int) (r : Int) (w : World) (h : RawInts B w v l) (h1 : 0 ≤ r) (h2 : r ≤ 1048576) :
    Calls Tryz.prog 24 #[v, .int .i64 r] w fun e w' => (∃ q, e = .returned (.int .i64 q) ∧ q ≤ 1048576 ∧ (0 ≤ q → l.length ≤ 1048576)) ∧ w' = w := by
  obtain ⟨hlen, _, a, cap, rfl, _⟩ := h
  go_enter Tryz.func24, Tryz.ntmps24
  go_wp2
  · go_ret
    exact ⟨⟨_, rfl, by omega, fun h => by omega⟩, rfl⟩
  · go_ret
    exact ⟨⟨_, rfl, by omega, fun h => by omega⟩, rfl⟩

set_option maxHeartbeats 400000 in
theorem szStringS_any (B : Nat) (v : Value) (l : List ByteArray) (r : Int) (w : World) (h : RawStrs B w v l) (h1 : 0 ≤ r) (h2 : r ≤ 1048576) :
    Calls Tryz.prog 23 #[v, .int .i64 r] w fun e w' => (∃ q, e = .returned (.int .i64 q) ∧ q ≤ 1048576 ∧ (0 ≤ q → l.length ≤ 1048576 ∧ ∀ i, i < l.length → (keyAt l i).size ≤ 1048576)) ∧ w' = w := by
  obtain ⟨hlen, hsz, a, cap, rfl, hcell⟩ := h
  go_enter Tryz.func23, Tryz.ntmps23
  go_wp2
  · go_ret
    exact ⟨⟨_, rfl, by omega, fun h => by omega⟩, rfl⟩
  · go_loop [1, 5] (fun t i => ∃ (k : Nat) (q : Int), k ≤ l.length ∧ i = .int .i64 k ∧ t = .int .i64 q ∧ 0 ≤ q ∧ q ≤ 1048576 ∧ Hid (∀ j, j < k → (keyAt l j).size ≤ 1048576)) (fun _ i => l.length - (intOf i).toNat)
    case atStart => exact ⟨0, _, Nat.zero_le _, rfl, rfl, by omega, by omega, fun j hj => by omega⟩
    case round =>
      obtain ⟨k, q, hk, rfl, rfl, hq0, hq1, HS⟩ := hrel
      by_cases hlt : k < l.length
      · obtain ⟨b, o, rfl, _, hc⟩ := hcell (by omega)
        have hck := hc k hlt
        have hs := hsz k hlt
        clear hc hcell hsz
        go_wp2
        · go_ret
          exact ⟨⟨_, rfl, by omega, fun h => by omega⟩, rfl⟩
        · go_round
          case rel =>
            refine ⟨k + 1, _, by omega, by go_num, rfl, by omega, by omega, fun j hj => ?_⟩
            by_cases e : j = k
            · subst e; omega
            · exact HS.out j (by omega)
          case measure => simp [intOf]; omega
      · obtain rfl : k = l.length := by omega
        go_wp2
        go_ret
        exact ⟨⟨_, rfl, by omega, fun _ => ⟨by omega, HS.out⟩⟩, rfl⟩

set_option maxHeartbeats 800000 in
theorem szVNode_any (B : Nat) (x : VN) (ka ki : Value) (r : Int) (w : World) (h : RawIn B w x ka ki) (hB : B ≤ w.heap.size) (h1 : 0 ≤ r) (h2 : r ≤ 1048576) :
    Calls Tryz.prog 11 #[.agg #[.int .i64 x.kind, .int .i64 x.n, .string x.s, ka, ki], .int .i64 r] w fun e w' => (∃ q, e = .returned (.int .i64 q) ∧ q ≤ 1048576 ∧ (0 ≤ q → Small x)) ∧ Below w.heap.size w w' := by
  have hsz := h.size
  obtain ⟨_, _, a1, c1, e1, _⟩ := h.keys
  obtain ⟨_, _, a2, c2, e2, _⟩ := h.kids
  have hbel : ∀ (o : Obj), Below w.heap.size w (w.alloc o) := fun o => (Below.refl _ _).alloc (Nat.le_refl _) o
  have H := hideIt h
  subst e1 e2
  clear h
  go_enter Tryz.func11, Tryz.ntmps11
  go_wp2_with fail
  · go_ret
    exact ⟨⟨_, rfl, by omega, fun h => by omega⟩, hbel _⟩
  · refine (szStringS_any B _ _ _ _ (H.out.keys.below ((hbel _).mono hB)) (by omega) (by omega)).mono ?_
    rintro e w' ⟨⟨q, rfl, hq, hk⟩, rfl⟩
    have HK := hideIt hk
    have hle : (x.s.size : Int) ≤ 1048576 := by omega
    clear hk
    go_wp2_with fail
    · go_ret
      exact ⟨⟨_, rfl, by omega, fun h => by omega⟩, hbel _⟩
    · refine (szInt64S_any B _ _ _ _ (H.out.kids.below ((hbel _).mono hB)) (by omega) (by omega)).mono ?_
      rintro e w' ⟨⟨q', rfl, hq', hk'⟩, rfl⟩
      have HK' := hideIt hk'
      clear hk'
      have h0 : 0 ≤ q := by omega
      go_wp2_with fail
      · go_ret
        exact ⟨⟨_, rfl, by omega, fun h => by omega⟩, hbel _⟩
      · go_ret
        exact ⟨⟨_, rfl, by omega, fun h => ⟨by omega, (HK.out h0).1, (HK.out h0).2, HK'.out h⟩⟩, hbel _⟩

set_option maxHeartbeats 800000 in
theorem szVNodeS_any (B : Nat) (v : Value) (vs : List VN) (r : Int) (w : World) (h : RawNodes B w v vs) (hB : B ≤ w.heap.size) (h1 : 0 ≤ r) (h2 : r ≤ 1048576) :
    Calls Tryz.prog 4 #[v, .int .i64 r] w fun e w' => (∃ q, e = .returned (.int .i64 q) ∧ q ≤ 1048576 ∧ (0 ≤ q → vs.length ≤ 1048576 ∧ ∀ i, i < vs.length → Small (nodeAt vs i))) ∧ Below w.heap.size w w' := by
  obtain ⟨hlen, a, cap, rfl, hcell⟩ := h
  go_enter Tryz.func4, Tryz.ntmps4
  go_wp2_with fail
  · go_ret
    exact ⟨⟨_, rfl, by omega, fun h => by omega⟩, Below.refl _ _⟩
  · go_loopw [1, 5] (fun t i wr => ∃ (k : Nat) (q : Int), k ≤ vs.length ∧ i = .int .i64 k ∧ t = .int .i64 q ∧ 0 ≤ q ∧ q ≤ 1048576 ∧ Hid (∀ j, j < k → Small (nodeAt vs j)) ∧ Below w.heap.size w wr) (fun _ i _ => vs.length - (intOf i).toNat)
    case atStart => exact ⟨0, _, Nat.zero_le _, rfl, rfl, by omega, by omega, fun j hj => by omega, Below.refl _ _⟩
    case round =>
      obtain ⟨k, q, hk, rfl, rfl, hq0, hq1, HS, hbel⟩ := hrel
      by_cases hlt : k < vs.length
      · obtain ⟨b, o, rfl, hbB, hc⟩ := hcell (by omega)
        obtain ⟨ka, ki, hn⟩ := hc k hlt
        have hn' := hn.below (hbel.mono hB) hbB
        have c0 := hn'.c0
        have c1 := hn'.c1
        have c2 := hn'.c2
        have c3 := hn'.c3
        have c4 := hn'.c4
        have hin := hideIt hn'.inn
        have hsize := hbel.size
        clear hc hcell hn hn'
        go_wp2_with fail
        refine (szVNode_any B (nodeAt vs k) ka ki _ _ hin.out (by omega) (by omega) (by omega)).mono ?_
        rintro e w' ⟨⟨q', rfl, hq', hsm⟩, hb'⟩
        have hb2 : Below w.heap.size w w' := hbel.trans (hb'.mono hsize)
        have HM := hideIt hsm
        clear hsm
        go_wp2_with fail
        · go_ret
          exact ⟨⟨_, rfl, by omega, fun h => by omega⟩, hb2⟩
        · go_roundw
          case rel =>
            refine ⟨k + 1, _, by omega, by go_num, rfl, by omega, by omega, fun j hj => ?_, hb2⟩
            by_cases e : j = k
            · subst e; exact HM.out (by omega)
            · exact HS.out j (by omega)
          case measure => simp [intOf]; omega
      · obtain rfl : k = vs.length := by omega
        go_wp2_with fail
        go_ret
        exact ⟨⟨_, rfl, by omega, fun _ => ⟨by omega, HS.out⟩⟩, hbel⟩
end Go.Proofs.YtgmnihofkpjboaaGreatDoor

/-
  A call by an interface's method, by its contract, as a step of a statement whose order is open.
-/
namespace Go.Proofs.YtgmnihofkpjboaaGreatDoor
open Go.RowKit
set_option linter.unusedSimpArgs false
set_option linter.unusedVariables false

theorem step_invoke {P : Program} {w : World} {ops : Array Oper} {o : Oper} {a : Act} {K : Act → World → Prop} {Q : Exit → Act → World → Prop} {E : Prop} (hgd : o.guard = none) (x : Operand) (name : String)
    (ho : o.op = .call { callee := .invoke x name, args := #[], argTypes := #[] }) (t : TypeId) (v : Value) (hx : a.eval x = .iface t v) (F : FuncId) (hm : ∀ w, (Go.method (P.types.size + Made.depth) t v name).run P w = .ok (F, v) w)
    (hcf : ∀ w, (callFunc F #[v]).run P w = .ok (.enter F #[v]) w) {R : Ending → World → Prop} (hc : Calls P F #[v] w R)
    (h : ∀ e w', R e w' → ∃ u, e = .returned u ∧ K (a.put o.dst u) w') :
    if Region.wanted o (yielded ops a.tmps) = true then Oper.wp P o a w K Q else E := by
  have hw : Region.wanted o (yielded ops a.tmps) = true := by simp [Region.wanted, hgd]
  rw [if_pos hw]
  unfold Oper.wp execOp
  simp [ho, resolve, invoke, callMethod, hx, Deferred.ofValue, hcf, hm, Result.andThen, Oper.upon_enter]
  refine hc.mono fun e w' hr => ?_
  obtain ⟨u, rfl, hk⟩ := h e w' hr
  exact hk

/-- Two arguments, behind a guard. -/
theorem step_call2g {P : Program} {w : World} {ops : Array Oper} {o : Oper} {a : Act} {K : Act → World → Prop} {Q : Exit → Act → World → Prop} {E : Prop} (hw : Region.wanted o (yielded ops a.tmps) = true) (F : FuncId) (x y : Operand) (T U : TypeId)
    (ho : o.op = .call { callee := .value (.func F), args := #[x, y], argTypes := #[T, U] }) (v u : Value) (hx : a.eval x = v) (hy : a.eval y = u) (hcf : ∀ w, (callFunc F #[v, u]).run P w = .ok (.enter F #[v, u]) w) {R : Ending → World → Prop} (hc : Calls P F #[v, u] w R)
    (h : ∀ e w', R e w' → ∃ u, e = .returned u ∧ K (a.put o.dst u) w') :
    if Region.wanted o (yielded ops a.tmps) = true then Oper.wp P o a w K Q else E := by
  rw [if_pos hw]
  unfold Oper.wp execOp
  have e1 : a.eval (.func F) = .func (.func F) #[] #[] := rfl
  simp [ho, resolve, invoke, hx, hy, e1, Deferred.ofValue, hcf, Result.andThen, Oper.upon_enter]
  refine hc.mono fun e w' hr => ?_
  obtain ⟨u, rfl, hk⟩ := h e w' hr
  exact hk
end Go.Proofs.YtgmnihofkpjboaaGreatDoor
