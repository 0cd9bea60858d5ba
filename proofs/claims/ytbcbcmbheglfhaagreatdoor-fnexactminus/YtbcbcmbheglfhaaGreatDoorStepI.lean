/-
  impl.compared: two values of unlike kinds.
-/
import Derived.Test.YtbcbcmbheglfhaaGreatDoorCmpF
import Derived.Test.YtbcbcmbheglfhaaGreatDoorCmpE
import Derived.Test.YtbcbcmbheglfhaaGreatDoorStepN
import Derived.Test.YtbcbcmbheglfhaaGreatDoorProg
namespace Go.Proofs.YtbcbcmbheglfhaaGreatDoor
open Go.RowKit
set_option linter.unusedSimpArgs false
set_option linter.unusedVariables false

set_option maxRecDepth 100000 in
set_option maxHeartbeats 6400000 in
theorem compared_diff (lo B lo' B' f f' n m : Nat) (us vs : List VN) (v v' : Value) (w : World) (h1 : ValIs lo B w us f n v) (h2 : ValIs lo' B' w vs f' m v') (hne : (nodeAt us n).kind ≠ (nodeAt vs m).kind) :
    Calls Tryz.prog 78 #[v, v'] w fun e w' => e = .returned (.int .i64 (cmpI (nodeAt us n).kind (nodeAt vs m).kind)) ∧ Below w.heap.size w w' := by
  cases f with
  | zero => exact h1.elim
  | succ f =>
  cases f' with
  | zero => exact h2.elim
  | succ f' =>
  rcases h1 with ⟨k1, rfl⟩ | ⟨k1, rfl⟩ | ⟨k1, rfl⟩ | ⟨k1, rfl⟩ | ⟨k1, _, rfl, a1, p1, rfl, _⟩ | ⟨k1, _, _, rfl, ⟨_, _, b1, q1, rfl, _⟩, a1, p1, rfl, _⟩ <;>
  rcases h2 with ⟨k2, rfl⟩ | ⟨k2, rfl⟩ | ⟨k2, rfl⟩ | ⟨k2, rfl⟩ | ⟨k2, _, rfl, a2, p2, rfl, _⟩ | ⟨k2, _, _, rfl, ⟨_, _, b2, q2, rfl, _⟩, a2, p2, rfl, _⟩ <;>
  first
  | exact absurd (k1.trans k2.symm) hne
  | (rw [k1, k2]
     clear hne k1 k2
     go_enter Tryz.func78, Tryz.ntmps78
     go_wp2_with fail
     first | refine (kind1_any _).mono ?_ | refine (kind2_any _ _).mono ?_ | refine (kind3_any _ _).mono ?_ | refine (kind4_any _ _).mono ?_ | refine (kind5_any _ _ _ _).mono ?_ | refine (kind6_any _ _ _ _ _ _ _).mono ?_
     rintro e w1 ⟨rfl, hb1⟩
     go_wp2_with fail
     first | refine (kind1_any _).mono ?_ | refine (kind2_any _ _).mono ?_ | refine (kind3_any _ _).mono ?_ | refine (kind4_any _ _).mono ?_ | refine (kind5_any _ _ _ _).mono ?_ | refine (kind6_any _ _ _ _ _ _ _).mono ?_
     rintro e w2 ⟨rfl, hb2⟩
     go_wp2_with fail
     refine (cmpInt_any _ _ _).mono ?_
     rintro e w3 ⟨rfl, rfl⟩
     go_wp2_with fail
     go_ret
     exact ⟨rfl, hb1.trans (hb2.mono hb1.size)⟩)
end Go.Proofs.YtbcbcmbheglfhaaGreatDoor

/-
  impl.compared: the order of two right values.
-/
namespace Go.Proofs.YtbcbcmbheglfhaaGreatDoor
open Go.RowKit
set_option linter.unusedSimpArgs false
set_option linter.unusedVariables false

/-- What the order asks of the nodes alone. -/
structure FineU (us : List VN) : Prop where
  size : us.length ≤ 80
  nodes : ∀ k, k < us.length → nodeB (nodeAt us k) = true ∧ kidsIn us k = true
  few : ∀ k, k < us.length → (nodeAt us k).kids.length ≤ k

theorem fine_of {us : List VN} (h : okB us = true) : FineU us := by
  obtain ⟨h1, h2, _, h4⟩ := okB_parts h
  exact ⟨h1.2, h2, h4⟩

theorem FineU.kid {us : List VN} (h : FineU us) {n j : Nat} (hn : n < us.length) (hj : j < (nodeAt us n).kids.length) : (intAt (nodeAt us n).kids j).toNat < us.length := by
  have := kidsIn_get (h.nodes n hn).2 hj
  omega

theorem compared_any (us vs : List VN) (hu : FineU us) (hv : FineU vs) (lo B lo' B' : Nat) (hlo : lo ≤ B) (hlo' : lo' ≤ B') : ∀ f f' : Nat, CmpIH lo B lo' B' us vs f f' := by
  intro f
  induction f with
  | zero => intro f' n k v v' w _ _ h; exact h.elim
  | succ f ih =>
    intro f' n k v v' w hn hk h1 h2 hB hB'
    cases f' with
    | zero => exact h2.elim
    | succ f' =>
      have IH := ih f'
      have nx := (hu.nodes n hn).1
      have ny := (hv.nodes k hk).1
      by_cases hne : (nodeAt us n).kind = (nodeAt vs k).kind
      · have f1 := hu.few n hn
        have f2 := hv.few k hk
        have s1 := hu.size
        have s2 := hv.size
        have absurd2 : ∀ {a b : Int}, (nodeAt us n).kind = a → (nodeAt vs k).kind = b → a ≠ b → False := fun e1 e2 h => h (by omega)
        rcases h1 with ⟨k1, rfl⟩ | ⟨k1, rfl⟩ | ⟨k1, rfl⟩ | ⟨k1, rfl⟩ | ⟨k1, it, rfl, i1⟩ | ⟨k1, ks, it, rfl, g1, i1⟩
        · rcases h2 with ⟨k2, rfl⟩ | ⟨k2, _⟩ | ⟨k2, _⟩ | ⟨k2, _⟩ | ⟨k2, _⟩ | ⟨k2, _⟩
          · rw [ord_same nx ny k1 k2]; exact compared_null IH hlo hlo' w hB hB'
          all_goals exact (absurd2 k1 k2 (by decide)).elim
        · rcases h2 with ⟨k2, _⟩ | ⟨k2, rfl⟩ | ⟨k2, _⟩ | ⟨k2, _⟩ | ⟨k2, _⟩ | ⟨k2, _⟩
          · exact (absurd2 k1 k2 (by decide)).elim
          · rw [ord_same nx ny k1 k2]; exact compared_bool _ _ IH hlo hlo' w hB hB'
          all_goals exact (absurd2 k1 k2 (by decide)).elim
        · rcases h2 with ⟨k2, _⟩ | ⟨k2, _⟩ | ⟨k2, rfl⟩ | ⟨k2, _⟩ | ⟨k2, _⟩ | ⟨k2, _⟩
          · exact (absurd2 k1 k2 (by decide)).elim
          · exact (absurd2 k1 k2 (by decide)).elim
          · rw [ord_same nx ny k1 k2]; exact compared_int _ _ IH hlo hlo' w hB hB'
          all_goals exact (absurd2 k1 k2 (by decide)).elim
        · rcases h2 with ⟨k2, _⟩ | ⟨k2, _⟩ | ⟨k2, _⟩ | ⟨k2, rfl⟩ | ⟨k2, _⟩ | ⟨k2, _⟩
          · exact (absurd2 k1 k2 (by decide)).elim
          · exact (absurd2 k1 k2 (by decide)).elim
          · exact (absurd2 k1 k2 (by decide)).elim
          · rw [ord_same nx ny k1 k2]; exact compared_text _ _ IH hlo hlo' w hB hB'
          all_goals exact (absurd2 k1 k2 (by decide)).elim
        · rcases h2 with ⟨k2, _⟩ | ⟨k2, _⟩ | ⟨k2, _⟩ | ⟨k2, _⟩ | ⟨k2, it', rfl, i2⟩ | ⟨k2, _⟩
          · exact (absurd2 k1 k2 (by decide)).elim
          · exact (absurd2 k1 k2 (by decide)).elim
          · exact (absurd2 k1 k2 (by decide)).elim
          · exact (absurd2 k1 k2 (by decide)).elim
          · have hr : ord us vs (f + 1) n k = cmpKids (fun a b => ord us vs f a.toNat b.toNat) (nodeAt us n).kids (nodeAt vs k).kids := by
              rw [ord_same nx ny k1 k2, zeroK nx (by omega), zeroK ny (by omega)]; rfl
            rw [hr]
            exact compared_list _ _ _ _ IH hlo hlo' w hB hB' i1 i2 (by omega) (by omega) (fun j hj => hu.kid hn hj) (fun j hj => hv.kid hk hj)
          · exact (absurd2 k1 k2 (by decide)).elim
        · rcases h2 with ⟨k2, _⟩ | ⟨k2, _⟩ | ⟨k2, _⟩ | ⟨k2, _⟩ | ⟨k2, _⟩ | ⟨k2, ks', it', rfl, g2, i2⟩
          · exact (absurd2 k1 k2 (by decide)).elim
          · exact (absurd2 k1 k2 (by decide)).elim
          · exact (absurd2 k1 k2 (by decide)).elim
          · exact (absurd2 k1 k2 (by decide)).elim
          · exact (absurd2 k1 k2 (by decide)).elim
          · have hr : ord us vs (f + 1) n k = if cmpKeys (nodeAt us n).keys (nodeAt vs k).keys ≠ 0 then cmpKeys (nodeAt us n).keys (nodeAt vs k).keys else cmpKids (fun a b => ord us vs f a.toNat b.toNat) (nodeAt us n).kids (nodeAt vs k).kids := by
              rw [ord_same nx ny k1 k2]; rfl
            rw [hr]
            exact compared_map _ _ _ _ _ _ _ _ IH hlo hlo' w hB hB' g1 g2 i1 i2 (by omega) (by omega) (fun j hj => hu.kid hn hj) (fun j hj => hv.kid hk hj)
      · have hr : ord us vs (f + 1) n k = cmpI (nodeAt us n).kind (nodeAt vs k).kind := by rw [ord, if_pos hne]
        rw [hr]
        exact compared_diff lo B lo' B' (f + 1) (f' + 1) n k us vs v v' w h1 h2 hne
end Go.Proofs.YtbcbcmbheglfhaaGreatDoor

/-
  A call by an interface's method, by its contract, as a step of a statement whose order is open.
-/
namespace Go.Proofs.YtbcbcmbheglfhaaGreatDoor
open Go.RowKit
set_option linter.unusedSimpArgs false
set_option linter.unusedVariables false

theorem step_invoke {P : Program} {w : World} {ops : Array Oper} {o : Oper} {a : Act} {K : Act → World → Prop} {Q : Exit → Act → World → Prop} {E : Prop} (hgd : o.guard = none) (x : Operand) (name : String)
    (ho : o.op = .call { callee := .invoke x name, args := #[], argTypes := #[] }) (t : TypeId) (v : Value) (hx : a.eval x = .iface t v) (F : FuncId) (hm : ∀ w, (Go.method (P.types.size + Made.depth) t v name).run P w = .ok (F, v) w)
    (hcf : ∀ w, (callFunc F #[v]).run P w = .ok (.enter F #[v]) w) {R : Ending → World → Prop} (hc : Calls P F #[v] w R)
    (h : ∀ e w', R e w' → ∃ u, e = .returned u ∧ K (a.put o.dst u) w') :
    if Region.wanted o (yielded ops a.tmps) = true then Oper.wp P o a w K Q else E := by
  have hw : Region.wanted o (yielded ops a.tmps) = true := by simp [Region.wanted, hgd]
  rw [if_pos hw]
  unfold Oper.wp execOp
  simp [ho, resolve, invoke, callMethod, hx, Deferred.ofValue, hcf, hm, Result.andThen, Oper.upon_enter]
  refine hc.mono fun e w' hr => ?_
  obtain ⟨u, rfl, hk⟩ := h e w' hr
  exact hk

/-- Two arguments, behind a guard. -/
theorem step_call2g {P : Program} {w : World} {ops : Array Oper} {o : Oper} {a : Act} {K : Act → World → Prop} {Q : Exit → Act → World → Prop} {E : Prop} (hw : Region.wanted o (yielded ops a.tmps) = true) (F : FuncId) (x y : Operand) (T U : TypeId)
    (ho : o.op = .call { callee := .value (.func F), args := #[x, y], argTypes := #[T, U] }) (v u : Value) (hx : a.eval x = v) (hy : a.eval y = u) (hcf : ∀ w, (callFunc F #[v, u]).run P w = .ok (.enter F #[v, u]) w) {R : Ending → World → Prop} (hc : Calls P F #[v, u] w R)
    (h : ∀ e w', R e w' → ∃ u, e = .returned u ∧ K (a.put o.dst u) w') :
    if Region.wanted o (yielded ops a.tmps) = true then Oper.wp P o a w K Q else E := by
  rw [if_pos hw]
  unfold Oper.wp execOp
  have e1 : a.eval (.func F) = .func (.func F) #[] #[] := rfl
  simp [ho, resolve, invoke, hx, hy, e1, Deferred.ofValue, hcf, Result.andThen, Oper.upon_enter]
  refine hc.mono fun e w' hr => ?_
  obtain ⟨u, rfl, hk⟩ := h e w' hr
  exact hk
end Go.Proofs.YtbcbcmbheglfhaaGreatDoor
