/-
  impl.LengthOf: a refusal with its code, or the length's node.
-/
import Derived.Test.YtgmnihofkpjboaaGreatDoorPartOk
import Derived.Test.YtgmnihofkpjboaaGreatDoorRNodes
import Derived.Test.YtgmnihofkpjboaaGreatDoorWn6
import Derived.Test.YtgmnihofkpjboaaGreatDoorEAs
import Derived.Test.YtgmnihofkpjboaaGreatDoorKi
import Derived.Deep.QuietTactic
import Derived.BigQuiet
namespace Go.Proofs.YtgmnihofkpjboaaGreatDoor
open Go.RowKit
set_option linter.unusedSimpArgs false
set_option linter.unusedVariables false

/-- What the package's variables hold: the errors' own type, and some error. -/
structure Errs (w : World) : Prop where
  et : ErrT w
  kind : ∃ a0 : Addr, w.cell? ⟨0, 0, none⟩ = some (.iface 143 (.pointer (some a0))) ∧ ∃ cs t, w.heap[a0.block]? = some (.cells cs t (0, 0))

theorem cell_lt {w : World} {b o : Nat} {v : Value} (h : w.cell? ⟨b, o, none⟩ = some v) : b < w.heap.size := by
  rcases Nat.lt_or_ge b w.heap.size with h1 | h1
  · exact h1
  · simp [World.cell?, Array.getElem?_eq_none h1] at h

theorem lt_heapE {w : World} {b : Nat} {o : Obj} (h : w.heap[b]? = some o) : b < w.heap.size := by
  rcases Nat.lt_or_ge b w.heap.size with h' | h'
  · exact h'
  · simp [Array.getElem?_eq_none h'] at h

theorem Errs.below {w w' : World} (h : Errs w) (hb : Below w.heap.size w w') : Errs w' := by
  obtain ⟨a0, hk, cs, t, hh⟩ := h.kind
  exact ⟨h.et.below hb h.et.lt, ⟨a0, (below_cell hb (cell_lt hk)).trans hk, cs, t, (hb.block _ (lt_heapE hh)).trans hh⟩⟩

/-- A reason: the package's own for what is of a wrong kind, just where the code says so. -/
def Rsn (w : World) (c : Int) (te : TypeId) (xe : Value) : Prop := ∃ a a0 : Addr, te = 143 ∧ xe = .pointer (some a) ∧ w.cell? ⟨0, 0, none⟩ = some (.iface 143 (.pointer (some a0))) ∧ (c = 2 ↔ a = a0) ∧ (∃ cs t, w.heap[a.block]? = some (.cells cs t (0, 0))) ∧ ∃ cs t, w.heap[a0.block]? = some (.cells cs t (0, 0))
theorem Rsn.below {w w' : World} {c : Int} {te : TypeId} {xe : Value} (h : Rsn w c te xe) (hb : Below w.heap.size w w') : Rsn w' c te xe := by
  obtain ⟨a, a0, e1, e2, hk, hc, ⟨cs, t, h1⟩, cs0, t0, h0⟩ := h
  exact ⟨a, a0, e1, e2, (below_cell hb (cell_lt hk)).trans hk, hc, ⟨cs, t, (hb.block _ (lt_heapE h1)).trans h1⟩, cs0, t0, (hb.block _ (lt_heapE h0)).trans h0⟩
/-- A refusal with a code. -/
def Refuses (w : World) (c : Int) (v : Value) : Prop := ∃ te xe, v = .iface 87 (.agg #[.int .i64 c, .iface te xe]) ∧ Rsn w c te xe
theorem Refuses.below {w w' : World} {c : Int} {v : Value} (h : Refuses w c v) (hb : Below w.heap.size w w') : Refuses w' c v := by
  obtain ⟨te, xe, e, hr⟩ := h
  exact ⟨te, xe, e, hr.below hb⟩

set_option maxHeartbeats 800000 in
theorem wrongKind_any (w : World) (h : Errs w) : Calls Tryz.prog 37 #[] w fun e w' => (∃ v, e = .returned v ∧ Refuses w' 2 v) ∧ w' = w := by
  obtain ⟨a0, hk, cs, t, hh⟩ := h.kind
  have HR : Hid (Rsn w 2 143 (.pointer (some a0))) := ⟨a0, a0, rfl, rfl, hk, ⟨fun _ => rfl, fun _ => rfl⟩, ⟨cs, t, hh⟩, cs, t, hh⟩
  clear h hh
  go_enter Tryz.func37, Tryz.ntmps37
  go_wp2_with fail
  go_ret
  exact ⟨⟨_, rfl, _, _, rfl, HR.out⟩, rfl⟩

theorem ta_null_list (x : Value) (w : World) : (Instr.typeAssert (.iface 103 x) 59 73 true).run Tryz.prog w = .ok (.tuple #[.agg #[.slice none 0 0], .bool false]) w := by kernel_rfl

/-- What comes of a length. -/
def LenAns (w : World) (o : Option Int) (e : Ending) : Prop := match o with
  | some n => e = .returned (.tuple #[.iface 69 (.agg #[.int .i64 n]), .nilIface])
  | none => ∃ v, e = .returned (.tuple #[.nilIface, v]) ∧ Refuses w 2 v

/-- A number's tree is one node. -/
theorem lay_number (n : Int) : layT 1 (.mk 3 n ByteArray.empty [] []) 0 = leafN 3 n ByteArray.empty := by
  rfl

set_option maxRecDepth 100000 in
set_option maxHeartbeats 3200000 in
theorem nodesOr_no (c : Int) (u v : Value) (w : World) (hv : ∃ te xe, v = .iface 87 (.agg #[.int .i64 c, .iface te xe])) (hu : u = .nilIface ∨ ∃ t x, u = .iface t x) (hE : Errs w) :
    Calls Tryz.prog 36 #[u, v] w fun e w' => e = .returned (.tuple #[.slice none 0 0, .int .i64 c]) ∧ Below w.heap.size w w' := by
  obtain ⟨te, xe, rfl⟩ := hv
  have HE := hideIt hE
  clear hE
  rcases hu with rfl | ⟨t, x, rfl⟩
  all_goals
    go_enter Tryz.func36, Tryz.ntmps36
    go_wp2_with fail
    refine (codeOf_hit c te xe w HE.out.et).mono ?_
    rintro e w1 ⟨rfl, hb⟩
    go_wp2_with fail
    go_ret2
    exact ⟨rfl, hb⟩

set_option maxRecDepth 100000 in
set_option maxHeartbeats 3200000 in
theorem nodesOr_yes (f : Nat) (t : VT) (x : Value) (ns : List VN) (w : World) (ht : TreeAt w.heap.size w f t x) (hns : layT f t 0 = ns) (hn : ns.length ≤ 100000) :
    Calls Tryz.prog 36 #[x, .nilIface] w fun e w' => ∃ r KV IV, e = .returned (.tuple #[r, .int .i64 0]) ∧ Nest w.heap.size w' r ns KV IV ∧ Below w.heap.size w w' := by
  obtain ⟨ty, xv, rfl⟩ : ∃ ty xv, x = .iface ty xv := by
    cases f with
    | zero => exact ht.elim
    | succ f =>
      obtain ⟨kind, n, s, keys, kids⟩ := t
      rcases ht with ⟨_, _, _, _, _, rfl⟩ | ⟨_, _, _, _, rfl⟩ | ⟨_, _, _, _, rfl⟩ | ⟨_, _, _, _, rfl⟩ | ⟨_, _, _, _, it, rfl, _⟩ | ⟨_, _, _, ks, it, rfl, _⟩ <;> exact ⟨_, _, rfl⟩
  have HT := hideIt ht
  have HNS := hideIt hns
  clear ht hns
  go_enter Tryz.func36, Tryz.ntmps36
  go_wp2_with fail
  refine (withNodes_any w.heap.size w.heap.size (Nat.le_refl _) f t (.iface ty xv) (.slice none 0 0) [] (fun _ => undef) (fun _ => undef) w (Nest.nil _ _ _ _) HT.out (Nat.le_refl _) (by rw [List.length_nil, HNS.out]; omega)).mono ?_
  rintro e w1 ⟨r, K, I, rfl, hl1⟩
  have hn1 : Nest w.heap.size w1 r ns K I := by have := hl1.1; rw [List.nil_append, List.length_nil, HNS.out] at this; exact this
  have hb1 : Below w.heap.size w w1 := (Below.refl _ _).grown hl1.2.1 (Nat.le_refl _) (fun k hk => by simp [Value.ownBlock] at hk)
  have HN1 := hideIt hn1
  have HB1 := hideIt hb1
  obtain ⟨ar, cr, er⟩ := own_slice hn1.row
  obtain ⟨N, hN⟩ : ∃ N, ns.length = N := ⟨_, rfl⟩
  rw [hN] at er
  subst er
  clear hn1 hb1 hN hl1
  go_wp2_with fail
  go_ret2
  exact ⟨_, K, I, rfl, HN1.out, HB1.out⟩

theorem len_nodeb {vs : List VN} (hok : okB vs = true) : (-1000000000000000 ≤ (rootN vs).n ∧ (rootN vs).n ≤ 1000000000000000) ∧ (rootN vs).s.size ≤ 1000000 := by
  obtain ⟨p1, p2, _, _⟩ := okB_parts hok
  have hn := (p2 (vs.length - 1) (by omega)).1
  change nodeB (rootN vs) = true at hn
  unfold nodeB at hn
  simp only [Bool.and_eq_true] at hn
  obtain ⟨h1, h2⟩ := hn
  unfold unnamedB at h1
  simp only [Bool.and_eq_true, Bool.not_eq_true', Bool.and_eq_false_iff, decide_eq_false_iff_not, Decidable.not_not, Nat.not_lt, Nat.le_zero, ne_eq] at h1
  obtain ⟨⟨⟨n1, n2⟩, _⟩, _⟩ := h1
  unfold namedB at h2
  constructor
  · rcases n1 with (h | h) | h
    · simp [h] at h2; omega
    · simp [h] at h2; omega
    · omega
  · rcases n2 with h | h
    · simp [h, textB] at h2; omega
    · have e : (rootN vs).s = ByteArray.empty := by
        cases hs : (rootN vs).s with | mk d => rw [hs, ByteArray.toList_eq] at h; simp at h; subst h; rfl
      rw [e]; decide

end Go.Proofs.YtgmnihofkpjboaaGreatDoor

/-
  impl.unlessWrong, and what a merger answers.
-/
namespace Go.Proofs.YtgmnihofkpjboaaGreatDoor
open Go.RowKit
set_option linter.unusedSimpArgs false
set_option linter.unusedVariables false

theorem ta_bool_int (x : Value) (w : World) : (Instr.typeAssert (.iface 97 x) 59 69 true).run Tryz.prog w = .ok (.tuple #[.agg #[.int .i64 0], .bool false]) w := by kernel_rfl
theorem ta_bool_list (x : Value) (w : World) : (Instr.typeAssert (.iface 97 x) 59 73 true).run Tryz.prog w = .ok (.tuple #[.agg #[.slice none 0 0], .bool false]) w := by kernel_rfl
theorem ta_text_list (x : Value) (w : World) : (Instr.typeAssert (.iface 99 x) 59 73 true).run Tryz.prog w = .ok (.tuple #[.agg #[.slice none 0 0], .bool false]) w := by kernel_rfl
theorem ta_map_list (x : Value) (w : World) : (Instr.typeAssert (.iface 101 x) 59 73 true).run Tryz.prog w = .ok (.tuple #[.agg #[.slice none 0 0], .bool false]) w := by kernel_rfl
theorem ta_int_list (x : Value) (w : World) : (Instr.typeAssert (.iface 69 x) 59 73 true).run Tryz.prog w = .ok (.tuple #[.agg #[.slice none 0 0], .bool false]) w := by kernel_rfl
theorem ta_list_list (x : Value) (w : World) : (Instr.typeAssert (.iface 73 x) 59 73 true).run Tryz.prog w = .ok (.tuple #[x, .bool true]) w := by kernel_rfl

/-- What the package's variables hold, with the error for what is not right. -/
structure Errs2 (w : World) : Prop where
  errs : Errs w
  right : ∃ a a0 : Addr, w.cell? ⟨1, 0, none⟩ = some (.iface 143 (.pointer (some a))) ∧ w.cell? ⟨0, 0, none⟩ = some (.iface 143 (.pointer (some a0))) ∧ a ≠ a0 ∧ (∃ cs t, w.heap[a.block]? = some (.cells cs t (0, 0))) ∧ ∃ cs t, w.heap[a0.block]? = some (.cells cs t (0, 0))

theorem Errs2.below {w w' : World} (h : Errs2 w) (hb : Below w.heap.size w w') : Errs2 w' := by
  obtain ⟨a, a0, h1, h2, hne, ⟨cs, t, h3⟩, cs0, t0, h4⟩ := h.right
  exact ⟨h.errs.below hb, ⟨a, a0, (below_cell hb (cell_lt h1)).trans h1, (below_cell hb (cell_lt h2)).trans h2, hne, ⟨cs, t, (hb.block _ (lt_heapE h3)).trans h3⟩, cs0, t0, (hb.block _ (lt_heapE h4)).trans h4⟩⟩
/-- The reason for what is not right. -/
theorem Errs2.rsn {w : World} (h : Errs2 w) : ∃ a : Addr, w.cell? ⟨1, 0, none⟩ = some (.iface 143 (.pointer (some a))) ∧ Rsn w 3 143 (.pointer (some a)) := by
  obtain ⟨a, a0, h1, h2, hne, h3, h4⟩ := h.right
  exact ⟨a, h1, a, a0, rfl, rfl, h2, ⟨fun e => absurd e (by decide), fun e => absurd e hne⟩, h3, h4⟩

/-- What a merger answers: a value with these nodes, or a refusal with this code. -/
def MergeAns (c : Int) (ns : List VN) (e : Ending) (w : World) : Prop :=
  (c = 0 ∧ ∃ f t ty xv, e = .returned (.tuple #[.iface ty xv, .nilIface]) ∧ TreeAt w.heap.size w f t (.iface ty xv) ∧ layT f t 0 = ns) ∨
  (ns = [] ∧ ∃ v, e = .returned (.tuple #[.nilIface, v]) ∧ Refuses w c v)

/-- The code for nodes that may be not right. -/
def rightC (ns : List VN) : Int := if okB ns = true then 0 else 3

set_option maxRecDepth 100000 in
set_option maxHeartbeats 1600000 in
theorem unlessWrong_yes (f : Nat) (t : VT) (x : Value) (ns : List VN) (w : World) (ht : TreeAt w.heap.size w f t x) (hns : layT f t 0 = ns) (hn : ns.length ≤ 100000) (hf : ∀ i, i < ns.length → Fits (nodeAt ns i)) (hE : Errs2 w) (ok : okB ns = true) :
    Calls Tryz.prog 38 #[x] w fun e w' => e = .returned (.tuple #[x, .nilIface]) ∧ Below w.heap.size w w' := by
  obtain ⟨ty, xv, rfl⟩ := ht.iface
  have HT := hideIt ht
  have HNS := hideIt hns
  have HF := hideIt hf
  have HE := hideIt hE
  clear ht hns hf hE
  go_enter Tryz.func38, Tryz.ntmps38
  go_wp2_with fail
  refine (rightNodes_any f t _ ns w HT.out HNS.out hn HF.out).mono ?_
  rintro e w1 ⟨r, base, KV, IV, rfl, _, _, hn1, hb1⟩
  have HB1 := hideIt hb1
  have HE1 := hideIt (HE.out.below hb1)
  have HT1 := hideIt (TreeAt.keep (B' := w1.heap.size) (fun k hk => hb1.block k hk) hb1.size HT.out)
  obtain ⟨ar, cr, er⟩ := own_slice hn1.row
  obtain ⟨N, hN⟩ : ∃ N, (rightNs ns).length = N := ⟨_, rfl⟩
  rw [hN] at er
  subst er
  clear hn1 hb1 hN
  rw [ok]
  go_wp2_with fail
  go_ret2
  exact ⟨rfl, HB1.out⟩

set_option maxRecDepth 100000 in
set_option maxHeartbeats 1600000 in
theorem unlessWrong_no (f : Nat) (t : VT) (x : Value) (ns : List VN) (w : World) (ht : TreeAt w.heap.size w f t x) (hns : layT f t 0 = ns) (hn : ns.length ≤ 100000) (hf : ∀ i, i < ns.length → Fits (nodeAt ns i)) (hE : Errs2 w) (ok : okB ns = false) :
    Calls Tryz.prog 38 #[x] w fun e w' => ∃ te xe, e = .returned (.tuple #[.nilIface, .iface 87 (.agg #[.int .i64 3, .iface te xe])]) ∧ Rsn w' 3 te xe ∧ Below w.heap.size w w' := by
  obtain ⟨ty, xv, rfl⟩ := ht.iface
  have HT := hideIt ht
  have HNS := hideIt hns
  have HF := hideIt hf
  have HE := hideIt hE
  clear ht hns hf hE
  go_enter Tryz.func38, Tryz.ntmps38
  go_wp2_with fail
  refine (rightNodes_any f t _ ns w HT.out HNS.out hn HF.out).mono ?_
  rintro e w1 ⟨r, base, KV, IV, rfl, _, _, hn1, hb1⟩
  have HB1 := hideIt hb1
  have HE1 := hideIt (HE.out.below hb1)
  have HT1 := hideIt (TreeAt.keep (B' := w1.heap.size) (fun k hk => hb1.block k hk) hb1.size HT.out)
  obtain ⟨ar, cr, er⟩ := own_slice hn1.row
  obtain ⟨N, hN⟩ : ∃ N, (rightNs ns).length = N := ⟨_, rfl⟩
  rw [hN] at er
  subst er
  clear hn1 hb1 hN
  rw [ok]
  obtain ⟨a, hk, hrs⟩ := HE1.out.rsn
  have HRS := hideIt hrs
  clear hrs
  go_wp2_with fail
  go_quiet (fail)
  go_wp2_with fail
  go_ret2
  exact ⟨_, _, rfl, HRS.out.below (below_drewN (Below.refl _ _) nq), below_drewN HB1.out nq⟩

theorem call_unless (v : Value) : ∀ w, (callFunc 38 #[v]).run Tryz.prog w = .ok (.enter 38 #[v]) w := fun w => by kernel_rfl
end Go.Proofs.YtgmnihofkpjboaaGreatDoor
