/-
  impl.LengthOf: a refusal with its code, or the length's node.
-/
import Derived.Test.YtfijafbpdlakaaaGreatDoorVAt
import Derived.Test.YtfijafbpdlakaaaGreatDoorWnM
import Derived.Test.YtfijafbpdlakaaaGreatDoorWn6
import Derived.Test.YtfijafbpdlakaaaGreatDoorEAs
import Derived.Test.YtfijafbpdlakaaaGreatDoorRows
import Derived.ProofKit
import Derived.LaidMore
import Derived.OpenShut
import Derived.ShutString
import Derived.ChangeOld
import Derived.Below
import Derived.LaidLaws
import Derived.LaidHandle
import Derived.Stop.Joined
import Derived.Stop.LaidErr
import Derived.Test.YtfijafbpdlakaaaGreatDoorWn1
import Derived.Deep.QuietTactic
import Derived.BigQuiet
import Derived.Stop.LaidTwo
import Derived.Test.YtfijafbpdlakaaaGreatDoorFlat
import Derived.Test.YtfijafbpdlakaaaGreatDoorProg
import Derived.Lib.Bytealg
import Derived.Laws.Cover1
import Derived.Laws.Externs
import Derived.KernelRfl
import Derived.Test.YtfijafbpdlakaaaGreatDoorVal
namespace Go.Proofs.YtfijafbpdlakaaaGreatDoor
open Go.RowKit
set_option linter.unusedSimpArgs false
set_option linter.unusedVariables false

/-- What the package's variables hold: the errors' own type, and some error. -/
structure Errs (w : World) : Prop where
  et : ErrT w
  kind : ∃ te xe, w.cell? ⟨0, 0, none⟩ = some (.iface te xe)

theorem cell_lt {w : World} {b o : Nat} {v : Value} (h : w.cell? ⟨b, o, none⟩ = some v) : b < w.heap.size := by
  rcases Nat.lt_or_ge b w.heap.size with h1 | h1
  · exact h1
  · simp [World.cell?, Array.getElem?_eq_none h1] at h

theorem Errs.below {w w' : World} (h : Errs w) (hb : Below w.heap.size w w') : Errs w' := by
  obtain ⟨te, xe, hk⟩ := h.kind
  exact ⟨h.et.below hb h.et.lt, ⟨te, xe, (below_cell hb (cell_lt hk)).trans hk⟩⟩

/-- A refusal with a code. -/
def Refuses (c : Int) (v : Value) : Prop := ∃ te xe, v = .iface 115 (.agg #[.int .i64 c, .iface te xe])

set_option maxHeartbeats 800000 in
theorem wrongKind_any (w : World) (h : Errs w) : Calls Tryz.prog 52 #[] w fun e w' => (∃ v, e = .returned v ∧ Refuses 2 v) ∧ w' = w := by
  obtain ⟨te, xe, hk⟩ := h.kind
  clear h
  go_enter Tryz.func52, Tryz.ntmps52
  go_wp2_with fail
  go_ret
  exact ⟨⟨_, rfl, te, xe, rfl⟩, rfl⟩

theorem ta_null_list (x : Value) (w : World) : (Instr.typeAssert (.iface 132 x) 54 91 true).run Tryz.prog w = .ok (.tuple #[.agg #[.slice none 0 0], .bool false]) w := by kernel_rfl

/-- What comes of a length. -/
def LenAns (o : Option Int) (e : Ending) : Prop := match o with
  | some n => e = .returned (.tuple #[.iface 86 (.agg #[.int .i64 n]), .nilIface])
  | none => ∃ v, e = .returned (.tuple #[.nilIface, v]) ∧ Refuses 2 v

/-- A number's tree is one node. -/
theorem lay_number (n : Int) : layT 1 (.mk 3 n ByteArray.empty [] []) 0 = leafN 3 n ByteArray.empty := by
  rfl

set_option maxRecDepth 100000 in
set_option maxHeartbeats 3200000 in
theorem nodesOr_no (c : Int) (u v : Value) (w : World) (hv : Refuses c v) (hu : u = .nilIface ∨ ∃ t x, u = .iface t x) (hE : Errs w) :
    Calls Tryz.prog 51 #[u, v] w fun e w' => e = .returned (.tuple #[.slice none 0 0, .int .i64 c]) ∧ Below w.heap.size w w' := by
  obtain ⟨te, xe, rfl⟩ := hv
  have HE := hideIt hE
  clear hE
  rcases hu with rfl | ⟨t, x, rfl⟩
  all_goals
    go_enter Tryz.func51, Tryz.ntmps51
    go_wp2_with fail
    refine (codeOf_hit c te xe w HE.out.et).mono ?_
    rintro e w1 ⟨rfl, hb⟩
    go_wp2_with fail
    go_ret2
    exact ⟨rfl, hb⟩

set_option maxRecDepth 100000 in
set_option maxHeartbeats 3200000 in
theorem nodesOr_yes (f : Nat) (t : VT) (x : Value) (ns : List VN) (w : World) (ht : TreeAt w.heap.size w f t x) (hns : layT f t 0 = ns) (hn : ns.length ≤ 100000) :
    Calls Tryz.prog 51 #[x, .nilIface] w fun e w' => ∃ r KV IV, e = .returned (.tuple #[r, .int .i64 0]) ∧ Nest w.heap.size w' r ns KV IV ∧ Below w.heap.size w w' := by
  obtain ⟨ty, xv, rfl⟩ : ∃ ty xv, x = .iface ty xv := by
    cases f with
    | zero => exact ht.elim
    | succ f =>
      obtain ⟨kind, n, s, keys, kids⟩ := t
      rcases ht with ⟨_, _, _, _, _, rfl⟩ | ⟨_, _, _, _, rfl⟩ | ⟨_, _, _, _, rfl⟩ | ⟨_, _, _, _, rfl⟩ | ⟨_, _, _, _, it, rfl, _⟩ | ⟨_, _, _, ks, it, rfl, _⟩ <;> exact ⟨_, _, rfl⟩
  have HT := hideIt ht
  have HNS := hideIt hns
  clear ht hns
  go_enter Tryz.func51, Tryz.ntmps51
  go_wp2_with fail
  refine (withNodes_any w.heap.size w.heap.size (Nat.le_refl _) f t (.iface ty xv) (.slice none 0 0) [] (fun _ => undef) (fun _ => undef) w (Nest.nil _ _ _ _) HT.out (Nat.le_refl _) (by rw [List.length_nil, HNS.out]; omega)).mono ?_
  rintro e w1 ⟨r, K, I, rfl, hl1⟩
  have hn1 : Nest w.heap.size w1 r ns K I := by have := hl1.1; rw [List.nil_append, List.length_nil, HNS.out] at this; exact this
  have hb1 : Below w.heap.size w w1 := (Below.refl _ _).grown hl1.2.1 (Nat.le_refl _) (fun k hk => by simp [Value.ownBlock] at hk)
  have HN1 := hideIt hn1
  have HB1 := hideIt hb1
  obtain ⟨ar, cr, er⟩ := own_slice hn1.row
  obtain ⟨N, hN⟩ : ∃ N, ns.length = N := ⟨_, rfl⟩
  rw [hN] at er
  subst er
  clear hn1 hb1 hN hl1
  go_wp2_with fail
  go_ret2
  exact ⟨_, K, I, rfl, HN1.out, HB1.out⟩

theorem len_nodeb {vs : List VN} (hok : okB vs = true) : (-1000000000000000 ≤ (rootN vs).n ∧ (rootN vs).n ≤ 1000000000000000) ∧ (rootN vs).s.size ≤ 1000000 := by
  obtain ⟨p1, p2, _, _⟩ := okB_parts hok
  have hn := (p2 (vs.length - 1) (by omega)).1
  change nodeB (rootN vs) = true at hn
  unfold nodeB at hn
  simp only [Bool.and_eq_true] at hn
  obtain ⟨h1, h2⟩ := hn
  unfold unnamedB at h1
  simp only [Bool.and_eq_true, Bool.not_eq_true', Bool.and_eq_false_iff, decide_eq_false_iff_not, Decidable.not_not, Nat.not_lt, Nat.le_zero, ne_eq] at h1
  obtain ⟨⟨⟨n1, n2⟩, _⟩, _⟩ := h1
  unfold namedB at h2
  constructor
  · rcases n1 with (h | h) | h
    · simp [h] at h2; omega
    · simp [h] at h2; omega
    · omega
  · rcases n2 with h | h
    · simp [h, textB] at h2; omega
    · have e : (rootN vs).s = ByteArray.empty := by
        cases hs : (rootN vs).s with | mk d => rw [hs, ByteArray.toList_eq] at h; simp at h; subst h; rfl
      rw [e]; decide

end Go.Proofs.YtfijafbpdlakaaaGreatDoor

/-
  What the listed variables give a walk: the errors' own type, and the errors of the program.
-/
namespace Go.Proofs.YtfijafbpdlakaaaGreatDoor
open Go.ChangeShapes Go.WideShapes Go.ChangeAt Go.RowKit
set_option linter.unusedVariables false

theorem ev_own : ownKnob Tryz.prog.godebug = none := by kernel_rfl
theorem ev_laidOut : laidOutB Tryz.prog = true := by kernel_rfl
theorem ev_et : Tryz.prog.globalNamed "errors.errorType" = some 2 := by kernel_rfl
theorem ev_gk : Tryz.prog.globalNamed "loop.example/g00345/impl.errKind" = some 0 := by kernel_rfl
theorem ev_gkType : (Tryz.prog.globals[0]?).map (·.type) = some 82 := by kernel_rfl
theorem ev_rt : (Tryz.prog.cutTypes.find? (·.1 == "internal/reflectlite.rtype")).map (·.2) = some 169 := by kernel_rfl
theorem ev_oneRow : ((List.range 216).filter fun t => Tryz.prog.rowNamed t [101, 114, 114, 111, 114]) = [82] := by kernel_rfl
theorem ev_size : Tryz.prog.types.size = 216 := by kernel_rfl
theorem ev_hdl : typeHandle Tryz.prog 82 = .pointer (some ⟨4, 82, none⟩) := by kernel_rfl
theorem ev_star : "*" ++ "errors.errorString" = "*errors.errorString" := by decide
theorem ev_row (u : TypeId) (h : Tryz.prog.typeName? 3 u = some "*errors.errorString") : u = 184 :=
  typeName_ptr_named (nm := "errors.errorString") (by rw [ev_star]; kernel_rfl) (by kernel_rfl) (by decide) u (by rw [ev_star]; exact h)
theorem ev_cellsE : Tryz.prog.cellsOf 204 = 1 := by kernel_rfl
theorem ev_cellsS : Tryz.prog.cellsOf 9 = 1 := by kernel_rfl

/-- What the handle's condition gives: the variable's one cell. -/
theorem ev_handle {W : World} (h : handlesMet Tryz.prog [("errors.errorType", Rows.laid_errors_errorType)] W) : ErrT W := by
  obtain ⟨name, u, ty, e1, e2, e3, e4, e5⟩ := h _ (List.mem_singleton.2 rfl)
  have en : name = [101, 114, 114, 111, 114] := (Option.some.inj e1).symm
  subst en
  obtain rfl := Option.some.inj (ev_rt.symm.trans e2)
  have hm : ty ∈ (List.range 216).filter fun t => Tryz.prog.rowNamed t [101, 114, 114, 111, 114] := List.mem_filter.2 ⟨List.mem_range.2 (by rw [← ev_size]; exact e3), e4⟩
  rw [ev_oneRow] at hm
  obtain rfl := List.mem_singleton.1 hm
  rw [ev_hdl] at e5
  unfold ErrT
  simpa using World.var?_cell ev_et e5 0

theorem ev_var_below {P : Program} {B g : Nat} {W W' : World} {n : String} {cs : Array Value} (h : Below B W W') (hg : P.globalNamed n = some g) (hgB : g < B) (hv : W.var? P n = some cs) : W'.var? P n = some cs := by
  unfold World.var? at hv ⊢
  simp only [hg, Option.bind_some] at hv ⊢
  rw [h.block g hgB]
  exact hv
end Go.Proofs.YtfijafbpdlakaaaGreatDoor

/-
  impl.rightNodes: the nodes of a value, if these are right.
-/
namespace Go.Proofs.YtfijafbpdlakaaaGreatDoor
open Go.RowKit
set_option linter.unusedSimpArgs false
set_option linter.unusedVariables false

theorem TreeAt.iface {B : Nat} {w : World} {f : Nat} {t : VT} {v : Value} (h : TreeAt B w f t v) : ∃ ty x, v = .iface ty x := by
  cases f with
  | zero => exact h.elim
  | succ f =>
    obtain ⟨kind, n, s, keys, kids⟩ := t
    rcases h with ⟨_, _, _, _, _, rfl⟩ | ⟨_, _, _, _, rfl⟩ | ⟨_, _, _, _, rfl⟩ | ⟨_, _, _, _, rfl⟩ | ⟨_, _, _, _, it, rfl, _⟩ | ⟨_, _, _, ks, it, rfl, _⟩ <;> exact ⟨_, _, rfl⟩

def rightNs (ns : List VN) : List VN := if okB ns = true then ns else []

set_option maxRecDepth 100000 in
set_option maxHeartbeats 3200000 in
theorem rightNodes_any (f : Nat) (t : VT) (x : Value) (ns : List VN) (w : World) (ht : TreeAt w.heap.size w f t x) (hns : layT f t 0 = ns) (hn : ns.length ≤ 100000) (hf : ∀ i, i < ns.length → Fits (nodeAt ns i)) :
    Calls Tryz.prog 75 #[x] w fun e w' => ∃ r base KV IV, e = .returned (.tuple #[r, .bool (okB ns)]) ∧ w.heap.size ≤ base ∧ base ≤ w'.heap.size ∧ Nest base w' r (rightNs ns) KV IV ∧ Below w.heap.size w w' := by
  obtain ⟨ty, xv, rfl⟩ := ht.iface
  have HT := hideIt ht
  have HNS := hideIt hns
  have HF := hideIt hf
  have HRN : Hid (rightNs ns = if okB ns = true then ns else []) := rfl
  clear ht hns hf
  go_enter Tryz.func75, Tryz.ntmps75
  go_wp2_with fail
  refine (withNodes_any w.heap.size w.heap.size (Nat.le_refl _) f t (.iface ty xv) (.slice none 0 0) [] (fun _ => undef) (fun _ => undef) w (Nest.nil _ _ _ _) HT.out (Nat.le_refl _) (by rw [List.length_nil, HNS.out]; omega)).mono ?_
  rintro e w1 ⟨r, K, I, rfl, hl1⟩
  have hn1 : Nest w.heap.size w1 r ns K I := by have := hl1.1; rw [List.nil_append, List.length_nil, HNS.out] at this; exact this
  have hb1 : Below w.heap.size w w1 := (Below.refl _ _).grown hl1.2.1 (Nat.le_refl _) (fun k hk => by simp [Value.ownBlock] at hk)
  have z1 := hb1.size
  have HN1 := hideIt hn1
  have HB1 := hideIt hb1
  obtain ⟨ar, cr, er⟩ := own_slice hn1.row
  obtain ⟨N, hN⟩ : ∃ N, ns.length = N := ⟨_, rfl⟩
  rw [hN] at er
  subst er
  clear hn1 hb1 hN hl1
  go_wp2_with fail
  refine (implOk_any w1.heap.size _ ns _ (HN1.out.nodes (by omega) HF.out) (Nat.le_refl _)).mono ?_
  rintro e w2 ⟨rfl, hb2⟩
  have z2 := hb2.size
  have HN2 := hideIt (HN1.out.below hb2)
  have HB2 := hideIt (HB1.out.trans (hb2.mono z1))
  clear hb2
  cases ok1 : okB ns
  · go_wp2_with fail
    go_ret2
    exact ⟨.slice none 0 0, w.heap.size, fun _ => undef, fun _ => undef, by rw [ok1]; rfl, Nat.le_refl _, by omega, by rw [HRN.out, ok1]; exact Nest.nil _ _ _ _, HB2.out⟩
  · go_wp2_with fail
    go_ret2
    exact ⟨.slice ar N cr, w.heap.size, K, I, by rw [ok1]; rfl, Nat.le_refl _, by omega, by rw [HRN.out, ok1]; exact HN2.out, HB2.out⟩
end Go.Proofs.YtfijafbpdlakaaaGreatDoor

/-
  The method kind of a value whose type is not known: by its contract.
-/
namespace Go.Proofs.YtfijafbpdlakaaaGreatDoor
open Go.RowKit
set_option linter.unusedSimpArgs false
set_option linter.unusedVariables false

/-- The value's kind, as its method says it. -/
structure KindIs (t : Nat) (x : Value) (F : FuncId) (k : Int) : Prop where
  meth : ∀ w, (Go.method 316 t x "loop.example/g00345/impl.kind").run Tryz.prog w = .ok (F, x) w
  enter : ∀ w, (callFunc F #[x]).run Tryz.prog w = .ok (.enter F #[x]) w
  says : ∀ w, Calls Tryz.prog F #[x] w fun e w' => e = .returned (.int .i64 k) ∧ Below w.heap.size w w'

theorem kindIs {lo B : Nat} {w : World} {vs : List VN} {f i : Nat} {v : Value} (h : ValIs lo B w vs f i v) : ∃ t x F, v = .iface t x ∧ KindIs t x F (nodeAt vs i).kind := by
  cases f with
  | zero => exact h.elim
  | succ f =>
    rcases h with ⟨k, rfl⟩ | ⟨k, rfl⟩ | ⟨k, rfl⟩ | ⟨k, rfl⟩ | ⟨k, it, rfl, hi⟩ | ⟨k, ks, it, rfl, hs, hi⟩
    · rw [k]; exact ⟨_, _, 154, rfl, fun w => by kernel_rfl, fun w => by kernel_rfl, fun w => kind1_any w⟩
    · rw [k]; exact ⟨_, _, 150, rfl, fun w => by kernel_rfl, fun w => by kernel_rfl, fun w => kind2_any _ w⟩
    · rw [k]; exact ⟨_, _, 142, rfl, fun w => by kernel_rfl, fun w => by kernel_rfl, fun w => kind3_any _ w⟩
    · rw [k]; exact ⟨_, _, 144, rfl, fun w => by kernel_rfl, fun w => by kernel_rfl, fun w => kind4_any _ w⟩
    · obtain ⟨a, c, rfl, _⟩ := hi
      rw [k]; exact ⟨_, _, 146, rfl, fun w => by kernel_rfl, fun w => by kernel_rfl, fun w => kind5_any _ _ _ w⟩
    · obtain ⟨a, c, rfl, _⟩ := hi
      obtain ⟨_, _, a', c', rfl, _⟩ := hs
      rw [k]; exact ⟨_, _, 148, rfl, fun w => by kernel_rfl, fun w => by kernel_rfl, fun w => kind6_any _ _ _ _ _ _ w⟩
end Go.Proofs.YtfijafbpdlakaaaGreatDoor

/-
  impl.unlessWrong, and what a merger answers.
-/
namespace Go.Proofs.YtfijafbpdlakaaaGreatDoor
open Go.RowKit
set_option linter.unusedSimpArgs false
set_option linter.unusedVariables false

theorem ta_bool_int (x : Value) (w : World) : (Instr.typeAssert (.iface 105 x) 54 86 true).run Tryz.prog w = .ok (.tuple #[.agg #[.int .i64 0], .bool false]) w := by kernel_rfl
theorem ta_bool_list (x : Value) (w : World) : (Instr.typeAssert (.iface 105 x) 54 91 true).run Tryz.prog w = .ok (.tuple #[.agg #[.slice none 0 0], .bool false]) w := by kernel_rfl
theorem ta_text_list (x : Value) (w : World) : (Instr.typeAssert (.iface 89 x) 54 91 true).run Tryz.prog w = .ok (.tuple #[.agg #[.slice none 0 0], .bool false]) w := by kernel_rfl
theorem ta_map_list (x : Value) (w : World) : (Instr.typeAssert (.iface 94 x) 54 91 true).run Tryz.prog w = .ok (.tuple #[.agg #[.slice none 0 0], .bool false]) w := by kernel_rfl
theorem ta_int_list (x : Value) (w : World) : (Instr.typeAssert (.iface 86 x) 54 91 true).run Tryz.prog w = .ok (.tuple #[.agg #[.slice none 0 0], .bool false]) w := by kernel_rfl
theorem ta_list_list (x : Value) (w : World) : (Instr.typeAssert (.iface 91 x) 54 91 true).run Tryz.prog w = .ok (.tuple #[x, .bool true]) w := by kernel_rfl

/-- What the package's variables hold, with the error for what is not right. -/
structure Errs2 (w : World) : Prop where
  errs : Errs w
  right : ∃ te xe, w.cell? ⟨1, 0, none⟩ = some (.iface te xe)

theorem Errs2.below {w w' : World} (h : Errs2 w) (hb : Below w.heap.size w w') : Errs2 w' := by
  obtain ⟨te, xe, hk⟩ := h.right
  exact ⟨h.errs.below hb, ⟨te, xe, (below_cell hb (cell_lt hk)).trans hk⟩⟩

/-- What a merger answers: a value with these nodes, or a refusal with this code. -/
def MergeAns (c : Int) (ns : List VN) (e : Ending) (w : World) : Prop :=
  (c = 0 ∧ ∃ f t ty xv, e = .returned (.tuple #[.iface ty xv, .nilIface]) ∧ TreeAt w.heap.size w f t (.iface ty xv) ∧ layT f t 0 = ns) ∨
  (ns = [] ∧ ∃ v, e = .returned (.tuple #[.nilIface, v]) ∧ Refuses c v)

/-- The code for nodes that may be not right. -/
def rightC (ns : List VN) : Int := if okB ns = true then 0 else 3

set_option maxRecDepth 100000 in
set_option maxHeartbeats 1600000 in
theorem unlessWrong_yes (f : Nat) (t : VT) (x : Value) (ns : List VN) (w : World) (ht : TreeAt w.heap.size w f t x) (hns : layT f t 0 = ns) (hn : ns.length ≤ 100000) (hf : ∀ i, i < ns.length → Fits (nodeAt ns i)) (hE : Errs2 w) (ok : okB ns = true) :
    Calls Tryz.prog 53 #[x] w fun e w' => e = .returned (.tuple #[x, .nilIface]) ∧ Below w.heap.size w w' := by
  obtain ⟨ty, xv, rfl⟩ := ht.iface
  have HT := hideIt ht
  have HNS := hideIt hns
  have HF := hideIt hf
  have HE := hideIt hE
  clear ht hns hf hE
  go_enter Tryz.func53, Tryz.ntmps53
  go_wp2_with fail
  refine (rightNodes_any f t _ ns w HT.out HNS.out hn HF.out).mono ?_
  rintro e w1 ⟨r, base, KV, IV, rfl, _, _, hn1, hb1⟩
  have HB1 := hideIt hb1
  have HE1 := hideIt (HE.out.below hb1)
  have HT1 := hideIt (TreeAt.keep (B' := w1.heap.size) (fun k hk => hb1.block k hk) hb1.size HT.out)
  obtain ⟨ar, cr, er⟩ := own_slice hn1.row
  obtain ⟨N, hN⟩ : ∃ N, (rightNs ns).length = N := ⟨_, rfl⟩
  rw [hN] at er
  subst er
  clear hn1 hb1 hN
  rw [ok]
  go_wp2_with fail
  go_ret2
  exact ⟨rfl, HB1.out⟩

set_option maxRecDepth 100000 in
set_option maxHeartbeats 1600000 in
theorem unlessWrong_no (f : Nat) (t : VT) (x : Value) (ns : List VN) (w : World) (ht : TreeAt w.heap.size w f t x) (hns : layT f t 0 = ns) (hn : ns.length ≤ 100000) (hf : ∀ i, i < ns.length → Fits (nodeAt ns i)) (hE : Errs2 w) (ok : okB ns = false) :
    Calls Tryz.prog 53 #[x] w fun e w' => ∃ te xe, e = .returned (.tuple #[.nilIface, .iface 115 (.agg #[.int .i64 3, .iface te xe])]) ∧ Below w.heap.size w w' := by
  obtain ⟨ty, xv, rfl⟩ := ht.iface
  have HT := hideIt ht
  have HNS := hideIt hns
  have HF := hideIt hf
  have HE := hideIt hE
  clear ht hns hf hE
  go_enter Tryz.func53, Tryz.ntmps53
  go_wp2_with fail
  refine (rightNodes_any f t _ ns w HT.out HNS.out hn HF.out).mono ?_
  rintro e w1 ⟨r, base, KV, IV, rfl, _, _, hn1, hb1⟩
  have HB1 := hideIt hb1
  have HE1 := hideIt (HE.out.below hb1)
  have HT1 := hideIt (TreeAt.keep (B' := w1.heap.size) (fun k hk => hb1.block k hk) hb1.size HT.out)
  obtain ⟨ar, cr, er⟩ := own_slice hn1.row
  obtain ⟨N, hN⟩ : ∃ N, (rightNs ns).length = N := ⟨_, rfl⟩
  rw [hN] at er
  subst er
  clear hn1 hb1 hN
  rw [ok]
  obtain ⟨te, xe, hk⟩ := HE1.out.right
  go_wp2_with fail
  go_quiet (fail)
  go_wp2_with fail
  go_ret2
  exact ⟨te, xe, rfl, below_drewN HB1.out nq⟩

theorem call_unless (v : Value) : ∀ w, (callFunc 53 #[v]).run Tryz.prog w = .ok (.enter 53 #[v]) w := fun w => by kernel_rfl
end Go.Proofs.YtfijafbpdlakaaaGreatDoor

/-
  What the listed variables give a walk, where there are two errors of the program.
-/
namespace Go.Proofs.YtfijafbpdlakaaaGreatDoor
open Go.ChangeShapes Go.WideShapes Go.ChangeAt Go.RowKit
set_option linter.unusedVariables false

theorem ev_gn : Tryz.prog.globalNamed "loop.example/g00345/impl.errNotRight" = some 1 := by kernel_rfl
theorem ev_gnType : (Tryz.prog.globals[1]?).map (·.type) = some 82 := by kernel_rfl

theorem ev_cell0 {W : World} {x : Addr} (h : W.var? Tryz.prog "loop.example/g00345/impl.errKind" = some #[.iface 184 (.pointer (some x))]) : W.cell? ⟨0, 0, none⟩ = some (.iface 184 (.pointer (some x))) := by simpa using World.var?_cell ev_gk h 0
theorem ev_cell1 {W : World} {x : Addr} (h : W.var? Tryz.prog "loop.example/g00345/impl.errNotRight" = some #[.iface 184 (.pointer (some x))]) : W.cell? ⟨1, 0, none⟩ = some (.iface 184 (.pointer (some x))) := by simpa using World.var?_cell ev_gn h 0

theorem ev_errs2 {W : World} (h : laidMet Tryz.prog [("loop.example/g00345/impl.errKind", Rows.laid_loop_example_g00345_impl_errKind), ("loop.example/g00345/impl.errNotRight", Rows.laid_loop_example_g00345_impl_errNotRight)] W) (hh : handlesMet Tryz.prog [("errors.errorType", Rows.laid_errors_errorType)] W) :
    Errs2 W ∧ ∃ x0 x1 : Addr, W.var? Tryz.prog "loop.example/g00345/impl.errKind" = some #[.iface 184 (.pointer (some x0))] ∧ W.var? Tryz.prog "loop.example/g00345/impl.errNotRight" = some #[.iface 184 (.pointer (some x1))] := by
  obtain ⟨x0, x1, s0, s1, c0, c1, t0, t1, hv0, hv1, _⟩ := laid_sentinels2 h ev_gk ev_gkType ev_gn ev_gnType Tryz.underlying82 ev_row Tryz.underlying184 Tryz.underlying204 rfl rfl Tryz.underlying9 ev_cellsE ev_cellsS
  exact ⟨⟨⟨ev_handle hh, ⟨_, _, ev_cell0 hv0⟩⟩, ⟨_, _, ev_cell1 hv1⟩⟩, x0, x1, hv0, hv1⟩

theorem ev_read2 {H : Type} (enc : TypeId × Value → H) {W : World} {x0 x1 : Addr} (h0 : W.var? Tryz.prog "loop.example/g00345/impl.errKind" = some #[.iface 184 (.pointer (some x0))]) (h1 : W.var? Tryz.prog "loop.example/g00345/impl.errNotRight" = some #[.iface 184 (.pointer (some x1))]) (sp : Nat → Bool) :
    DataW.TrodVars enc Tryz.prog W sp ["loop.example/g00345/impl.errKind", "loop.example/g00345/impl.errNotRight"] [tok enc (.iface 184 (.pointer (some x0))), tok enc (.iface 184 (.pointer (some x1)))] [.cell 0 0, .cell 1 0] :=
  Go.vars_read2 enc ev_gk ev_gkType Tryz.underlying82 h0 trivial ev_gn ev_gnType Tryz.underlying82 h1 trivial sp
end Go.Proofs.YtfijafbpdlakaaaGreatDoor

/-
  Comparing numbers, texts and lists of texts: the specification's functions and the library's answer alike.
-/
namespace Go.Proofs.YtfijafbpdlakaaaGreatDoor
open Go.RowKit
set_option linter.unusedSimpArgs false
set_option linter.unusedVariables false

def cmpI (a b : Int) : Int := if a < b then -1 else if b < a then 1 else 0
def cmpL (x y : List UInt8) : Int := Lib.compareBytes x y
def cmpS (a b : ByteArray) : Int := cmpL a.toList b.toList

theorem cmpL_nil : cmpL [] [] = 0 := rfl
theorem cmpL_cons (a b : UInt8) (x y : List UInt8) : cmpL (a :: x) (b :: y) = if a < b then -1 else if b < a then 1 else cmpL x y := by
  unfold cmpL; rw [Lib.compareBytes]

theorem cmpL_less : ∀ x y : List UInt8, Op.bytesLess x y = decide (cmpL x y = -1) := by
  intro x
  induction x with
  | nil => intro y; cases y <;> simp [Op.bytesLess, cmpL, Lib.compareBytes]
  | cons a x ih =>
    intro y
    cases y with
    | nil => simp [Op.bytesLess, cmpL, Lib.compareBytes]
    | cons b y =>
      rw [Op.bytesLess, cmpL_cons, ih]
      by_cases h1 : a < b
      · simp [h1]
      · by_cases h2 : b < a
        · have : (a == b) = false := by simp; intro e; subst e; exact h1 h2
          simp [h1, h2, this]
        · have : a = b := UInt8.le_antisymm (UInt8.not_lt.1 h2) (UInt8.not_lt.1 h1)
          simp [h1, h2, this]

theorem cmpL_zero : ∀ x y : List UInt8, cmpL x y = 0 ↔ x = y := by
  intro x
  induction x with
  | nil => intro y; cases y <;> simp [cmpL, Lib.compareBytes]
  | cons a x ih =>
    intro y
    cases y with
    | nil => simp [cmpL, Lib.compareBytes]
    | cons b y =>
      rw [cmpL_cons]
      by_cases h1 : a < b
      · simp [h1]; intro e; subst e; exact absurd h1 (UInt8.lt_irrefl a)
      · by_cases h2 : b < a
        · simp [h1, h2]; intro e; subst e; exact absurd h2 (UInt8.lt_irrefl a)
        · have : a = b := UInt8.le_antisymm (UInt8.not_lt.1 h2) (UInt8.not_lt.1 h1)
          simp [h1, h2, this, ih]

theorem cmpL_flip : ∀ x y : List UInt8, cmpL y x = -cmpL x y := by
  intro x
  induction x with
  | nil => intro y; cases y <;> simp [cmpL, Lib.compareBytes]
  | cons a x ih =>
    intro y
    cases y with
    | nil => simp [cmpL, Lib.compareBytes]
    | cons b y =>
      rw [cmpL_cons, cmpL_cons]
      by_cases h1 : a < b
      · have h2 : ¬ b < a := UInt8.not_lt.2 (UInt8.le_of_lt h1)
        simp [h1, h2]
      · by_cases h2 : b < a
        · simp [h1, h2]
        · simp [h1, h2, ih]

theorem cmpL_range : ∀ x y : List UInt8, cmpL x y = -1 ∨ cmpL x y = 0 ∨ cmpL x y = 1 := by
  intro x
  induction x with
  | nil => intro y; cases y <;> simp [cmpL, Lib.compareBytes]
  | cons a x ih =>
    intro y
    cases y with
    | nil => simp [cmpL, Lib.compareBytes]
    | cons b y =>
      rw [cmpL_cons]
      split
      · simp
      · split
        · simp
        · exact ih y

theorem cmpI_range (a b : Int) : cmpI a b = -1 ∨ cmpI a b = 0 ∨ cmpI a b = 1 := by unfold cmpI; split <;> (try split) <;> simp
theorem cmpI_zero (a b : Int) : cmpI a b = 0 ↔ a = b := by unfold cmpI; split <;> (try split) <;> simp <;> omega

/-- Lists, by the first part that differs, then by how many there are. -/
def cmpKeys : List ByteArray → List ByteArray → Int
  | [], [] => 0
  | [], _ :: _ => -1
  | _ :: _, [] => 1
  | a :: l, b :: m => if cmpS a b ≠ 0 then cmpS a b else cmpKeys l m

theorem cmpKeys_range : ∀ l m, cmpKeys l m = -1 ∨ cmpKeys l m = 0 ∨ cmpKeys l m = 1 := by
  intro l
  induction l with
  | nil => intro m; cases m <;> simp [cmpKeys]
  | cons a l ih =>
    intro m
    cases m with
    | nil => simp [cmpKeys]
    | cons b m =>
      rw [cmpKeys]
      split
      · exact cmpL_range _ _
      · exact ih m

set_option maxHeartbeats 400000 in
theorem l1Cmp_any (a b : Int) (w : World) : Calls Tryz.prog 99 #[.int .i64 a, .int .i64 b] w fun e w' => e = .returned (.int .i64 (cmpI a b)) ∧ w' = w := by
  by_cases h1 : a < b
  · go_enter Tryz.func99, Tryz.ntmps99
    go_wp2
    go_ret
    exact ⟨ret_int (by simp [cmpI, h1]), rfl⟩
  · by_cases h2 : b < a
    · go_enter Tryz.func99, Tryz.ntmps99
      go_wp2
      go_ret
      exact ⟨ret_int (by unfold cmpI; rw [if_neg (by omega), if_pos (by omega)]), rfl⟩
    · go_enter Tryz.func99, Tryz.ntmps99
      go_wp2
      go_ret
      exact ⟨ret_int (by unfold cmpI; rw [if_neg (by omega), if_neg (by omega)]), rfl⟩

theorem less_of {a b : ByteArray} (h : cmpS a b = -1) : Op.bytesLess a.toList b.toList = true := by rw [cmpL_less]; exact decide_eq_true h
theorem notless_of {a b : ByteArray} (h : cmpS a b ≠ -1) : Op.bytesLess a.toList b.toList = false := by rw [cmpL_less]; exact decide_eq_false h
theorem eq_of {a b : ByteArray} (h : cmpS a b = 0) : (a.toList == b.toList) = true := by rw [beq_iff_eq]; exact (cmpL_zero _ _).1 h
theorem ne_of {a b : ByteArray} (h : cmpS a b ≠ 0) : (a.toList == b.toList) = false := by rw [beq_eq_false_iff_ne]; exact fun e => h ((cmpL_zero _ _).2 e)

set_option maxHeartbeats 400000 in
theorem l1CmpText_any (a b : ByteArray) (w : World) : Calls Tryz.prog 100 #[.string a, .string b] w fun e w' => e = .returned (.int .i64 (cmpS a b)) ∧ w' = w := by
  have hr := cmpL_range a.toList b.toList
  by_cases h1 : cmpS a b = -1
  · have g1 := less_of h1
    have H := hideIt h1
    clear h1 hr
    go_enter Tryz.func100, Tryz.ntmps100
    go_wp2
    go_ret
    exact ⟨ret_int H.out.symm, rfl⟩
  · have g1 := notless_of h1
    by_cases h0 : cmpS a b = 0
    · have g2 := eq_of h0
      have H := hideIt h0
      clear h1 hr h0
      go_enter Tryz.func100, Tryz.ntmps100
      go_wp2
      go_ret
      exact ⟨ret_int H.out.symm, rfl⟩
    · have g2 := ne_of h0
      have H : Hid (cmpS a b = 1) := by rcases hr with h | h | h; exact absurd h h1; exact absurd h h0; exact h
      clear h1 hr h0
      go_enter Tryz.func100, Tryz.ntmps100
      go_wp2
      go_ret
      exact ⟨ret_int H.out.symm, rfl⟩

set_option maxHeartbeats 400000 in
theorem cmpInt_any (a b : Int) (w : World) : Calls Tryz.prog 96 #[.int .i64 a, .int .i64 b] w fun e w' => e = .returned (.int .i64 (cmpI a b)) ∧ w' = w := by
  have ha : (a != a) = false := by simp
  have hb : (b != b) = false := by simp
  by_cases h1 : a < b
  · go_enter Tryz.func96, Tryz.ntmps96
    go_wp2
    go_ret
    exact ⟨ret_int (by simp [cmpI, h1]), rfl⟩
  · by_cases h2 : b < a
    · go_enter Tryz.func96, Tryz.ntmps96
      go_wp2
      go_ret
      exact ⟨ret_int (by unfold cmpI; rw [if_neg (by omega), if_pos (by omega)]), rfl⟩
    · go_enter Tryz.func96, Tryz.ntmps96
      go_wp2
      go_ret
      exact ⟨ret_int (by unfold cmpI; rw [if_neg (by omega), if_neg (by omega)]), rfl⟩

set_option maxHeartbeats 400000 in
theorem cmpStr_any (a b : ByteArray) (w : World) : Calls Tryz.prog 113 #[.string a, .string b] w fun e w' => e = .returned (.int .i64 (cmpS a b)) ∧ w' = w := by
  have hr := cmpL_range a.toList b.toList
  have qa : (a.toList == a.toList) = true := by simp
  have qb : (b.toList == b.toList) = true := by simp
  by_cases h1 : cmpS a b = -1
  · have g1 := less_of h1
    have H := hideIt h1
    clear h1 hr
    go_enter Tryz.func113, Tryz.ntmps113
    go_wp2
    go_ret
    exact ⟨ret_int H.out.symm, rfl⟩
  · have g1 := notless_of h1
    by_cases h0 : cmpS a b = 0
    · have g2 := eq_of h0
      have H := hideIt h0
      clear h1 hr h0
      go_enter Tryz.func113, Tryz.ntmps113
      go_wp2
      go_ret
      exact ⟨ret_int H.out.symm, rfl⟩
    · have g2 := ne_of h0
      have H : Hid (cmpS a b = 1) := by rcases hr with h | h | h; exact absurd h h1; exact absurd h h0; exact h
      clear h1 hr h0
      go_enter Tryz.func113, Tryz.ntmps113
      go_wp2
      go_ret
      exact ⟨ret_int H.out.symm, rfl⟩

set_option maxHeartbeats 1000000 in
set_option maxRecDepth 100000 in
theorem compareString_any (a b : ByteArray) (w : World) : Calls Tryz.prog 111 #[.string a, .string b] w fun e w' => e = .returned (.int .i64 (cmpS a b)) ∧ w' = w := by
  go_enter Tryz.func111, Tryz.ntmps111
  go_wp2
  rw [run_callFunc_extern Tryz.func119 (by kernel_rfl) (by kernel_rfl) (by kernel_rfl) (e := Extern.BytealgCompare.compare) (by kernel_rfl), Lib.run_compareString]
  simp only [Result.andThen]
  rw [Oper.upon_value]
  go_wp2
  go_ret
  exact ⟨ret_int (by simp [cmpS, cmpL, ByteArray.toList_eq]), rfl⟩

set_option maxHeartbeats 1000000 in
theorem stringsCompare_any (a b : ByteArray) (w : World) : Calls Tryz.prog 94 #[.string a, .string b] w fun e w' => e = .returned (.int .i64 (cmpS a b)) ∧ w' = w := by
  go_enter Tryz.func94, Tryz.ntmps94
  go_wp2_with (go_at_call 111; refine (compareString_any _ _ _).mono ?_; rintro e w' ⟨rfl, rfl⟩)
  go_ret
  exact ⟨rfl, rfl⟩
end Go.Proofs.YtfijafbpdlakaaaGreatDoor

/-
  The order of two values, as a plain function of their nodes; lists of texts compared by the library.
-/
namespace Go.Proofs.YtfijafbpdlakaaaGreatDoor
open Go.RowKit
set_option linter.unusedSimpArgs false
set_option linter.unusedVariables false

theorem keyAt_get {l : List ByteArray} {j : Nat} (h : j < l.length) : keyAt l j = l[j] := by simp [keyAt, h]

theorem cmpKeys_step {l m : List ByteArray} {k : Nat} (h1 : k < l.length) (h2 : k < m.length) : cmpKeys (l.drop k) (m.drop k) = if cmpS (keyAt l k) (keyAt m k) ≠ 0 then cmpS (keyAt l k) (keyAt m k) else cmpKeys (l.drop (k + 1)) (m.drop (k + 1)) := by
  rw [List.drop_eq_getElem_cons h1, List.drop_eq_getElem_cons h2, cmpKeys, keyAt_get h1, keyAt_get h2]
theorem cmpKeys_more {l m : List ByteArray} {k : Nat} (h1 : k < l.length) (h2 : m.length ≤ k) : cmpKeys (l.drop k) (m.drop k) = 1 := by
  rw [List.drop_eq_getElem_cons h1, List.drop_of_length_le h2, cmpKeys]
theorem cmpKeys_less {l m : List ByteArray} {k : Nat} (h1 : l.length ≤ k) (h2 : k < m.length) : cmpKeys (l.drop k) (m.drop k) = -1 := by
  rw [List.drop_of_length_le h1, List.drop_eq_getElem_cons h2, cmpKeys]
theorem cmpKeys_end {l m : List ByteArray} {k : Nat} (h1 : l.length ≤ k) (h2 : m.length ≤ k) : cmpKeys (l.drop k) (m.drop k) = 0 := by
  rw [List.drop_of_length_le h1, List.drop_of_length_le h2, cmpKeys]

/-- Lists of kids, by the first two that differ, then by how many there are. -/
def cmpKids (R : Int → Int → Int) : List Int → List Int → Int
  | [], [] => 0
  | [], _ :: _ => -1
  | _ :: _, [] => 1
  | a :: l, b :: m => if R a b ≠ 0 then R a b else cmpKids R l m

theorem cmpKids_step {R : Int → Int → Int} {l m : List Int} {k : Nat} (h1 : k < l.length) (h2 : k < m.length) : cmpKids R (l.drop k) (m.drop k) = if R (intAt l k) (intAt m k) ≠ 0 then R (intAt l k) (intAt m k) else cmpKids R (l.drop (k + 1)) (m.drop (k + 1)) := by
  rw [List.drop_eq_getElem_cons h1, List.drop_eq_getElem_cons h2, cmpKids, intAt_get h1, intAt_get h2]
theorem cmpKids_more {R : Int → Int → Int} {l m : List Int} {k : Nat} (h1 : k < l.length) (h2 : m.length ≤ k) : cmpKids R (l.drop k) (m.drop k) = 1 := by
  rw [List.drop_eq_getElem_cons h1, List.drop_of_length_le h2, cmpKids]
theorem cmpKids_less {R : Int → Int → Int} {l m : List Int} {k : Nat} (h1 : l.length ≤ k) (h2 : k < m.length) : cmpKids R (l.drop k) (m.drop k) = -1 := by
  rw [List.drop_of_length_le h1, List.drop_eq_getElem_cons h2, cmpKids]
theorem cmpKids_end {R : Int → Int → Int} {l m : List Int} {k : Nat} (h1 : l.length ≤ k) (h2 : m.length ≤ k) : cmpKids R (l.drop k) (m.drop k) = 0 := by
  rw [List.drop_of_length_le h1, List.drop_of_length_le h2, cmpKids]

theorem cmpKids_range {R : Int → Int → Int} (hR : ∀ a b, -1 ≤ R a b ∧ R a b ≤ 1) : ∀ l m, -1 ≤ cmpKids R l m ∧ cmpKids R l m ≤ 1 := by
  intro l
  induction l with
  | nil => intro m; cases m <;> simp [cmpKids]
  | cons a l ih =>
    intro m
    cases m with
    | nil => simp [cmpKids]
    | cons b m =>
      rw [cmpKids]
      split
      · exact hR _ _
      · exact ih m

/-- By Kind; by N; by S; by the keys; by the kids. -/
def ord (us vs : List VN) : Nat → Nat → Nat → Int
  | 0, _, _ => 0
  | f + 1, n, m =>
    if (nodeAt us n).kind ≠ (nodeAt vs m).kind then cmpI (nodeAt us n).kind (nodeAt vs m).kind
    else if (nodeAt us n).n ≠ (nodeAt vs m).n then cmpI (nodeAt us n).n (nodeAt vs m).n
    else if cmpS (nodeAt us n).s (nodeAt vs m).s ≠ 0 then cmpS (nodeAt us n).s (nodeAt vs m).s
    else if cmpKeys (nodeAt us n).keys (nodeAt vs m).keys ≠ 0 then cmpKeys (nodeAt us n).keys (nodeAt vs m).keys
    else cmpKids (fun a b => ord us vs f a.toNat b.toNat) (nodeAt us n).kids (nodeAt vs m).kids

theorem ord_range (us vs : List VN) : ∀ f n m, -1 ≤ ord us vs f n m ∧ ord us vs f n m ≤ 1 := by
  intro f
  induction f with
  | zero => intro n m; simp [ord]
  | succ f ih =>
    intro n m
    rw [ord]
    split
    · rcases cmpI_range (nodeAt us n).kind (nodeAt vs m).kind with h | h | h <;> omega
    split
    · rcases cmpI_range (nodeAt us n).n (nodeAt vs m).n with h | h | h <;> omega
    split
    · rcases cmpL_range (nodeAt us n).s.toList (nodeAt vs m).s.toList with h | h | h <;> (unfold cmpS; omega)
    split
    · rcases cmpKeys_range (nodeAt us n).keys (nodeAt vs m).keys with h | h | h <;> omega
    · exact cmpKids_range (fun a b => ih _ _) _ _

set_option maxHeartbeats 1600000 in
theorem slicesCompare_any (B : Nat) (v1 v2 : Value) (l m : List ByteArray) (w : World) (h1 : StrsAt B w v1 l) (h2 : StrsAt B w v2 m) :
    Calls Tryz.prog 97 #[v1, v2] w fun e w' => e = .returned (.int .i64 (cmpKeys l m)) ∧ w' = w := by
  obtain ⟨hl1, _, a1, c1, rfl, hc1⟩ := h1
  obtain ⟨hl2, _, a2, c2, rfl, hc2⟩ := h2
  have HC1 := hideIt hc1
  have HC2 := hideIt hc2
  clear hc1 hc2
  go_enter Tryz.func97, Tryz.ntmps97
  go_wp2_with fail
  go_loopw [11] (fun i wr => ∃ k : Nat, k ≤ l.length ∧ i = .int .i64 k ∧ Hid (k ≤ m.length ∧ cmpKeys (l.drop k) (m.drop k) = cmpKeys l m) ∧ wr = w) (fun i _ => l.length - (intOf i).toNat)
  case atStart => exact ⟨0, Nat.zero_le _, rfl, ⟨Nat.zero_le _, by simp⟩, rfl⟩
  case round =>
    obtain ⟨k, hk, rfl, HE, rfl⟩ := hrel
    by_cases hlt : k < l.length
    · obtain ⟨b1, o1, rfl, _, d1⟩ := HC1.out (by omega)
      have e1 := d1 k hlt
      clear d1
      by_cases hlm : k < m.length
      · obtain ⟨b2, o2, rfl, _, d2⟩ := HC2.out (by omega)
        have e2 := d2 k hlm
        clear d2
        have hge : ¬ (m.length : Int) ≤ (k : Int) := by omega
        have HS := hideIt (cmpKeys_step hlt hlm)
        by_cases hz : cmpS (keyAt l k) (keyAt m k) = 0
        · have HZ := hideIt hz
          clear hz
          go_wp2_with fail
          refine (cmpStr_any _ _ _).mono ?_
          rintro e w1 ⟨rfl, rfl⟩
          rw [HZ.out]
          go_wp2_with fail
          go_roundw
          case rel => exact ⟨k + 1, by omega, by go_num, ⟨by omega, by rw [← HE.out.2, HS.out]; simp [HZ.out]⟩, by trivial⟩
          case measure => simp [intOf]; omega
        · have HZ : Hid (cmpKeys l m = cmpS (keyAt l k) (keyAt m k)) := by rw [Hid, ← HE.out.2, HS.out]; simp [hz]
          have hne : (cmpS (keyAt l k) (keyAt m k) != 0) = true := by simp [hz]
          clear hz
          go_wp2_with fail
          refine (cmpStr_any _ _ _).mono ?_
          rintro e w1 ⟨rfl, rfl⟩
          go_wp2_with fail
          go_ret
          exact ⟨ret_int HZ.out.symm, rfl⟩
      · have HZ : Hid (cmpKeys l m = 1) := by rw [Hid, ← HE.out.2, cmpKeys_more hlt (by omega)]
        have hge : (m.length : Int) ≤ (k : Int) := by omega
        go_wp2_with fail
        go_ret
        exact ⟨ret_int HZ.out.symm, rfl⟩
    · obtain rfl : k = l.length := by omega
      by_cases hlm : l.length < m.length
      · have HZ : Hid (cmpKeys l m = -1) := by rw [Hid, ← HE.out.2, cmpKeys_less (Nat.le_refl _) hlm]
        go_wp2_with fail
        go_ret
        exact ⟨ret_int HZ.out.symm, rfl⟩
      · have HZ : Hid (cmpKeys l m = 0) := by rw [Hid, ← HE.out.2, cmpKeys_end (Nat.le_refl _) (by omega)]
        go_wp2_with fail
        go_ret
        exact ⟨ret_int HZ.out.symm, rfl⟩
end Go.Proofs.YtfijafbpdlakaaaGreatDoor
