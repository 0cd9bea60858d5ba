/-
  impl.LengthOf: a refusal with its code, or the length's node.
-/
import Derived.Test.YtbcbcmbheglfhaaGreatDoorLenP
import Derived.Test.YtbcbcmbheglfhaaGreatDoorVOf
import Derived.Test.YtbcbcmbheglfhaaGreatDoorWn6
import Derived.Test.YtbcbcmbheglfhaaGreatDoorEAs
import Derived.Test.YtbcbcmbheglfhaaGreatDoorRows
import Derived.ProofKit
import Derived.LaidMore
import Derived.OpenShut
import Derived.ShutString
import Derived.ChangeOld
import Derived.Below
import Derived.LaidLaws
import Derived.LaidHandle
import Derived.Stop.Joined
import Derived.Stop.LaidErr
import Derived.Test.YtbcbcmbheglfhaaGreatDoorKp
namespace Go.Proofs.YtbcbcmbheglfhaaGreatDoor
open Go.RowKit
set_option linter.unusedSimpArgs false
set_option linter.unusedVariables false

/-- What the package's variables hold: the errors' own type, and some error. -/
structure Errs (w : World) : Prop where
  et : ErrT w
  kind : ∃ te xe, w.cell? ⟨0, 0, none⟩ = some (.iface te xe)

theorem cell_lt {w : World} {b o : Nat} {v : Value} (h : w.cell? ⟨b, o, none⟩ = some v) : b < w.heap.size := by
  rcases Nat.lt_or_ge b w.heap.size with h1 | h1
  · exact h1
  · simp [World.cell?, Array.getElem?_eq_none h1] at h

theorem Errs.below {w w' : World} (h : Errs w) (hb : Below w.heap.size w w') : Errs w' := by
  obtain ⟨te, xe, hk⟩ := h.kind
  exact ⟨h.et.below hb h.et.lt, ⟨te, xe, (below_cell hb (cell_lt hk)).trans hk⟩⟩

/-- A refusal with a code. -/
def Refuses (c : Int) (v : Value) : Prop := ∃ te xe, v = .iface 115 (.agg #[.int .i64 c, .iface te xe])

set_option maxHeartbeats 800000 in
theorem wrongKind_any (w : World) (h : Errs w) : Calls Tryz.prog 52 #[] w fun e w' => (∃ v, e = .returned v ∧ Refuses 2 v) ∧ w' = w := by
  obtain ⟨te, xe, hk⟩ := h.kind
  clear h
  go_enter Tryz.func52, Tryz.ntmps52
  go_wp2_with fail
  go_ret
  exact ⟨⟨_, rfl, te, xe, rfl⟩, rfl⟩

theorem ta_null_list (x : Value) (w : World) : (Instr.typeAssert (.iface 132 x) 61 84 true).run Tryz.prog w = .ok (.tuple #[.agg #[.slice none 0 0], .bool false]) w := by kernel_rfl

/-- What comes of a length. -/
def LenAns (o : Option Int) (e : Ending) : Prop := match o with
  | some n => e = .returned (.tuple #[.iface 81 (.agg #[.int .i64 n]), .nilIface])
  | none => ∃ v, e = .returned (.tuple #[.nilIface, v]) ∧ Refuses 2 v

/-- A number's tree is one node. -/
theorem lay_number (n : Int) : layT 1 (.mk 3 n ByteArray.empty [] []) 0 = leafN 3 n ByteArray.empty := by
  rfl

set_option maxRecDepth 100000 in
set_option maxHeartbeats 3200000 in
theorem nodesOr_no (c : Int) (u v : Value) (w : World) (hv : Refuses c v) (hu : u = .nilIface ∨ ∃ t x, u = .iface t x) (hE : Errs w) :
    Calls Tryz.prog 51 #[u, v] w fun e w' => e = .returned (.tuple #[.slice none 0 0, .int .i64 c]) ∧ Below w.heap.size w w' := by
  obtain ⟨te, xe, rfl⟩ := hv
  have HE := hideIt hE
  clear hE
  rcases hu with rfl | ⟨t, x, rfl⟩
  all_goals
    go_enter Tryz.func51, Tryz.ntmps51
    go_wp2_with fail
    refine (codeOf_hit c te xe w HE.out.et).mono ?_
    rintro e w1 ⟨rfl, hb⟩
    go_wp2_with fail
    go_ret2
    exact ⟨rfl, hb⟩

set_option maxRecDepth 100000 in
set_option maxHeartbeats 3200000 in
theorem nodesOr_yes (f : Nat) (t : VT) (x : Value) (ns : List VN) (w : World) (ht : TreeAt w.heap.size w f t x) (hns : layT f t 0 = ns) (hn : ns.length ≤ 100000) :
    Calls Tryz.prog 51 #[x, .nilIface] w fun e w' => ∃ r KV IV, e = .returned (.tuple #[r, .int .i64 0]) ∧ Nest w.heap.size w' r ns KV IV ∧ Below w.heap.size w w' := by
  obtain ⟨ty, xv, rfl⟩ : ∃ ty xv, x = .iface ty xv := by
    cases f with
    | zero => exact ht.elim
    | succ f =>
      obtain ⟨kind, n, s, keys, kids⟩ := t
      rcases ht with ⟨_, _, _, _, _, rfl⟩ | ⟨_, _, _, _, rfl⟩ | ⟨_, _, _, _, rfl⟩ | ⟨_, _, _, _, rfl⟩ | ⟨_, _, _, _, it, rfl, _⟩ | ⟨_, _, _, ks, it, rfl, _⟩ <;> exact ⟨_, _, rfl⟩
  have HT := hideIt ht
  have HNS := hideIt hns
  clear ht hns
  go_enter Tryz.func51, Tryz.ntmps51
  go_wp2_with fail
  refine (withNodes_any w.heap.size w.heap.size (Nat.le_refl _) f t (.iface ty xv) (.slice none 0 0) [] (fun _ => undef) (fun _ => undef) w (Nest.nil _ _ _ _) HT.out (Nat.le_refl _) (by rw [List.length_nil, HNS.out]; omega)).mono ?_
  rintro e w1 ⟨r, K, I, rfl, hl1⟩
  have hn1 : Nest w.heap.size w1 r ns K I := by have := hl1.1; rw [List.nil_append, List.length_nil, HNS.out] at this; exact this
  have hb1 : Below w.heap.size w w1 := (Below.refl _ _).grown hl1.2.1 (Nat.le_refl _) (fun k hk => by simp [Value.ownBlock] at hk)
  have HN1 := hideIt hn1
  have HB1 := hideIt hb1
  obtain ⟨ar, cr, er⟩ := own_slice hn1.row
  obtain ⟨N, hN⟩ : ∃ N, ns.length = N := ⟨_, rfl⟩
  rw [hN] at er
  subst er
  clear hn1 hb1 hN hl1
  go_wp2_with fail
  go_ret2
  exact ⟨_, K, I, rfl, HN1.out, HB1.out⟩

theorem len_nodeb {vs : List VN} (hok : okB vs = true) : (-1000000000000000 ≤ (rootN vs).n ∧ (rootN vs).n ≤ 1000000000000000) ∧ (rootN vs).s.size ≤ 1000000 := by
  obtain ⟨p1, p2, _, _⟩ := okB_parts hok
  have hn := (p2 (vs.length - 1) (by omega)).1
  change nodeB (rootN vs) = true at hn
  unfold nodeB at hn
  simp only [Bool.and_eq_true] at hn
  obtain ⟨h1, h2⟩ := hn
  unfold unnamedB at h1
  simp only [Bool.and_eq_true, Bool.not_eq_true', Bool.and_eq_false_iff, decide_eq_false_iff_not, Decidable.not_not, Nat.not_lt, Nat.le_zero, ne_eq] at h1
  obtain ⟨⟨⟨n1, n2⟩, _⟩, _⟩ := h1
  unfold namedB at h2
  constructor
  · rcases n1 with (h | h) | h
    · simp [h] at h2; omega
    · simp [h] at h2; omega
    · omega
  · rcases n2 with h | h
    · simp [h, textB] at h2; omega
    · have e : (rootN vs).s = ByteArray.empty := by
        cases hs : (rootN vs).s with | mk d => rw [hs, ByteArray.toList_eq] at h; simp at h; subst h; rfl
      rw [e]; decide

end Go.Proofs.YtbcbcmbheglfhaaGreatDoor

/-
  What the listed variables give a walk: the errors' own type, and the errors of the program.
-/
namespace Go.Proofs.YtbcbcmbheglfhaaGreatDoor
open Go.ChangeShapes Go.WideShapes Go.ChangeAt Go.RowKit
set_option linter.unusedVariables false

theorem ev_own : ownKnob Tryz.prog.godebug = none := by kernel_rfl
theorem ev_laidOut : laidOutB Tryz.prog = true := by kernel_rfl
theorem ev_et : Tryz.prog.globalNamed "errors.errorType" = some 2 := by kernel_rfl
theorem ev_gk : Tryz.prog.globalNamed "loop.example/g00345/impl.errKind" = some 0 := by kernel_rfl
theorem ev_gkType : (Tryz.prog.globals[0]?).map (·.type) = some 76 := by kernel_rfl
theorem ev_rt : (Tryz.prog.cutTypes.find? (·.1 == "internal/reflectlite.rtype")).map (·.2) = some 169 := by kernel_rfl
theorem ev_oneRow : ((List.range 216).filter fun t => Tryz.prog.rowNamed t [101, 114, 114, 111, 114]) = [76] := by kernel_rfl
theorem ev_size : Tryz.prog.types.size = 216 := by kernel_rfl
theorem ev_hdl : typeHandle Tryz.prog 76 = .pointer (some ⟨4, 76, none⟩) := by kernel_rfl
theorem ev_star : "*" ++ "errors.errorString" = "*errors.errorString" := by decide
theorem ev_row (u : TypeId) (h : Tryz.prog.typeName? 3 u = some "*errors.errorString") : u = 184 :=
  typeName_ptr_named (nm := "errors.errorString") (by rw [ev_star]; kernel_rfl) (by kernel_rfl) (by decide) u (by rw [ev_star]; exact h)
theorem ev_cellsE : Tryz.prog.cellsOf 204 = 1 := by kernel_rfl
theorem ev_cellsS : Tryz.prog.cellsOf 9 = 1 := by kernel_rfl

/-- What the handle's condition gives: the variable's one cell. -/
theorem ev_handle {W : World} (h : handlesMet Tryz.prog [("errors.errorType", Rows.laid_errors_errorType)] W) : ErrT W := by
  obtain ⟨name, u, ty, e1, e2, e3, e4, e5⟩ := h _ (List.mem_singleton.2 rfl)
  have en : name = [101, 114, 114, 111, 114] := (Option.some.inj e1).symm
  subst en
  obtain rfl := Option.some.inj (ev_rt.symm.trans e2)
  have hm : ty ∈ (List.range 216).filter fun t => Tryz.prog.rowNamed t [101, 114, 114, 111, 114] := List.mem_filter.2 ⟨List.mem_range.2 (by rw [← ev_size]; exact e3), e4⟩
  rw [ev_oneRow] at hm
  obtain rfl := List.mem_singleton.1 hm
  rw [ev_hdl] at e5
  unfold ErrT
  simpa using World.var?_cell ev_et e5 0

theorem ev_var_below {P : Program} {B g : Nat} {W W' : World} {n : String} {cs : Array Value} (h : Below B W W') (hg : P.globalNamed n = some g) (hgB : g < B) (hv : W.var? P n = some cs) : W'.var? P n = some cs := by
  unfold World.var? at hv ⊢
  simp only [hg, Option.bind_some] at hv ⊢
  rw [h.block g hgB]
  exact hv
end Go.Proofs.YtbcbcmbheglfhaaGreatDoor

/-
  impl.rightNodes: the nodes of a value, if these are right.
-/
namespace Go.Proofs.YtbcbcmbheglfhaaGreatDoor
open Go.RowKit
set_option linter.unusedSimpArgs false
set_option linter.unusedVariables false

theorem TreeAt.iface {B : Nat} {w : World} {f : Nat} {t : VT} {v : Value} (h : TreeAt B w f t v) : ∃ ty x, v = .iface ty x := by
  cases f with
  | zero => exact h.elim
  | succ f =>
    obtain ⟨kind, n, s, keys, kids⟩ := t
    rcases h with ⟨_, _, _, _, _, rfl⟩ | ⟨_, _, _, _, rfl⟩ | ⟨_, _, _, _, rfl⟩ | ⟨_, _, _, _, rfl⟩ | ⟨_, _, _, _, it, rfl, _⟩ | ⟨_, _, _, ks, it, rfl, _⟩ <;> exact ⟨_, _, rfl⟩

def rightNs (ns : List VN) : List VN := if okB ns = true then ns else []

set_option maxRecDepth 100000 in
set_option maxHeartbeats 3200000 in
theorem rightNodes_any (f : Nat) (t : VT) (x : Value) (ns : List VN) (w : World) (ht : TreeAt w.heap.size w f t x) (hns : layT f t 0 = ns) (hn : ns.length ≤ 100000) (hf : ∀ i, i < ns.length → Fits (nodeAt ns i)) :
    Calls Tryz.prog 75 #[x] w fun e w' => ∃ r base KV IV, e = .returned (.tuple #[r, .bool (okB ns)]) ∧ w.heap.size ≤ base ∧ base ≤ w'.heap.size ∧ Nest base w' r (rightNs ns) KV IV ∧ Below w.heap.size w w' := by
  obtain ⟨ty, xv, rfl⟩ := ht.iface
  have HT := hideIt ht
  have HNS := hideIt hns
  have HF := hideIt hf
  have HRN : Hid (rightNs ns = if okB ns = true then ns else []) := rfl
  clear ht hns hf
  go_enter Tryz.func75, Tryz.ntmps75
  go_wp2_with fail
  refine (withNodes_any w.heap.size w.heap.size (Nat.le_refl _) f t (.iface ty xv) (.slice none 0 0) [] (fun _ => undef) (fun _ => undef) w (Nest.nil _ _ _ _) HT.out (Nat.le_refl _) (by rw [List.length_nil, HNS.out]; omega)).mono ?_
  rintro e w1 ⟨r, K, I, rfl, hl1⟩
  have hn1 : Nest w.heap.size w1 r ns K I := by have := hl1.1; rw [List.nil_append, List.length_nil, HNS.out] at this; exact this
  have hb1 : Below w.heap.size w w1 := (Below.refl _ _).grown hl1.2.1 (Nat.le_refl _) (fun k hk => by simp [Value.ownBlock] at hk)
  have z1 := hb1.size
  have HN1 := hideIt hn1
  have HB1 := hideIt hb1
  obtain ⟨ar, cr, er⟩ := own_slice hn1.row
  obtain ⟨N, hN⟩ : ∃ N, ns.length = N := ⟨_, rfl⟩
  rw [hN] at er
  subst er
  clear hn1 hb1 hN hl1
  go_wp2_with fail
  refine (implOk_any w1.heap.size _ ns _ (HN1.out.nodes (by omega) HF.out) (Nat.le_refl _)).mono ?_
  rintro e w2 ⟨rfl, hb2⟩
  have z2 := hb2.size
  have HN2 := hideIt (HN1.out.below hb2)
  have HB2 := hideIt (HB1.out.trans (hb2.mono z1))
  clear hb2
  cases ok1 : okB ns
  · go_wp2_with fail
    go_ret2
    exact ⟨.slice none 0 0, w.heap.size, fun _ => undef, fun _ => undef, by rw [ok1]; rfl, Nat.le_refl _, by omega, by rw [HRN.out, ok1]; exact Nest.nil _ _ _ _, HB2.out⟩
  · go_wp2_with fail
    go_ret2
    exact ⟨.slice ar N cr, w.heap.size, K, I, by rw [ok1]; rfl, Nat.le_refl _, by omega, by rw [HRN.out, ok1]; exact HN2.out, HB2.out⟩
end Go.Proofs.YtbcbcmbheglfhaaGreatDoor

/-
  The method kind of a value whose type is not known: by its contract.
-/
namespace Go.Proofs.YtbcbcmbheglfhaaGreatDoor
open Go.RowKit
set_option linter.unusedSimpArgs false
set_option linter.unusedVariables false

/-- The value's kind, as its method says it. -/
structure KindIs (t : Nat) (x : Value) (F : FuncId) (k : Int) : Prop where
  meth : ∀ w, (Go.method 316 t x "loop.example/g00345/impl.kind").run Tryz.prog w = .ok (F, x) w
  enter : ∀ w, (callFunc F #[x]).run Tryz.prog w = .ok (.enter F #[x]) w
  says : ∀ w, Calls Tryz.prog F #[x] w fun e w' => e = .returned (.int .i64 k) ∧ Below w.heap.size w w'

theorem kindIs {lo B : Nat} {w : World} {vs : List VN} {f i : Nat} {v : Value} (h : ValIs lo B w vs f i v) : ∃ t x F, v = .iface t x ∧ KindIs t x F (nodeAt vs i).kind := by
  cases f with
  | zero => exact h.elim
  | succ f =>
    rcases h with ⟨k, rfl⟩ | ⟨k, rfl⟩ | ⟨k, rfl⟩ | ⟨k, rfl⟩ | ⟨k, it, rfl, hi⟩ | ⟨k, ks, it, rfl, hs, hi⟩
    · rw [k]; exact ⟨_, _, 154, rfl, fun w => by kernel_rfl, fun w => by kernel_rfl, fun w => kind1_any w⟩
    · rw [k]; exact ⟨_, _, 150, rfl, fun w => by kernel_rfl, fun w => by kernel_rfl, fun w => kind2_any _ w⟩
    · rw [k]; exact ⟨_, _, 142, rfl, fun w => by kernel_rfl, fun w => by kernel_rfl, fun w => kind3_any _ w⟩
    · rw [k]; exact ⟨_, _, 146, rfl, fun w => by kernel_rfl, fun w => by kernel_rfl, fun w => kind4_any _ w⟩
    · obtain ⟨a, c, rfl, _⟩ := hi
      rw [k]; exact ⟨_, _, 144, rfl, fun w => by kernel_rfl, fun w => by kernel_rfl, fun w => kind5_any _ _ _ w⟩
    · obtain ⟨a, c, rfl, _⟩ := hi
      obtain ⟨_, _, a', c', rfl, _⟩ := hs
      rw [k]; exact ⟨_, _, 148, rfl, fun w => by kernel_rfl, fun w => by kernel_rfl, fun w => kind6_any _ _ _ _ _ _ w⟩
end Go.Proofs.YtbcbcmbheglfhaaGreatDoor
