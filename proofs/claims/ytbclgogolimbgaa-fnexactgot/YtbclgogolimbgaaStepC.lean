/-
  What came in, before it is known how much it is: slices of numbers, texts and nodes of whatever length a slice may have.
-/
import Derived.Test.YtbclgogolimbgaaMem
import Derived.Deep.RegionLaw
import Derived.Deep.AppendLies
namespace Go.Proofs.Ytbclgogolimbgaa
open Go.RowKit
set_option linter.unusedSimpArgs false
set_option linter.unusedVariables false

def RawInts (B : Nat) (w : World) (v : Value) (l : List Int) : Prop :=
  l.length ≤ 9223372036854775807 ∧ (∀ i, i < l.length → -9223372036854775808 ≤ intAt l i ∧ intAt l i ≤ 9223372036854775807) ∧
  ∃ a cap, v = .slice a l.length cap ∧ (0 < l.length → ∃ b o, a = some ⟨b, o, none⟩ ∧ b < B ∧ ∀ i, i < l.length → w.cell? ⟨b, o + i, none⟩ = some (.int .i64 (intAt l i)))

def RawStrs (B : Nat) (w : World) (v : Value) (l : List ByteArray) : Prop :=
  l.length ≤ 9223372036854775807 ∧ (∀ i, i < l.length → (keyAt l i).size ≤ 9223372036854775807) ∧
  ∃ a cap, v = .slice a l.length cap ∧ (0 < l.length → ∃ b o, a = some ⟨b, o, none⟩ ∧ b < B ∧ ∀ i, i < l.length → w.cell? ⟨b, o + i, none⟩ = some (.string (keyAt l i)))

structure RawIn (B : Nat) (w : World) (x : VN) (ka ki : Value) : Prop where
  keys : RawStrs B w ka x.keys
  kids : RawInts B w ki x.kids
  size : x.s.size ≤ 9223372036854775807
  klo : -9223372036854775808 ≤ x.kind
  khi : x.kind ≤ 9223372036854775807
  nlo : -9223372036854775808 ≤ x.n
  nhi : x.n ≤ 9223372036854775807

structure RawAt (B : Nat) (w : World) (b o : Nat) (x : VN) (ka ki : Value) : Prop where
  c0 : w.cell? ⟨b, o, none⟩ = some (.int .i64 x.kind)
  c1 : w.cell? ⟨b, o + 1, none⟩ = some (.int .i64 x.n)
  c2 : w.cell? ⟨b, o + 2, none⟩ = some (.string x.s)
  c3 : w.cell? ⟨b, o + 3, none⟩ = some ka
  c4 : w.cell? ⟨b, o + 4, none⟩ = some ki
  inn : RawIn B w x ka ki

def RawNodes (B : Nat) (w : World) (v : Value) (vs : List VN) : Prop :=
  vs.length ≤ 9223372036854775807 ∧ ∃ a cap, v = .slice a vs.length cap ∧ (0 < vs.length → ∃ b o, a = some ⟨b, o, none⟩ ∧ b < B ∧ ∀ i, i < vs.length → ∃ ka ki, RawAt B w b (o + i * 5) (nodeAt vs i) ka ki)

/-- A node of at most 1048576 of everything. -/
structure Small (x : VN) : Prop where
  s : x.s.size ≤ 1048576
  kn : x.keys.length ≤ 1048576
  ks : ∀ i, i < x.keys.length → (keyAt x.keys i).size ≤ 1048576
  ki : x.kids.length ≤ 1048576

theorem RawInts.fit {B : Nat} {w : World} {v : Value} {l : List Int} (h : RawInts B w v l) (hs : l.length ≤ 1048576) : IntsAt B w v l := ⟨by omega, h.2.1, h.2.2⟩
theorem RawStrs.fit {B : Nat} {w : World} {v : Value} {l : List ByteArray} (h : RawStrs B w v l) (hs : l.length ≤ 1048576) (hk : ∀ i, i < l.length → (keyAt l i).size ≤ 1048576) : StrsAt B w v l :=
  ⟨by omega, fun i hi => by have := hk i hi; omega, h.2.2⟩
theorem RawIn.fit {B : Nat} {w : World} {x : VN} {ka ki : Value} (h : RawIn B w x ka ki) (hs : Small x) : NodeIn B w x ka ki :=
  ⟨h.keys.fit hs.kn hs.ks, h.kids.fit hs.ki, by have := hs.s; omega, h.klo, h.khi, h.nlo, h.nhi⟩
theorem RawNodes.fit {B : Nat} {w : World} {v : Value} {vs : List VN} (h : RawNodes B w v vs) (hn : vs.length ≤ 1048576) (hs : ∀ i, i < vs.length → Small (nodeAt vs i)) : NodesAt B w v vs := by
  obtain ⟨_, a, cap, e, h3⟩ := h
  refine ⟨by omega, a, cap, e, fun hl => ?_⟩
  obtain ⟨b, o, ea, hb, hc⟩ := h3 hl
  refine ⟨b, o, ea, hb, fun i hi => ?_⟩
  obtain ⟨ka, ki, hn'⟩ := hc i hi
  exact ⟨ka, ki, hn'.c0, hn'.c1, hn'.c2, hn'.c3, hn'.c4, hn'.inn.fit (hs i hi)⟩

theorem RawInts.below {B : Nat} {w w' : World} {v : Value} {l : List Int} (h : RawInts B w v l) (hb : Below B w w') : RawInts B w' v l := by
  obtain ⟨h1, h2, a, cap, e, h3⟩ := h
  refine ⟨h1, h2, a, cap, e, fun hl => ?_⟩
  obtain ⟨b, o, ea, hbB, hc⟩ := h3 hl
  exact ⟨b, o, ea, hbB, fun i hi => (below_cell hb hbB).trans (hc i hi)⟩
theorem RawStrs.below {B : Nat} {w w' : World} {v : Value} {l : List ByteArray} (h : RawStrs B w v l) (hb : Below B w w') : RawStrs B w' v l := by
  obtain ⟨h1, h2, a, cap, e, h3⟩ := h
  refine ⟨h1, h2, a, cap, e, fun hl => ?_⟩
  obtain ⟨b, o, ea, hbB, hc⟩ := h3 hl
  exact ⟨b, o, ea, hbB, fun i hi => (below_cell hb hbB).trans (hc i hi)⟩
theorem RawIn.below {B : Nat} {w w' : World} {x : VN} {ka ki : Value} (h : RawIn B w x ka ki) (hb : Below B w w') : RawIn B w' x ka ki :=
  { h with keys := h.keys.below hb, kids := h.kids.below hb }
theorem RawAt.below {B : Nat} {w w' : World} {b o : Nat} {x : VN} {ka ki : Value} (h : RawAt B w b o x ka ki) (hb : Below B w w') (hB : b < B) : RawAt B w' b o x ka ki :=
  ⟨(below_cell hb hB).trans h.c0, (below_cell hb hB).trans h.c1, (below_cell hb hB).trans h.c2, (below_cell hb hB).trans h.c3, (below_cell hb hB).trans h.c4, h.inn.below hb⟩
theorem RawNodes.below {B : Nat} {w w' : World} {v : Value} {vs : List VN} (h : RawNodes B w v vs) (hb : Below B w w') : RawNodes B w' v vs := by
  obtain ⟨h1, a, cap, e, h3⟩ := h
  refine ⟨h1, a, cap, e, fun hl => ?_⟩
  obtain ⟨b, o, ea, hbB, hc⟩ := h3 hl
  refine ⟨b, o, ea, hbB, fun i hi => ?_⟩
  obtain ⟨ka, ki, hn⟩ := hc i hi
  exact ⟨ka, ki, hn.below hb hbB⟩
end Go.Proofs.Ytbclgogolimbgaa

/-
  Steps of paths: what makes a path right, and how a slice of steps lies in memory.
-/
namespace Go.Proofs.Ytbclgogolimbgaa
open Go.RowKit
set_option linter.unusedSimpArgs false
set_option linter.unusedVariables false

/-- A step of a path. -/
structure PS where
  named : Bool
  key : ByteArray
  pl : Int

def PS.zero : PS := ⟨false, ByteArray.empty, 0⟩
def stepAt (ps : List PS) (i : Nat) : PS := ps.getD i PS.zero
def stepB (x : PS) : Bool := (x.named && (textB x.key && decide (x.pl = 0))) || (!x.named && (decide (x.key.toList = []) && (decide (0 ≤ x.pl) && decide (x.pl ≤ 80))))
def pathB (ps : List PS) : Bool := decide (ps.length ≤ 10) && (List.range ps.length).all fun i => stepB (stepAt ps i)

theorem pathB_false {ps : List PS} {k : Nat} (hk : k < ps.length) (h : stepB (stepAt ps k) = false) : pathB ps = false := by
  unfold pathB
  rw [show ((List.range ps.length).all fun i => stepB (stepAt ps i)) = false from ?_, Bool.and_false]
  rw [List.all_eq_false]
  exact ⟨k, List.mem_range.2 hk, by simp [h]⟩

theorem pathB_all {ps : List PS} (h : ∀ k, k < ps.length → stepB (stepAt ps k) = true) : pathB ps = decide (ps.length ≤ 10) := by
  unfold pathB
  rw [show ((List.range ps.length).all fun i => stepB (stepAt ps i)) = true from ?_, Bool.and_true]
  rw [List.all_eq_true]
  exact fun k hk => h k (List.mem_range.1 hk)

/-- A slice of at most M steps, the texts of at most S bytes, below the block B. -/
def StepsIn (M S B : Nat) (w : World) (v : Value) (ps : List PS) : Prop :=
  ps.length ≤ M ∧ (∀ i, i < ps.length → (stepAt ps i).key.size ≤ S ∧ -9223372036854775808 ≤ (stepAt ps i).pl ∧ (stepAt ps i).pl ≤ 9223372036854775807) ∧
  ∃ a cap, v = .slice a ps.length cap ∧ (0 < ps.length → ∃ b o, a = some ⟨b, o, none⟩ ∧ b < B ∧ ∀ i, i < ps.length →
    w.cell? ⟨b, o + i * 3, none⟩ = some (.bool (stepAt ps i).named) ∧ w.cell? ⟨b, o + i * 3 + 1, none⟩ = some (.string (stepAt ps i).key) ∧ w.cell? ⟨b, o + i * 3 + 2, none⟩ = some (.int .i64 (stepAt ps i).pl))

theorem StepsIn.below {M S B : Nat} {w w' : World} {v : Value} {ps : List PS} (h : StepsIn M S B w v ps) (hb : Below B w w') : StepsIn M S B w' v ps := by
  obtain ⟨h1, h2, a, cap, e, h3⟩ := h
  refine ⟨h1, h2, a, cap, e, fun hl => ?_⟩
  obtain ⟨b, o, ea, hbB, hc⟩ := h3 hl
  exact ⟨b, o, ea, hbB, fun i hi => ⟨(below_cell hb hbB).trans (hc i hi).1, (below_cell hb hbB).trans (hc i hi).2.1, (below_cell hb hbB).trans (hc i hi).2.2⟩⟩

theorem StepsIn.wide {M S B B' : Nat} {w : World} {v : Value} {ps : List PS} (h : StepsIn M S B w v ps) (hb : B ≤ B') : StepsIn M S B' w v ps := by
  obtain ⟨h1, h2, a, cap, e, h3⟩ := h
  refine ⟨h1, h2, a, cap, e, fun hl => ?_⟩
  obtain ⟨b, o, ea, hbB, hc⟩ := h3 hl
  exact ⟨b, o, ea, by omega, hc⟩

theorem StepsIn.fit {M S B M' S' : Nat} {w : World} {v : Value} {ps : List PS} (h : StepsIn M S B w v ps) (h1 : ps.length ≤ M') (h2 : ∀ i, i < ps.length → (stepAt ps i).key.size ≤ S') : StepsIn M' S' B w v ps :=
  ⟨h1, fun i hi => ⟨h2 i hi, (h.2.1 i hi).2⟩, h.2.2⟩
end Go.Proofs.Ytbclgogolimbgaa

/-
  A call of one argument, by its contract, as a step of a statement whose order is open.
-/
namespace Go.Proofs.Ytbclgogolimbgaa
open Go.RowKit
set_option linter.unusedSimpArgs false
set_option linter.unusedVariables false

theorem step_call1 {P : Program} {w : World} {ops : Array Oper} {o : Oper} {a : Act} {K : Act → World → Prop} {Q : Exit → Act → World → Prop} {E : Prop} (hgd : o.guard = none) (F : FuncId) (x : Operand) (T : TypeId)
    (ho : o.op = .call { callee := .value (.func F), args := #[x], argTypes := #[T] }) (v : Value) (hx : a.eval x = v) (hcf : ∀ w, (callFunc F #[v]).run P w = .ok (.enter F #[v]) w) {R : Ending → World → Prop} (hc : Calls P F #[v] w R)
    (h : ∀ e w', R e w' → ∃ u, e = .returned u ∧ K (a.put o.dst u) w') :
    if Region.wanted o (yielded ops a.tmps) = true then Oper.wp P o a w K Q else E := by
  have hw : Region.wanted o (yielded ops a.tmps) = true := by simp [Region.wanted, hgd]
  rw [if_pos hw]
  unfold Oper.wp execOp
  have e1 : a.eval (.func F) = .func (.func F) #[] #[] := rfl
  simp [ho, resolve, invoke, hx, e1, Deferred.ofValue, hcf, Result.andThen, Oper.upon_enter]
  refine hc.mono fun e w' hr => ?_
  obtain ⟨u, rfl, hk⟩ := h e w' hr
  exact hk
end Go.Proofs.Ytbclgogolimbgaa
