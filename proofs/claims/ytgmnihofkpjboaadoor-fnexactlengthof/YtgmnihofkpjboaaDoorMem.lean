/-
  How slices of numbers, of texts and of nodes lie in memory below a block number B, and that this stands as long as nothing below B turns.
-/
import Derived.Test.YtgmnihofkpjboaaDoorPure
import Derived.WalkKit
namespace Go.Proofs.YtgmnihofkpjboaaDoor
open Go.RowKit
set_option linter.unusedSimpArgs false
set_option linter.unusedVariables false

def intAt (l : List Int) (i : Nat) : Int := l.getD i 0

def IntsAt (B : Nat) (w : World) (v : Value) (l : List Int) : Prop :=
  l.length ≤ 17592186044416 ∧ (∀ i, i < l.length → -9223372036854775808 ≤ intAt l i ∧ intAt l i ≤ 9223372036854775807) ∧
  ∃ a cap, v = .slice a l.length cap ∧ (0 < l.length → ∃ b o, a = some ⟨b, o, none⟩ ∧ b < B ∧ ∀ i, i < l.length → w.cell? ⟨b, o + i, none⟩ = some (.int .i64 (intAt l i)))

def StrsAt (B : Nat) (w : World) (v : Value) (l : List ByteArray) : Prop :=
  l.length ≤ 8796093022208 ∧ (∀ i, i < l.length → (keyAt l i).size ≤ 140737488355328) ∧
  ∃ a cap, v = .slice a l.length cap ∧ (0 < l.length → ∃ b o, a = some ⟨b, o, none⟩ ∧ b < B ∧ ∀ i, i < l.length → w.cell? ⟨b, o + i, none⟩ = some (.string (keyAt l i)))

structure NodeIn (B : Nat) (w : World) (x : VN) (ka ki : Value) : Prop where
  keys : StrsAt B w ka x.keys
  kids : IntsAt B w ki x.kids
  size : x.s.size ≤ 140737488355328
  klo : -9223372036854775808 ≤ x.kind
  khi : x.kind ≤ 9223372036854775807
  nlo : -9223372036854775808 ≤ x.n
  nhi : x.n ≤ 9223372036854775807

structure NodeAt (B : Nat) (w : World) (b o : Nat) (x : VN) (ka ki : Value) : Prop where
  c0 : w.cell? ⟨b, o, none⟩ = some (.int .i64 x.kind)
  c1 : w.cell? ⟨b, o + 1, none⟩ = some (.int .i64 x.n)
  c2 : w.cell? ⟨b, o + 2, none⟩ = some (.string x.s)
  c3 : w.cell? ⟨b, o + 3, none⟩ = some ka
  c4 : w.cell? ⟨b, o + 4, none⟩ = some ki
  inn : NodeIn B w x ka ki

def NodesAt (B : Nat) (w : World) (v : Value) (vs : List VN) : Prop :=
  vs.length ≤ 1759218604416 ∧ ∃ a cap, v = .slice a vs.length cap ∧ (0 < vs.length → ∃ b o, a = some ⟨b, o, none⟩ ∧ b < B ∧ ∀ i, i < vs.length → ∃ ka ki, NodeAt B w b (o + i * 5) (nodeAt vs i) ka ki)

theorem below_cell {B : Nat} {w w' : World} (h : Below B w w') {b o : Nat} (hb : b < B) : w'.cell? ⟨b, o, none⟩ = w.cell? ⟨b, o, none⟩ := h.cell (p := ⟨b, o, none⟩) hb

theorem IntsAt.below {B : Nat} {w w' : World} {v : Value} {l : List Int} (h : IntsAt B w v l) (hb : Below B w w') : IntsAt B w' v l := by
  obtain ⟨h1, h2, a, cap, e, h3⟩ := h
  refine ⟨h1, h2, a, cap, e, fun hl => ?_⟩
  obtain ⟨b, o, ea, hbB, hc⟩ := h3 hl
  exact ⟨b, o, ea, hbB, fun i hi => (below_cell hb hbB).trans (hc i hi)⟩

theorem StrsAt.below {B : Nat} {w w' : World} {v : Value} {l : List ByteArray} (h : StrsAt B w v l) (hb : Below B w w') : StrsAt B w' v l := by
  obtain ⟨h1, h2, a, cap, e, h3⟩ := h
  refine ⟨h1, h2, a, cap, e, fun hl => ?_⟩
  obtain ⟨b, o, ea, hbB, hc⟩ := h3 hl
  exact ⟨b, o, ea, hbB, fun i hi => (below_cell hb hbB).trans (hc i hi)⟩

theorem NodeIn.below {B : Nat} {w w' : World} {x : VN} {ka ki : Value} (h : NodeIn B w x ka ki) (hb : Below B w w') : NodeIn B w' x ka ki :=
  { h with keys := h.keys.below hb, kids := h.kids.below hb }

theorem NodeAt.below {B : Nat} {w w' : World} {b o : Nat} {x : VN} {ka ki : Value} (h : NodeAt B w b o x ka ki) (hb : Below B w w') (hB : b < B) : NodeAt B w' b o x ka ki :=
  ⟨(below_cell hb hB).trans h.c0, (below_cell hb hB).trans h.c1, (below_cell hb hB).trans h.c2, (below_cell hb hB).trans h.c3, (below_cell hb hB).trans h.c4, h.inn.below hb⟩

theorem NodesAt.below {B : Nat} {w w' : World} {v : Value} {vs : List VN} (h : NodesAt B w v vs) (hb : Below B w w') : NodesAt B w' v vs := by
  obtain ⟨h1, a, cap, e, h3⟩ := h
  refine ⟨h1, a, cap, e, fun hl => ?_⟩
  obtain ⟨b, o, ea, hbB, hc⟩ := h3 hl
  refine ⟨b, o, ea, hbB, fun i hi => ?_⟩
  obtain ⟨ka, ki, hn⟩ := hc i hi
  exact ⟨ka, ki, hn.below hb hbB⟩

theorem IntsAt.wide {B B' : Nat} {w : World} {v : Value} {l : List Int} (h : IntsAt B w v l) (hb : B ≤ B') : IntsAt B' w v l := by
  obtain ⟨h1, h2, a, cap, e, h3⟩ := h
  refine ⟨h1, h2, a, cap, e, fun hl => ?_⟩
  obtain ⟨b, o, ea, hbB, hc⟩ := h3 hl
  exact ⟨b, o, ea, by omega, hc⟩

theorem StrsAt.wide {B B' : Nat} {w : World} {v : Value} {l : List ByteArray} (h : StrsAt B w v l) (hb : B ≤ B') : StrsAt B' w v l := by
  obtain ⟨h1, h2, a, cap, e, h3⟩ := h
  refine ⟨h1, h2, a, cap, e, fun hl => ?_⟩
  obtain ⟨b, o, ea, hbB, hc⟩ := h3 hl
  exact ⟨b, o, ea, by omega, hc⟩

theorem NodeIn.wide {B B' : Nat} {w : World} {x : VN} {ka ki : Value} (h : NodeIn B w x ka ki) (hb : B ≤ B') : NodeIn B' w x ka ki :=
  { h with keys := h.keys.wide hb, kids := h.kids.wide hb }

theorem NodeAt.wide {B B' : Nat} {w : World} {b o : Nat} {x : VN} {ka ki : Value} (h : NodeAt B w b o x ka ki) (hb : B ≤ B') : NodeAt B' w b o x ka ki :=
  ⟨h.c0, h.c1, h.c2, h.c3, h.c4, h.inn.wide hb⟩

theorem NodesAt.wide {B B' : Nat} {w : World} {v : Value} {vs : List VN} (h : NodesAt B w v vs) (hb : B ≤ B') : NodesAt B' w v vs := by
  obtain ⟨h1, a, cap, e, h3⟩ := h
  refine ⟨h1, a, cap, e, fun hl => ?_⟩
  obtain ⟨b, o, ea, hbB, hc⟩ := h3 hl
  refine ⟨b, o, ea, by omega, fun i hi => ?_⟩
  obtain ⟨ka, ki, hn⟩ := hc i hi
  exact ⟨ka, ki, hn.wide hb⟩

/-- What is asked of nodes besides their memory. -/
structure Fits (x : VN) : Prop where
  keysN : x.keys.length ≤ 8796093022208
  keysS : ∀ i, i < x.keys.length → (keyAt x.keys i).size ≤ 140737488355328
  kidsN : x.kids.length ≤ 17592186044416
  kidsB : ∀ i, i < x.kids.length → -9223372036854775808 ≤ intAt x.kids i ∧ intAt x.kids i ≤ 9223372036854775807
  size : x.s.size ≤ 140737488355328
  klo : -9223372036854775808 ≤ x.kind
  khi : x.kind ≤ 9223372036854775807
  nlo : -9223372036854775808 ≤ x.n
  nhi : x.n ≤ 9223372036854775807

theorem NodeIn.fits {B : Nat} {w : World} {x : VN} {ka ki : Value} (h : NodeIn B w x ka ki) : Fits x :=
  ⟨h.keys.1, h.keys.2.1, h.kids.1, h.kids.2.1, h.size, h.klo, h.khi, h.nlo, h.nhi⟩

theorem NodesAt.fits {B : Nat} {w : World} {v : Value} {vs : List VN} (h : NodesAt B w v vs) : ∀ i, i < vs.length → Fits (nodeAt vs i) := by
  obtain ⟨h1, a, cap, e, h3⟩ := h
  intro i hi
  obtain ⟨b, o, ea, hbB, hc⟩ := h3 (by omega)
  obtain ⟨ka, ki, hn⟩ := hc i hi
  exact hn.inn.fits

theorem bsame {B : Nat} {w w' : World} (h1 : w'.os = w.os) (h2 : w'.tape = w.tape) (h3 : w'.output = w.output) (h4 : w'.heap = w.heap) : Below B w w' :=
  ⟨h1, h2, h3, by rw [h4]; exact Nat.le_refl _, fun k _ => by rw [h4]⟩

theorem hideIt {p : Prop} (h : p) : Hid p := h

theorem ret_int {k : IntKind} {a b : Int} (h : a = b) : Ending.returned (.int k a) = .returned (.int k b) := by rw [h]
theorem ret_bool {a b : Bool} (h : a = b) : Ending.returned (.bool a) = .returned (.bool b) := by rw [h]

end Go.Proofs.YtgmnihofkpjboaaDoor
