/-
  What came in, before it is known how much it is: slices of numbers, texts and nodes of whatever length a slice may have.
-/
import Derived.Test.YtgmnihofkpjboaaDoorMem
namespace Go.Proofs.YtgmnihofkpjboaaDoor
open Go.RowKit
set_option linter.unusedSimpArgs false
set_option linter.unusedVariables false

def RawInts (B : Nat) (w : World) (v : Value) (l : List Int) : Prop :=
  l.length ≤ 9223372036854775807 ∧ (∀ i, i < l.length → -9223372036854775808 ≤ intAt l i ∧ intAt l i ≤ 9223372036854775807) ∧
  ∃ a cap, v = .slice a l.length cap ∧ (0 < l.length → ∃ b o, a = some ⟨b, o, none⟩ ∧ b < B ∧ ∀ i, i < l.length → w.cell? ⟨b, o + i, none⟩ = some (.int .i64 (intAt l i)))

def RawStrs (B : Nat) (w : World) (v : Value) (l : List ByteArray) : Prop :=
  l.length ≤ 9223372036854775807 ∧ (∀ i, i < l.length → (keyAt l i).size ≤ 9223372036854775807) ∧
  ∃ a cap, v = .slice a l.length cap ∧ (0 < l.length → ∃ b o, a = some ⟨b, o, none⟩ ∧ b < B ∧ ∀ i, i < l.length → w.cell? ⟨b, o + i, none⟩ = some (.string (keyAt l i)))

structure RawIn (B : Nat) (w : World) (x : VN) (ka ki : Value) : Prop where
  keys : RawStrs B w ka x.keys
  kids : RawInts B w ki x.kids
  size : x.s.size ≤ 9223372036854775807
  klo : -9223372036854775808 ≤ x.kind
  khi : x.kind ≤ 9223372036854775807
  nlo : -9223372036854775808 ≤ x.n
  nhi : x.n ≤ 9223372036854775807

structure RawAt (B : Nat) (w : World) (b o : Nat) (x : VN) (ka ki : Value) : Prop where
  c0 : w.cell? ⟨b, o, none⟩ = some (.int .i64 x.kind)
  c1 : w.cell? ⟨b, o + 1, none⟩ = some (.int .i64 x.n)
  c2 : w.cell? ⟨b, o + 2, none⟩ = some (.string x.s)
  c3 : w.cell? ⟨b, o + 3, none⟩ = some ka
  c4 : w.cell? ⟨b, o + 4, none⟩ = some ki
  inn : RawIn B w x ka ki

def RawNodes (B : Nat) (w : World) (v : Value) (vs : List VN) : Prop :=
  vs.length ≤ 9223372036854775807 ∧ ∃ a cap, v = .slice a vs.length cap ∧ (0 < vs.length → ∃ b o, a = some ⟨b, o, none⟩ ∧ b < B ∧ ∀ i, i < vs.length → ∃ ka ki, RawAt B w b (o + i * 5) (nodeAt vs i) ka ki)

/-- A node of at most 1048576 of everything. -/
structure Small (x : VN) : Prop where
  s : x.s.size ≤ 1048576
  kn : x.keys.length ≤ 1048576
  ks : ∀ i, i < x.keys.length → (keyAt x.keys i).size ≤ 1048576
  ki : x.kids.length ≤ 1048576

theorem RawInts.fit {B : Nat} {w : World} {v : Value} {l : List Int} (h : RawInts B w v l) (hs : l.length ≤ 1048576) : IntsAt B w v l := ⟨by omega, h.2.1, h.2.2⟩
theorem RawStrs.fit {B : Nat} {w : World} {v : Value} {l : List ByteArray} (h : RawStrs B w v l) (hs : l.length ≤ 1048576) (hk : ∀ i, i < l.length → (keyAt l i).size ≤ 1048576) : StrsAt B w v l :=
  ⟨by omega, fun i hi => by have := hk i hi; omega, h.2.2⟩
theorem RawIn.fit {B : Nat} {w : World} {x : VN} {ka ki : Value} (h : RawIn B w x ka ki) (hs : Small x) : NodeIn B w x ka ki :=
  ⟨h.keys.fit hs.kn hs.ks, h.kids.fit hs.ki, by have := hs.s; omega, h.klo, h.khi, h.nlo, h.nhi⟩
theorem RawNodes.fit {B : Nat} {w : World} {v : Value} {vs : List VN} (h : RawNodes B w v vs) (hn : vs.length ≤ 1048576) (hs : ∀ i, i < vs.length → Small (nodeAt vs i)) : NodesAt B w v vs := by
  obtain ⟨_, a, cap, e, h3⟩ := h
  refine ⟨by omega, a, cap, e, fun hl => ?_⟩
  obtain ⟨b, o, ea, hb, hc⟩ := h3 hl
  refine ⟨b, o, ea, hb, fun i hi => ?_⟩
  obtain ⟨ka, ki, hn'⟩ := hc i hi
  exact ⟨ka, ki, hn'.c0, hn'.c1, hn'.c2, hn'.c3, hn'.c4, hn'.inn.fit (hs i hi)⟩

theorem RawInts.below {B : Nat} {w w' : World} {v : Value} {l : List Int} (h : RawInts B w v l) (hb : Below B w w') : RawInts B w' v l := by
  obtain ⟨h1, h2, a, cap, e, h3⟩ := h
  refine ⟨h1, h2, a, cap, e, fun hl => ?_⟩
  obtain ⟨b, o, ea, hbB, hc⟩ := h3 hl
  exact ⟨b, o, ea, hbB, fun i hi => (below_cell hb hbB).trans (hc i hi)⟩
theorem RawStrs.below {B : Nat} {w w' : World} {v : Value} {l : List ByteArray} (h : RawStrs B w v l) (hb : Below B w w') : RawStrs B w' v l := by
  obtain ⟨h1, h2, a, cap, e, h3⟩ := h
  refine ⟨h1, h2, a, cap, e, fun hl => ?_⟩
  obtain ⟨b, o, ea, hbB, hc⟩ := h3 hl
  exact ⟨b, o, ea, hbB, fun i hi => (below_cell hb hbB).trans (hc i hi)⟩
theorem RawIn.below {B : Nat} {w w' : World} {x : VN} {ka ki : Value} (h : RawIn B w x ka ki) (hb : Below B w w') : RawIn B w' x ka ki :=
  { h with keys := h.keys.below hb, kids := h.kids.below hb }
theorem RawAt.below {B : Nat} {w w' : World} {b o : Nat} {x : VN} {ka ki : Value} (h : RawAt B w b o x ka ki) (hb : Below B w w') (hB : b < B) : RawAt B w' b o x ka ki :=
  ⟨(below_cell hb hB).trans h.c0, (below_cell hb hB).trans h.c1, (below_cell hb hB).trans h.c2, (below_cell hb hB).trans h.c3, (below_cell hb hB).trans h.c4, h.inn.below hb⟩
theorem RawNodes.below {B : Nat} {w w' : World} {v : Value} {vs : List VN} (h : RawNodes B w v vs) (hb : Below B w w') : RawNodes B w' v vs := by
  obtain ⟨h1, a, cap, e, h3⟩ := h
  refine ⟨h1, a, cap, e, fun hl => ?_⟩
  obtain ⟨b, o, ea, hbB, hc⟩ := h3 hl
  refine ⟨b, o, ea, hbB, fun i hi => ?_⟩
  obtain ⟨ka, ki, hn⟩ := hc i hi
  exact ⟨ka, ki, hn.below hb hbB⟩
end Go.Proofs.YtgmnihofkpjboaaDoor
