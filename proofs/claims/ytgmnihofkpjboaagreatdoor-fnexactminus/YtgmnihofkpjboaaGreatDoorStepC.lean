/-
  How slices of numbers, of texts and of nodes lie in memory below a block number B, and that this stands as long as nothing below B turns.
-/
import Derived.Test.YtgmnihofkpjboaaGreatDoorPure
import Derived.WalkKit
import Derived.Deep.RegionLaw
import Derived.Deep.AppendLies
namespace Go.Proofs.YtgmnihofkpjboaaGreatDoor
open Go.RowKit
set_option linter.unusedSimpArgs false
set_option linter.unusedVariables false

def intAt (l : List Int) (i : Nat) : Int := l.getD i 0

def IntsAt (B : Nat) (w : World) (v : Value) (l : List Int) : Prop :=
  l.length ≤ 17592186044416 ∧ (∀ i, i < l.length → -9223372036854775808 ≤ intAt l i ∧ intAt l i ≤ 9223372036854775807) ∧
  ∃ a cap, v = .slice a l.length cap ∧ (0 < l.length → ∃ b o, a = some ⟨b, o, none⟩ ∧ b < B ∧ ∀ i, i < l.length → w.cell? ⟨b, o + i, none⟩ = some (.int .i64 (intAt l i)))

def StrsAt (B : Nat) (w : World) (v : Value) (l : List ByteArray) : Prop :=
  l.length ≤ 8796093022208 ∧ (∀ i, i < l.length → (keyAt l i).size ≤ 140737488355328) ∧
  ∃ a cap, v = .slice a l.length cap ∧ (0 < l.length → ∃ b o, a = some ⟨b, o, none⟩ ∧ b < B ∧ ∀ i, i < l.length → w.cell? ⟨b, o + i, none⟩ = some (.string (keyAt l i)))

structure NodeIn (B : Nat) (w : World) (x : VN) (ka ki : Value) : Prop where
  keys : StrsAt B w ka x.keys
  kids : IntsAt B w ki x.kids
  size : x.s.size ≤ 140737488355328
  klo : -9223372036854775808 ≤ x.kind
  khi : x.kind ≤ 9223372036854775807
  nlo : -9223372036854775808 ≤ x.n
  nhi : x.n ≤ 9223372036854775807

structure NodeAt (B : Nat) (w : World) (b o : Nat) (x : VN) (ka ki : Value) : Prop where
  c0 : w.cell? ⟨b, o, none⟩ = some (.int .i64 x.kind)
  c1 : w.cell? ⟨b, o + 1, none⟩ = some (.int .i64 x.n)
  c2 : w.cell? ⟨b, o + 2, none⟩ = some (.string x.s)
  c3 : w.cell? ⟨b, o + 3, none⟩ = some ka
  c4 : w.cell? ⟨b, o + 4, none⟩ = some ki
  inn : NodeIn B w x ka ki

def NodesAt (B : Nat) (w : World) (v : Value) (vs : List VN) : Prop :=
  vs.length ≤ 1759218604416 ∧ ∃ a cap, v = .slice a vs.length cap ∧ (0 < vs.length → ∃ b o, a = some ⟨b, o, none⟩ ∧ b < B ∧ ∀ i, i < vs.length → ∃ ka ki, NodeAt B w b (o + i * 5) (nodeAt vs i) ka ki)

theorem below_cell {B : Nat} {w w' : World} (h : Below B w w') {b o : Nat} (hb : b < B) : w'.cell? ⟨b, o, none⟩ = w.cell? ⟨b, o, none⟩ := h.cell (p := ⟨b, o, none⟩) hb

theorem IntsAt.below {B : Nat} {w w' : World} {v : Value} {l : List Int} (h : IntsAt B w v l) (hb : Below B w w') : IntsAt B w' v l := by
  obtain ⟨h1, h2, a, cap, e, h3⟩ := h
  refine ⟨h1, h2, a, cap, e, fun hl => ?_⟩
  obtain ⟨b, o, ea, hbB, hc⟩ := h3 hl
  exact ⟨b, o, ea, hbB, fun i hi => (below_cell hb hbB).trans (hc i hi)⟩

theorem StrsAt.below {B : Nat} {w w' : World} {v : Value} {l : List ByteArray} (h : StrsAt B w v l) (hb : Below B w w') : StrsAt B w' v l := by
  obtain ⟨h1, h2, a, cap, e, h3⟩ := h
  refine ⟨h1, h2, a, cap, e, fun hl => ?_⟩
  obtain ⟨b, o, ea, hbB, hc⟩ := h3 hl
  exact ⟨b, o, ea, hbB, fun i hi => (below_cell hb hbB).trans (hc i hi)⟩

theorem NodeIn.below {B : Nat} {w w' : World} {x : VN} {ka ki : Value} (h : NodeIn B w x ka ki) (hb : Below B w w') : NodeIn B w' x ka ki :=
  { h with keys := h.keys.below hb, kids := h.kids.below hb }

theorem NodeAt.below {B : Nat} {w w' : World} {b o : Nat} {x : VN} {ka ki : Value} (h : NodeAt B w b o x ka ki) (hb : Below B w w') (hB : b < B) : NodeAt B w' b o x ka ki :=
  ⟨(below_cell hb hB).trans h.c0, (below_cell hb hB).trans h.c1, (below_cell hb hB).trans h.c2, (below_cell hb hB).trans h.c3, (below_cell hb hB).trans h.c4, h.inn.below hb⟩

theorem NodesAt.below {B : Nat} {w w' : World} {v : Value} {vs : List VN} (h : NodesAt B w v vs) (hb : Below B w w') : NodesAt B w' v vs := by
  obtain ⟨h1, a, cap, e, h3⟩ := h
  refine ⟨h1, a, cap, e, fun hl => ?_⟩
  obtain ⟨b, o, ea, hbB, hc⟩ := h3 hl
  refine ⟨b, o, ea, hbB, fun i hi => ?_⟩
  obtain ⟨ka, ki, hn⟩ := hc i hi
  exact ⟨ka, ki, hn.below hb hbB⟩

theorem IntsAt.wide {B B' : Nat} {w : World} {v : Value} {l : List Int} (h : IntsAt B w v l) (hb : B ≤ B') : IntsAt B' w v l := by
  obtain ⟨h1, h2, a, cap, e, h3⟩ := h
  refine ⟨h1, h2, a, cap, e, fun hl => ?_⟩
  obtain ⟨b, o, ea, hbB, hc⟩ := h3 hl
  exact ⟨b, o, ea, by omega, hc⟩

theorem StrsAt.wide {B B' : Nat} {w : World} {v : Value} {l : List ByteArray} (h : StrsAt B w v l) (hb : B ≤ B') : StrsAt B' w v l := by
  obtain ⟨h1, h2, a, cap, e, h3⟩ := h
  refine ⟨h1, h2, a, cap, e, fun hl => ?_⟩
  obtain ⟨b, o, ea, hbB, hc⟩ := h3 hl
  exact ⟨b, o, ea, by omega, hc⟩

theorem NodeIn.wide {B B' : Nat} {w : World} {x : VN} {ka ki : Value} (h : NodeIn B w x ka ki) (hb : B ≤ B') : NodeIn B' w x ka ki :=
  { h with keys := h.keys.wide hb, kids := h.kids.wide hb }

theorem NodeAt.wide {B B' : Nat} {w : World} {b o : Nat} {x : VN} {ka ki : Value} (h : NodeAt B w b o x ka ki) (hb : B ≤ B') : NodeAt B' w b o x ka ki :=
  ⟨h.c0, h.c1, h.c2, h.c3, h.c4, h.inn.wide hb⟩

theorem NodesAt.wide {B B' : Nat} {w : World} {v : Value} {vs : List VN} (h : NodesAt B w v vs) (hb : B ≤ B') : NodesAt B' w v vs := by
  obtain ⟨h1, a, cap, e, h3⟩ := h
  refine ⟨h1, a, cap, e, fun hl => ?_⟩
  obtain ⟨b, o, ea, hbB, hc⟩ := h3 hl
  refine ⟨b, o, ea, by omega, fun i hi => ?_⟩
  obtain ⟨ka, ki, hn⟩ := hc i hi
  exact ⟨ka, ki, hn.wide hb⟩

/-- What is asked of nodes besides their memory. -/
structure Fits (x : VN) : Prop where
  keysN : x.keys.length ≤ 8796093022208
  keysS : ∀ i, i < x.keys.length → (keyAt x.keys i).size ≤ 140737488355328
  kidsN : x.kids.length ≤ 17592186044416
  kidsB : ∀ i, i < x.kids.length → -9223372036854775808 ≤ intAt x.kids i ∧ intAt x.kids i ≤ 9223372036854775807
  size : x.s.size ≤ 140737488355328
  klo : -9223372036854775808 ≤ x.kind
  khi : x.kind ≤ 9223372036854775807
  nlo : -9223372036854775808 ≤ x.n
  nhi : x.n ≤ 9223372036854775807

theorem NodeIn.fits {B : Nat} {w : World} {x : VN} {ka ki : Value} (h : NodeIn B w x ka ki) : Fits x :=
  ⟨h.keys.1, h.keys.2.1, h.kids.1, h.kids.2.1, h.size, h.klo, h.khi, h.nlo, h.nhi⟩

theorem NodesAt.fits {B : Nat} {w : World} {v : Value} {vs : List VN} (h : NodesAt B w v vs) : ∀ i, i < vs.length → Fits (nodeAt vs i) := by
  obtain ⟨h1, a, cap, e, h3⟩ := h
  intro i hi
  obtain ⟨b, o, ea, hbB, hc⟩ := h3 (by omega)
  obtain ⟨ka, ki, hn⟩ := hc i hi
  exact hn.inn.fits

theorem bsame {B : Nat} {w w' : World} (h1 : w'.os = w.os) (h2 : w'.tape = w.tape) (h3 : w'.output = w.output) (h4 : w'.heap = w.heap) : Below B w w' :=
  ⟨h1, h2, h3, by rw [h4]; exact Nat.le_refl _, fun k _ => by rw [h4]⟩

theorem hideIt {p : Prop} (h : p) : Hid p := h

theorem ret_int {k : IntKind} {a b : Int} (h : a = b) : Ending.returned (.int k a) = .returned (.int k b) := by rw [h]
theorem ret_bool {a b : Bool} (h : a = b) : Ending.returned (.bool a) = .returned (.bool b) := by rw [h]

end Go.Proofs.YtgmnihofkpjboaaGreatDoor

/-
  What came in, before it is known how much it is: slices of numbers, texts and nodes of whatever length a slice may have.
-/
namespace Go.Proofs.YtgmnihofkpjboaaGreatDoor
open Go.RowKit
set_option linter.unusedSimpArgs false
set_option linter.unusedVariables false

def RawInts (B : Nat) (w : World) (v : Value) (l : List Int) : Prop :=
  l.length ≤ 9223372036854775807 ∧ (∀ i, i < l.length → -9223372036854775808 ≤ intAt l i ∧ intAt l i ≤ 9223372036854775807) ∧
  ∃ a cap, v = .slice a l.length cap ∧ (0 < l.length → ∃ b o, a = some ⟨b, o, none⟩ ∧ b < B ∧ ∀ i, i < l.length → w.cell? ⟨b, o + i, none⟩ = some (.int .i64 (intAt l i)))

def RawStrs (B : Nat) (w : World) (v : Value) (l : List ByteArray) : Prop :=
  l.length ≤ 9223372036854775807 ∧ (∀ i, i < l.length → (keyAt l i).size ≤ 9223372036854775807) ∧
  ∃ a cap, v = .slice a l.length cap ∧ (0 < l.length → ∃ b o, a = some ⟨b, o, none⟩ ∧ b < B ∧ ∀ i, i < l.length → w.cell? ⟨b, o + i, none⟩ = some (.string (keyAt l i)))

structure RawIn (B : Nat) (w : World) (x : VN) (ka ki : Value) : Prop where
  keys : RawStrs B w ka x.keys
  kids : RawInts B w ki x.kids
  size : x.s.size ≤ 9223372036854775807
  klo : -9223372036854775808 ≤ x.kind
  khi : x.kind ≤ 9223372036854775807
  nlo : -9223372036854775808 ≤ x.n
  nhi : x.n ≤ 9223372036854775807

structure RawAt (B : Nat) (w : World) (b o : Nat) (x : VN) (ka ki : Value) : Prop where
  c0 : w.cell? ⟨b, o, none⟩ = some (.int .i64 x.kind)
  c1 : w.cell? ⟨b, o + 1, none⟩ = some (.int .i64 x.n)
  c2 : w.cell? ⟨b, o + 2, none⟩ = some (.string x.s)
  c3 : w.cell? ⟨b, o + 3, none⟩ = some ka
  c4 : w.cell? ⟨b, o + 4, none⟩ = some ki
  inn : RawIn B w x ka ki

def RawNodes (B : Nat) (w : World) (v : Value) (vs : List VN) : Prop :=
  vs.length ≤ 9223372036854775807 ∧ ∃ a cap, v = .slice a vs.length cap ∧ (0 < vs.length → ∃ b o, a = some ⟨b, o, none⟩ ∧ b < B ∧ ∀ i, i < vs.length → ∃ ka ki, RawAt B w b (o + i * 5) (nodeAt vs i) ka ki)

/-- A node of at most 1048576 of everything. -/
structure Small (x : VN) : Prop where
  s : x.s.size ≤ 1048576
  kn : x.keys.length ≤ 1048576
  ks : ∀ i, i < x.keys.length → (keyAt x.keys i).size ≤ 1048576
  ki : x.kids.length ≤ 1048576

theorem RawInts.fit {B : Nat} {w : World} {v : Value} {l : List Int} (h : RawInts B w v l) (hs : l.length ≤ 1048576) : IntsAt B w v l := ⟨by omega, h.2.1, h.2.2⟩
theorem RawStrs.fit {B : Nat} {w : World} {v : Value} {l : List ByteArray} (h : RawStrs B w v l) (hs : l.length ≤ 1048576) (hk : ∀ i, i < l.length → (keyAt l i).size ≤ 1048576) : StrsAt B w v l :=
  ⟨by omega, fun i hi => by have := hk i hi; omega, h.2.2⟩
theorem RawIn.fit {B : Nat} {w : World} {x : VN} {ka ki : Value} (h : RawIn B w x ka ki) (hs : Small x) : NodeIn B w x ka ki :=
  ⟨h.keys.fit hs.kn hs.ks, h.kids.fit hs.ki, by have := hs.s; omega, h.klo, h.khi, h.nlo, h.nhi⟩
theorem RawNodes.fit {B : Nat} {w : World} {v : Value} {vs : List VN} (h : RawNodes B w v vs) (hn : vs.length ≤ 1048576) (hs : ∀ i, i < vs.length → Small (nodeAt vs i)) : NodesAt B w v vs := by
  obtain ⟨_, a, cap, e, h3⟩ := h
  refine ⟨by omega, a, cap, e, fun hl => ?_⟩
  obtain ⟨b, o, ea, hb, hc⟩ := h3 hl
  refine ⟨b, o, ea, hb, fun i hi => ?_⟩
  obtain ⟨ka, ki, hn'⟩ := hc i hi
  exact ⟨ka, ki, hn'.c0, hn'.c1, hn'.c2, hn'.c3, hn'.c4, hn'.inn.fit (hs i hi)⟩

theorem RawInts.below {B : Nat} {w w' : World} {v : Value} {l : List Int} (h : RawInts B w v l) (hb : Below B w w') : RawInts B w' v l := by
  obtain ⟨h1, h2, a, cap, e, h3⟩ := h
  refine ⟨h1, h2, a, cap, e, fun hl => ?_⟩
  obtain ⟨b, o, ea, hbB, hc⟩ := h3 hl
  exact ⟨b, o, ea, hbB, fun i hi => (below_cell hb hbB).trans (hc i hi)⟩
theorem RawStrs.below {B : Nat} {w w' : World} {v : Value} {l : List ByteArray} (h : RawStrs B w v l) (hb : Below B w w') : RawStrs B w' v l := by
  obtain ⟨h1, h2, a, cap, e, h3⟩ := h
  refine ⟨h1, h2, a, cap, e, fun hl => ?_⟩
  obtain ⟨b, o, ea, hbB, hc⟩ := h3 hl
  exact ⟨b, o, ea, hbB, fun i hi => (below_cell hb hbB).trans (hc i hi)⟩
theorem RawIn.below {B : Nat} {w w' : World} {x : VN} {ka ki : Value} (h : RawIn B w x ka ki) (hb : Below B w w') : RawIn B w' x ka ki :=
  { h with keys := h.keys.below hb, kids := h.kids.below hb }
theorem RawAt.below {B : Nat} {w w' : World} {b o : Nat} {x : VN} {ka ki : Value} (h : RawAt B w b o x ka ki) (hb : Below B w w') (hB : b < B) : RawAt B w' b o x ka ki :=
  ⟨(below_cell hb hB).trans h.c0, (below_cell hb hB).trans h.c1, (below_cell hb hB).trans h.c2, (below_cell hb hB).trans h.c3, (below_cell hb hB).trans h.c4, h.inn.below hb⟩
theorem RawNodes.below {B : Nat} {w w' : World} {v : Value} {vs : List VN} (h : RawNodes B w v vs) (hb : Below B w w') : RawNodes B w' v vs := by
  obtain ⟨h1, a, cap, e, h3⟩ := h
  refine ⟨h1, a, cap, e, fun hl => ?_⟩
  obtain ⟨b, o, ea, hbB, hc⟩ := h3 hl
  refine ⟨b, o, ea, hbB, fun i hi => ?_⟩
  obtain ⟨ka, ki, hn⟩ := hc i hi
  exact ⟨ka, ki, hn.below hb hbB⟩
end Go.Proofs.YtgmnihofkpjboaaGreatDoor

/-
  Turning and swapping ranges of a row, as functions of places. Plain mathematics.
-/
namespace Go.Proofs.YtgmnihofkpjboaaGreatDoor
open Go.RowKit
set_option linter.unusedSimpArgs false
set_option linter.unusedVariables false

/-- n cells from a on and from b on change places. -/
def swp (a b n : Nat) (f : Nat → Int) (p : Nat) : Int :=
  if a ≤ p ∧ p < a + n then f (b + (p - a)) else if b ≤ p ∧ p < b + n then f (a + (p - b)) else f p

/-- The cells from m on come ahead of those from a on. -/
def rot (a m b : Nat) (f : Nat → Int) (p : Nat) : Int :=
  if a ≤ p ∧ p < a + (b - m) then f (m + (p - a)) else if a + (b - m) ≤ p ∧ p < b then f (p - (b - m)) else f p

theorem swp_zero (a b : Nat) (f : Nat → Int) (p : Nat) : swp a b 0 f p = f p := by
  unfold swp; rw [if_neg (by omega), if_neg (by omega)]

theorem swp_succ {a b n : Nat} (h : a + (n + 1) ≤ b ∨ b + (n + 1) ≤ a) (f : Nat → Int) (p : Nat) :
    swp a b (n + 1) f p = if p = b + n then swp a b n f (a + n) else if p = a + n then swp a b n f (b + n) else swp a b n f p := by
  by_cases e1 : p = b + n
  · subst e1
    rw [if_pos rfl]
    unfold swp
    rw [if_neg (by omega), if_pos (by omega), if_neg (by omega), if_neg (by omega)]
    congr 1; omega
  rw [if_neg e1]
  by_cases e2 : p = a + n
  · subst e2
    rw [if_pos rfl]
    unfold swp
    rw [if_pos (by omega), if_neg (by omega), if_neg (by omega)]
    congr 1; omega
  rw [if_neg e2]
  unfold swp
  by_cases c1 : a ≤ p ∧ p < a + n
  · rw [if_pos (by omega), if_pos c1]
  · rw [if_neg (by omega), if_neg c1]
    by_cases c2 : b ≤ p ∧ p < b + n
    · rw [if_pos (by omega), if_pos c2]
    · rw [if_neg (by omega), if_neg c2]

theorem f_same {f : Nat → Int} {x y : Nat} (h : x = y) : f x = f y := by rw [h]

theorem rot_more {s i j : Nat} (h : j < i) (hj : 0 < j) (f : Nat → Int) (p : Nat) : rot (s + j) (s + i) (s + i + j) (swp s (s + i) j f) p = rot s (s + i) (s + i + j) f p := by
  simp only [rot, swp]
  repeat' split
  all_goals first | (exact f_same (by omega)) | (exfalso; omega)

theorem rot_less {s i j : Nat} (h : i < j) (h0 : 0 < i) (f : Nat → Int) (p : Nat) : rot s (s + i) (s + j) (swp s (s + j) i f) p = rot s (s + i) (s + i + j) f p := by
  simp only [rot, swp]
  repeat' split
  all_goals first | (exact f_same (by omega)) | (exfalso; omega)

theorem rot_same {s i : Nat} (f : Nat → Int) (p : Nat) : swp s (s + i) i f p = rot s (s + i) (s + i + i) f p := by
  simp only [rot, swp]
  repeat' split
  all_goals first | (exact f_same (by omega)) | (exfalso; omega)
end Go.Proofs.YtgmnihofkpjboaaGreatDoor

/-
  Picking out of a row: plain mathematics.
-/
namespace Go.Proofs.YtgmnihofkpjboaaGreatDoor

/-- Does one of the first ones hit? -/
def anyTo (h : Nat → Bool) : Nat → Bool
  | 0 => false
  | k + 1 => anyTo h k || h k

/-- The places that are not hit. -/
def pickIx (g : Nat → Bool) : Nat → List Nat
  | 0 => []
  | i + 1 => if g i = true then pickIx g i else pickIx g i ++ [i]

theorem anyTo_yes {h : Nat → Bool} {k n : Nat} (hk : k < n) (e : h k = true) : anyTo h n = true := by
  induction n with
  | zero => omega
  | succ n ih =>
    rw [anyTo]
    by_cases e2 : k = n
    · subst e2; rw [e]; simp
    · rw [ih (by omega)]; rfl

theorem anyTo_same {h h' : Nat → Bool} : ∀ n, (∀ k, k < n → h k = h' k) → anyTo h n = anyTo h' n := by
  intro n
  induction n with
  | zero => intro _; rfl
  | succ n ih => intro e; rw [anyTo, anyTo, ih (fun k hk => e k (by omega)), e n (by omega)]

theorem pickIx_same {g g' : Nat → Bool} : ∀ n, (∀ k, k < n → g k = g' k) → pickIx g n = pickIx g' n := by
  intro n
  induction n with
  | zero => intro _; rfl
  | succ n ih => intro e; rw [pickIx, pickIx, ih (fun k hk => e k (by omega)), e n (by omega)]

theorem pickIx_lt (g : Nat → Bool) : ∀ i, (pickIx g i).length ≤ i ∧ ∀ x ∈ pickIx g i, x < i := by
  intro i
  induction i with
  | zero => exact ⟨Nat.le_refl _, fun x hx => by cases hx⟩
  | succ i ih =>
    rw [pickIx]
    split
    · exact ⟨by omega, fun x hx => by have := ih.2 x hx; omega⟩
    · refine ⟨by simp; omega, fun x hx => ?_⟩
      rcases List.mem_append.1 hx with hx | hx
      · have := ih.2 x hx; omega
      · simp at hx; omega
end Go.Proofs.YtgmnihofkpjboaaGreatDoor

/-
  A call of one argument, by its contract, as a step of a statement whose order is open.
-/
namespace Go.Proofs.YtgmnihofkpjboaaGreatDoor
open Go.RowKit
set_option linter.unusedSimpArgs false
set_option linter.unusedVariables false

theorem step_call1 {P : Program} {w : World} {ops : Array Oper} {o : Oper} {a : Act} {K : Act → World → Prop} {Q : Exit → Act → World → Prop} {E : Prop} (hgd : o.guard = none) (F : FuncId) (x : Operand) (T : TypeId)
    (ho : o.op = .call { callee := .value (.func F), args := #[x], argTypes := #[T] }) (v : Value) (hx : a.eval x = v) (hcf : ∀ w, (callFunc F #[v]).run P w = .ok (.enter F #[v]) w) {R : Ending → World → Prop} (hc : Calls P F #[v] w R)
    (h : ∀ e w', R e w' → ∃ u, e = .returned u ∧ K (a.put o.dst u) w') :
    if Region.wanted o (yielded ops a.tmps) = true then Oper.wp P o a w K Q else E := by
  have hw : Region.wanted o (yielded ops a.tmps) = true := by simp [Region.wanted, hgd]
  rw [if_pos hw]
  unfold Oper.wp execOp
  have e1 : a.eval (.func F) = .func (.func F) #[] #[] := rfl
  simp [ho, resolve, invoke, hx, e1, Deferred.ofValue, hcf, Result.andThen, Oper.upon_enter]
  refine hc.mono fun e w' hr => ?_
  obtain ⟨u, rfl, hk⟩ := h e w' hr
  exact hk
end Go.Proofs.YtgmnihofkpjboaaGreatDoor
