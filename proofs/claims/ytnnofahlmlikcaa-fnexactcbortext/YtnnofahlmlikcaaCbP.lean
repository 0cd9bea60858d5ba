/-
  What came in, before it is known how much it is: slices of numbers, texts and nodes of whatever length a slice may have.
-/
import Derived.Test.YtnnofahlmlikcaaMem
namespace Go.Proofs.Ytnnofahlmlikcaa
open Go.RowKit
set_option linter.unusedSimpArgs false
set_option linter.unusedVariables false

def RawInts (B : Nat) (w : World) (v : Value) (l : List Int) : Prop :=
  l.length ≤ 9223372036854775807 ∧ (∀ i, i < l.length → -9223372036854775808 ≤ intAt l i ∧ intAt l i ≤ 9223372036854775807) ∧
  ∃ a cap, v = .slice a l.length cap ∧ (0 < l.length → ∃ b o, a = some ⟨b, o, none⟩ ∧ b < B ∧ ∀ i, i < l.length → w.cell? ⟨b, o + i, none⟩ = some (.int .i64 (intAt l i)))

def RawStrs (B : Nat) (w : World) (v : Value) (l : List ByteArray) : Prop :=
  l.length ≤ 9223372036854775807 ∧ (∀ i, i < l.length → (keyAt l i).size ≤ 9223372036854775807) ∧
  ∃ a cap, v = .slice a l.length cap ∧ (0 < l.length → ∃ b o, a = some ⟨b, o, none⟩ ∧ b < B ∧ ∀ i, i < l.length → w.cell? ⟨b, o + i, none⟩ = some (.string (keyAt l i)))

structure RawIn (B : Nat) (w : World) (x : VN) (ka ki : Value) : Prop where
  keys : RawStrs B w ka x.keys
  kids : RawInts B w ki x.kids
  size : x.s.size ≤ 9223372036854775807
  klo : -9223372036854775808 ≤ x.kind
  khi : x.kind ≤ 9223372036854775807
  nlo : -9223372036854775808 ≤ x.n
  nhi : x.n ≤ 9223372036854775807

structure RawAt (B : Nat) (w : World) (b o : Nat) (x : VN) (ka ki : Value) : Prop where
  c0 : w.cell? ⟨b, o, none⟩ = some (.int .i64 x.kind)
  c1 : w.cell? ⟨b, o + 1, none⟩ = some (.int .i64 x.n)
  c2 : w.cell? ⟨b, o + 2, none⟩ = some (.string x.s)
  c3 : w.cell? ⟨b, o + 3, none⟩ = some ka
  c4 : w.cell? ⟨b, o + 4, none⟩ = some ki
  inn : RawIn B w x ka ki

def RawNodes (B : Nat) (w : World) (v : Value) (vs : List VN) : Prop :=
  vs.length ≤ 9223372036854775807 ∧ ∃ a cap, v = .slice a vs.length cap ∧ (0 < vs.length → ∃ b o, a = some ⟨b, o, none⟩ ∧ b < B ∧ ∀ i, i < vs.length → ∃ ka ki, RawAt B w b (o + i * 5) (nodeAt vs i) ka ki)

/-- A node of at most 1048576 of everything. -/
structure Small (x : VN) : Prop where
  s : x.s.size ≤ 1048576
  kn : x.keys.length ≤ 1048576
  ks : ∀ i, i < x.keys.length → (keyAt x.keys i).size ≤ 1048576
  ki : x.kids.length ≤ 1048576

theorem RawInts.fit {B : Nat} {w : World} {v : Value} {l : List Int} (h : RawInts B w v l) (hs : l.length ≤ 1048576) : IntsAt B w v l := ⟨by omega, h.2.1, h.2.2⟩
theorem RawStrs.fit {B : Nat} {w : World} {v : Value} {l : List ByteArray} (h : RawStrs B w v l) (hs : l.length ≤ 1048576) (hk : ∀ i, i < l.length → (keyAt l i).size ≤ 1048576) : StrsAt B w v l :=
  ⟨by omega, fun i hi => by have := hk i hi; omega, h.2.2⟩
theorem RawIn.fit {B : Nat} {w : World} {x : VN} {ka ki : Value} (h : RawIn B w x ka ki) (hs : Small x) : NodeIn B w x ka ki :=
  ⟨h.keys.fit hs.kn hs.ks, h.kids.fit hs.ki, by have := hs.s; omega, h.klo, h.khi, h.nlo, h.nhi⟩
theorem RawNodes.fit {B : Nat} {w : World} {v : Value} {vs : List VN} (h : RawNodes B w v vs) (hn : vs.length ≤ 1048576) (hs : ∀ i, i < vs.length → Small (nodeAt vs i)) : NodesAt B w v vs := by
  obtain ⟨_, a, cap, e, h3⟩ := h
  refine ⟨by omega, a, cap, e, fun hl => ?_⟩
  obtain ⟨b, o, ea, hb, hc⟩ := h3 hl
  refine ⟨b, o, ea, hb, fun i hi => ?_⟩
  obtain ⟨ka, ki, hn'⟩ := hc i hi
  exact ⟨ka, ki, hn'.c0, hn'.c1, hn'.c2, hn'.c3, hn'.c4, hn'.inn.fit (hs i hi)⟩

theorem RawInts.below {B : Nat} {w w' : World} {v : Value} {l : List Int} (h : RawInts B w v l) (hb : Below B w w') : RawInts B w' v l := by
  obtain ⟨h1, h2, a, cap, e, h3⟩ := h
  refine ⟨h1, h2, a, cap, e, fun hl => ?_⟩
  obtain ⟨b, o, ea, hbB, hc⟩ := h3 hl
  exact ⟨b, o, ea, hbB, fun i hi => (below_cell hb hbB).trans (hc i hi)⟩
theorem RawStrs.below {B : Nat} {w w' : World} {v : Value} {l : List ByteArray} (h : RawStrs B w v l) (hb : Below B w w') : RawStrs B w' v l := by
  obtain ⟨h1, h2, a, cap, e, h3⟩ := h
  refine ⟨h1, h2, a, cap, e, fun hl => ?_⟩
  obtain ⟨b, o, ea, hbB, hc⟩ := h3 hl
  exact ⟨b, o, ea, hbB, fun i hi => (below_cell hb hbB).trans (hc i hi)⟩
theorem RawIn.below {B : Nat} {w w' : World} {x : VN} {ka ki : Value} (h : RawIn B w x ka ki) (hb : Below B w w') : RawIn B w' x ka ki :=
  { h with keys := h.keys.below hb, kids := h.kids.below hb }
theorem RawAt.below {B : Nat} {w w' : World} {b o : Nat} {x : VN} {ka ki : Value} (h : RawAt B w b o x ka ki) (hb : Below B w w') (hB : b < B) : RawAt B w' b o x ka ki :=
  ⟨(below_cell hb hB).trans h.c0, (below_cell hb hB).trans h.c1, (below_cell hb hB).trans h.c2, (below_cell hb hB).trans h.c3, (below_cell hb hB).trans h.c4, h.inn.below hb⟩
theorem RawNodes.below {B : Nat} {w w' : World} {v : Value} {vs : List VN} (h : RawNodes B w v vs) (hb : Below B w w') : RawNodes B w' v vs := by
  obtain ⟨h1, a, cap, e, h3⟩ := h
  refine ⟨h1, a, cap, e, fun hl => ?_⟩
  obtain ⟨b, o, ea, hbB, hc⟩ := h3 hl
  refine ⟨b, o, ea, hbB, fun i hi => ?_⟩
  obtain ⟨ka, ki, hn⟩ := hc i hi
  exact ⟨ka, ki, hn.below hb hbB⟩
end Go.Proofs.Ytnnofahlmlikcaa

/-
  Plain: numbers as bytes, and MessagePack's bytes of numbers, texts and counts.
-/
namespace Go.Proofs.Ytnnofahlmlikcaa
set_option linter.unusedSimpArgs false
set_option linter.unusedVariables false

/-- The byte of a number. -/
def byI (n : Int) : UInt8 := UInt8.ofNat (n % 256).toNat
theorem byI_int (n : Int) : ((byI n).toNat : Int) = n % 256 := by
  have h1 : 0 ≤ n % 256 := Int.emod_nonneg _ (by decide)
  have h2 : n % 256 < 256 := Int.emod_lt_of_pos _ (by decide)
  unfold byI
  rw [UInt8.toNat_ofNat_of_lt' (show (n % 256).toNat < 256 by omega)]
  omega
theorem byI_of {x : UInt8} {n : Int} (h : (x.toNat : Int) = n % 256) : x = byI n := UInt8.toNat_inj.1 (by have := byI_int n; omega)
theorem pow256 (k : Nat) : (2 : Int) ^ (8 * k) = 256 ^ k := by rw [Int.pow_mul]; rfl
theorem byI_shift (n : Int) (k : Nat) : n / 2 ^ (8 * k) % 256 = ((byI (n / 256 ^ k)).toNat : Int) := by rw [byI_int, pow256]
/-- A number in so many bytes, the highest first. -/
def bigB (n : Int) : Nat → List UInt8
  | 0 => []
  | m + 1 => byI (n / 256 ^ m) :: bigB n m
theorem bigB_len (n : Int) (m : Nat) : (bigB n m).length = m := by
  induction m with
  | zero => rfl
  | succ m ih => simp [bigB, ih]
def stepI (m : Int) : Nat := if m < 256 then 0 else if m < 65536 then 1 else if m < 4294967296 then 2 else 3
theorem stepI_le (m : Int) : stepI m ≤ 3 := by unfold stepI; split <;> (try split) <;> (try split) <;> omega
def packI (n : Int) : List UInt8 :=
  if -32 ≤ n ∧ n ≤ 127 then [byI n] else if 0 ≤ n then byI (204 + stepI n) :: bigB n (2 ^ stepI n) else byI (208 + stepI (2 * (-1 - n))) :: bigB n (2 ^ stepI (2 * (-1 - n)))
def packW (s : ByteArray) : List UInt8 :=
  if s.size < 32 then byI (160 + s.size) :: s.data.toList else 217 :: (bigB s.size 1 ++ s.data.toList)
def packC (few many : UInt8) (c : Nat) : List UInt8 := if c < 16 then [byI (few.toNat + c)] else many :: bigB c 2
theorem pow_le3 {k : Nat} (h : k ≤ 3) : 2 ^ k ≤ 8 := by
  match k, h with
  | 0, _ => decide
  | 1, _ => decide
  | 2, _ => decide
  | 3, _ => decide
theorem packI_len (n : Int) : 1 ≤ (packI n).length ∧ (packI n).length ≤ 9 := by
  unfold packI
  split
  · simp
  · split
    · simp [bigB_len]; exact pow_le3 (stepI_le _)
    · simp [bigB_len]; exact pow_le3 (stepI_le _)
theorem packW_len (s : ByteArray) : 1 ≤ (packW s).length ∧ (packW s).length ≤ s.size + 2 := by
  have : s.data.toList.length = s.size := Array.length_toList
  unfold packW
  split
  · simp only [List.length_cons, this]; omega
  · simp only [List.length_cons, List.length_append, bigB_len, this]; omega
theorem packC_len (a b : UInt8) (c : Nat) : 1 ≤ (packC a b c).length ∧ (packC a b c).length ≤ 3 := by
  unfold packC
  split
  · simp
  · simp [bigB_len]
theorem byI_add (n k : Int) : byI (n + 256 * k) = byI n := by unfold byI; rw [Int.add_mul_emod_self_left]
theorem bigB_wrap (n : Int) : ∀ m, m ≤ 8 → bigB (n + 18446744073709551616) m = bigB n m := by
  intro m
  induction m with
  | zero => intro _; rfl
  | succ m ih =>
    intro hm
    rw [bigB, bigB, ih (by omega)]
    congr 1
    have hp : (18446744073709551616 : Int) = 256 ^ m * (256 * 256 ^ (7 - m)) := by
      have : m = 0 ∨ m = 1 ∨ m = 2 ∨ m = 3 ∨ m = 4 ∨ m = 5 ∨ m = 6 ∨ m = 7 := by omega
      rcases this with rfl | rfl | rfl | rfl | rfl | rfl | rfl | rfl <;> decide
    have hpos : (256 : Int) ^ m ≠ 0 := Int.pow_ne_zero (by decide)
    rw [hp, Int.add_mul_ediv_left _ _ hpos, byI_add]
end Go.Proofs.Ytnnofahlmlikcaa

/-
  Plain: CBOR's bytes of heads, numbers and texts.
-/
namespace Go.Proofs.Ytnnofahlmlikcaa
set_option linter.unusedSimpArgs false
set_option linter.unusedVariables false

/-- A head: its kind and its number. -/
def headC (k : Nat) (n : Int) : List UInt8 :=
  if n < 24 then [byI (32 * k + n)] else byI (32 * k + 24 + stepI n) :: bigB n (2 ^ stepI n)
def cborN (n : Int) : List UInt8 := if n < 0 then headC 1 (-1 - n) else headC 0 n
def cborW (s : ByteArray) : List UInt8 := headC 3 s.size ++ s.data.toList
theorem headC_len (k : Nat) (n : Int) : 1 ≤ (headC k n).length ∧ (headC k n).length ≤ 9 := by
  unfold headC
  split
  · simp
  · simp [bigB_len]; exact pow_le3 (stepI_le _)
theorem headC_low {k : Nat} {n : Int} (h : n < 24) : headC k n = [byI (32 * k + n)] := by unfold headC; rw [if_pos h]
theorem headC_big {k : Nat} {n : Int} (h : ¬ n < 24) {st : Nat} (hs : stepI n = st) {c : UInt8} (hc : c = byI (32 * k + 24 + st)) : headC k n = c :: bigB n (2 ^ st) := by unfold headC; rw [if_neg h, hs, hc]
theorem cborN_len (n : Int) : 1 ≤ (cborN n).length ∧ (cborN n).length ≤ 9 := by
  unfold cborN
  split <;> exact headC_len _ _
theorem cborW_len (s : ByteArray) : 1 ≤ (cborW s).length ∧ (cborW s).length ≤ s.size + 9 := by
  have h1 : s.data.toList.length = s.size := Array.length_toList
  have h2 := headC_len 3 s.size
  unfold cborW
  rw [List.length_append, h1]
  omega
end Go.Proofs.Ytnnofahlmlikcaa
