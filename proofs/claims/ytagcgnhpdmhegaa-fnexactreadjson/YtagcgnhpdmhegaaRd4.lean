/-
  One node alone, in new memory.
-/
import Derived.Test.YtagcgnhpdmhegaaNest
import Derived.Test.YtagcgnhpdmhegaaRdC
import Derived.Test.YtagcgnhpdmhegaaStb
import Derived.Test.YtagcgnhpdmhegaaBrM
import Derived.Test.YtagcgnhpdmhegaaGotP
import Derived.Test.YtagcgnhpdmhegaaMarkN
import Derived.Test.YtagcgnhpdmhegaaProg
import Derived.BigQuiet
import Derived.Laws.Closers25b
import Derived.Laws.DeepStrings4
namespace Go.Proofs.Ytagcgnhpdmhegaa
open Go.RowKit
set_option linter.unusedSimpArgs false
set_option linter.unusedVariables false

def leafN (kind n : Int) (s : ByteArray) : List VN := [{ kind := kind, n := n, s := s, keys := [], kids := [] }]

theorem leaf_nest (w : World) (kind n : Int) (s : ByteArray) : Nest w.heap.size (w.alloc (.cells #[.int .i64 kind, .int .i64 n, .string s, .slice none 0 0, .slice none 0 0] 42)) (.slice (some ⟨w.heap.size, 0, none⟩) 1 1) (leafN kind n s) (fun _ => .slice none 0 0) (fun _ => .slice none 0 0) := by
  refine ⟨?_, fun i hi => ?_, fun i hi => ?_, fun i j hi hj hne => ?_, fun i j hi hj hne => ?_⟩
  · have := World.ownsRow_lit (base := w.heap.size) (e := 42) (size := 5) w #[.int .i64 kind, .int .i64 n, .string s, .slice none 0 0, .slice none 0 0] 1 (Nat.le_refl _) (by simp [maxLen]) rfl
    have eu : upd (fun _ => Value.slice none 0 0) 0 (.slice none 0 0) = fun _ => .slice none 0 0 := by funext i; unfold upd; split <;> rfl
    have e : nestCells (leafN kind n s) (fun _ => .slice none 0 0) (fun _ => .slice none 0 0) = [.int .i64 kind, .int .i64 n, .string s, .slice none 0 0, .slice none 0 0] := by
      have h := nestCells_snoc [] { kind := kind, n := n, s := s, keys := [], kids := [] } (fun _ => .slice none 0 0) (fun _ => .slice none 0 0) (.slice none 0 0) (.slice none 0 0)
      simp only [List.length_nil, eu, List.nil_append] at h
      exact h
    rw [e]
    exact this
  · obtain rfl : i = 0 := by simp [leafN] at hi; omega
    exact World.ownsRow_nil _ _ _ _
  · obtain rfl : i = 0 := by simp [leafN] at hi; omega
    exact World.ownsRow_nil _ _ _ _
  · simp [leafN] at hi hj; omega
  · simp [leafN] at hi hj; omega
end Go.Proofs.Ytagcgnhpdmhegaa

/-
  Plain: bytes at a place as numbers and texts, as the program and the specification take them.
-/
namespace Go.Proofs.Ytagcgnhpdmhegaa
open Go.RowKit
set_option linter.unusedSimpArgs false
set_option linter.unusedVariables false

/-- The byte at a place. -/
def byAt (L : List UInt8) (p : Nat) : Nat := (L.getD p 0).toNat
theorem byAt_lt (L : List UInt8) (p : Nat) : byAt L p < 256 := (L.getD p 0).toNat_lt
/-- So many bytes as a number, the highest first. -/
def bigN (L : List UInt8) (p : Nat) : Nat → Nat
  | 0 => 0
  | k + 1 => 256 * bigN L p k + byAt L (p + k)
theorem bigN_lt (L : List UInt8) (p k : Nat) : bigN L p k < 256 ^ k := by
  induction k with
  | zero => simp [bigN]
  | succ k ih => have := byAt_lt L (p + k); rw [bigN, Nat.pow_succ]; omega
theorem bigN_mono (L : List UInt8) (p : Nat) {j k : Nat} (h : j ≤ k) : bigN L p j ≤ bigN L p k := by
  induction k with
  | zero => obtain rfl : j = 0 := by omega
            exact Nat.le_refl _
  | succ k ih =>
    by_cases e : j = k + 1
    · subst e; exact Nat.le_refl _
    · have := ih (by omega); rw [bigN]; omega
def cutT (L : List UInt8) (p n : Nat) : ByteArray := txt ((L.drop p).take n)
theorem cutT_size {L : List UInt8} {p n : Nat} (h : p + n ≤ L.length) : (cutT L p n).size = n := by
  unfold cutT; rw [txt_size, List.length_take, List.length_drop]; omega
def numT (n : Int) : VT := .mk 3 n ByteArray.empty [] []
def wordT (s : ByteArray) : VT := .mk 4 0 s [] []
def nullT : VT := .mk 1 0 ByteArray.empty [] []
def boolT (n : Int) : VT := .mk 2 n ByteArray.empty [] []
/-- The greatest number. -/
def maxI : Nat := 1000000000000000
/-- The program: a number in so many bytes, within its bounds; a text of so many. -/
def numI (L : List UInt8) (p w : Nat) : Option (Nat × Nat) := if p + w ≤ L.length ∧ bigN L p w ≤ maxI then some (bigN L p w, p + w) else none
def takeI (L : List UInt8) (n p : Nat) : Option (ByteArray × Nat) := if p + n ≤ L.length then some (cutT L p n, p + n) else none
def wordI (L : List UInt8) (n p : Nat) : Option (VT × Nat) := if p + n ≤ L.length then some (wordT (cutT L p n), p + n) else none
/-- The specification: the same. -/
def bigS (L : List UInt8) (p w : Nat) : Option (Nat × Nat) := if p + w ≤ L.length ∧ bigN L p (w - 1) ≤ maxI then some (bigN L p w, p + w) else none
def takeS (L : List UInt8) (n p : Nat) : Option (ByteArray × Nat) := if n ≤ 60 ∧ p + n ≤ L.length then some (cutT L p n, p + n) else none

theorem leaf_lay (f : Nat) (k n : Int) (s : ByteArray) : layT (f + 1) (.mk k n s [] []) 0 = leafN k n s := rfl
theorem leaf_full (f : Nat) (k n : Int) (s : ByteArray) : FullT (f + 1) (.mk k n s [] []) := fun j hj => absurd hj (by simp)
theorem leaf_len (k n : Int) (s : ByteArray) : (leafN k n s).length = 1 := rfl
/-- A leaf that is wrong by itself. -/
theorem leaf_wrong {k n : Int} {s : ByteArray} (h : nodeB { kind := k, n := n, s := s, keys := [], kids := [] } = false) : Wrong (leafN k n s) := ⟨0, by simp [leafN], h⟩
theorem big_num {n : Int} (h : n < -1000000000000000 ∨ 1000000000000000 < n) : nodeB { kind := 3, n := n, s := ByteArray.empty, keys := [], kids := [] } = false := by
  unfold nodeB namedB
  simp
  intro _ _
  omega
theorem big_text {s : ByteArray} (h : 60 < s.size) : textB s = false := by
  unfold textB
  simp; omega
theorem text_doom {f c deep : Nat} {s : ByteArray} (h : 60 < s.size) : Doom (f + 1) c deep (wordT s) := by
  refine .inl (fun hg => ?_)
  have h1 := hg.1
  unfold nodeT nodeB namedB at h1
  simp [big_text h] at h1
theorem num_doom {f c deep : Nat} {n : Int} (h : n < -1000000000000000 ∨ 1000000000000000 < n) : Doom (f + 1) c deep (numT n) := by
  refine .inl (fun hg => ?_)
  have h1 : nodeB { kind := 3, n := n, s := ByteArray.empty, keys := [], kids := [] } = true := hg.1
  rw [big_num h] at h1
  cases h1
theorem many_doom {f c deep : Nat} {t : VT} (hf : FullT f t) (h : 80 ≤ c) : Doom f c deep t := .inr (.inl (by have := layT_len hf 0; omega))
end Go.Proofs.Ytagcgnhpdmhegaa

/-
  Trees whose rows lie in blocks of a given kind; what a reader's call leaves.
-/
namespace Go.Proofs.Ytagcgnhpdmhegaa
open Go.RowKit
set_option linter.unusedSimpArgs false
set_option linter.unusedVariables false

def StrsP (P : Nat → Prop) (w : World) (v : Value) (l : List ByteArray) : Prop :=
  l.length ≤ 8796093022208 ∧ (∀ i, i < l.length → (keyAt l i).size ≤ 140737488355328) ∧
  ∃ a cap, v = .slice a l.length cap ∧ (0 < l.length → ∃ b o, a = some ⟨b, o, none⟩ ∧ P b ∧ ∀ i, i < l.length → w.cell? ⟨b, o + i, none⟩ = some (.string (keyAt l i)))
def TItemsP (P : Nat → Prop) (w : World) (it : Value) (n : Nat) (Q : Nat → Value → Prop) : Prop :=
  n ≤ 100000 ∧ ∃ a cap, it = .slice a n cap ∧ (0 < n → ∃ b, a = some ⟨b, 0, none⟩ ∧ P b ∧ ∀ j, j < n → ∃ t x, w.cell? ⟨b, j, none⟩ = some (.iface t x) ∧ Q j (.iface t x))
/-- As TreeAt, the rows in blocks that meet 'P'. -/
def TreeP (P : Nat → Prop) (w : World) : Nat → VT → Value → Prop
  | 0, _, _ => False
  | f + 1, .mk kind n s keys kids, v =>
    (kind = 1 ∧ n = 0 ∧ s = ByteArray.empty ∧ keys = [] ∧ kids = [] ∧ v = .iface 96 (.agg #[])) ∨
    (kind = 2 ∧ s = ByteArray.empty ∧ keys = [] ∧ kids = [] ∧ v = .iface 82 (.agg #[.int .i64 n])) ∨
    (kind = 3 ∧ s = ByteArray.empty ∧ keys = [] ∧ kids = [] ∧ v = .iface 83 (.agg #[.int .i64 n])) ∨
    (kind = 4 ∧ n = 0 ∧ keys = [] ∧ kids = [] ∧ v = .iface 85 (.agg #[.string s])) ∨
    (kind = 5 ∧ n = 0 ∧ s = ByteArray.empty ∧ keys = [] ∧ ∃ it, v = .iface 112 (.agg #[it]) ∧ TItemsP P w it kids.length (fun j u => TreeP P w f (kidT kids j) u)) ∨
    (kind = 6 ∧ n = 0 ∧ s = ByteArray.empty ∧ ∃ ks it, v = .iface 87 (.agg #[ks, it]) ∧ StrsP P w ks keys ∧ TItemsP P w it kids.length (fun j u => TreeP P w f (kidT kids j) u))
theorem cellB {w w' : World} {b o : Nat} (h : w'.heap[b]? = w.heap[b]?) : w'.cell? ⟨b, o, none⟩ = w.cell? ⟨b, o, none⟩ := World.cell?_of_block (w := w) (a := ⟨b, o, none⟩) h
theorem StrsP.keep {P P' : Nat → Prop} {w w' : World} {v : Value} {l : List ByteArray} (hk : ∀ b, P b → w'.heap[b]? = w.heap[b]?) (hP : ∀ b, P b → P' b) (h : StrsP P w v l) : StrsP P' w' v l := by
  obtain ⟨h1, h2, a, cap, e, h3⟩ := h
  refine ⟨h1, h2, a, cap, e, fun hp => ?_⟩
  obtain ⟨b, o, e2, hb, hc⟩ := h3 hp
  exact ⟨b, o, e2, hP b hb, fun i hi => (cellB (hk b hb)).trans (hc i hi)⟩
theorem StrsP.at {P : Nat → Prop} {w : World} {v : Value} {l : List ByteArray} {B : Nat} (h : StrsP P w v l) (hB : ∀ b, P b → b < B) : StrsAt B w v l := by
  obtain ⟨h1, h2, a, cap, e, h3⟩ := h
  refine ⟨h1, h2, a, cap, e, fun hp => ?_⟩
  obtain ⟨b, o, e2, hb, hc⟩ := h3 hp
  exact ⟨b, o, e2, hB b hb, hc⟩
theorem TreeP.keep {P P' : Nat → Prop} {w w' : World} (hk : ∀ b, P b → w'.heap[b]? = w.heap[b]?) (hP : ∀ b, P b → P' b) : ∀ {f : Nat} {t : VT} {v : Value}, TreeP P w f t v → TreeP P' w' f t v := by
  intro f
  induction f with
  | zero => intro t v h; exact h.elim
  | succ f ih =>
    intro t v h
    obtain ⟨kind, n, s, keys, kids⟩ := t
    have hit : ∀ it, TItemsP P w it kids.length (fun j u => TreeP P w f (kidT kids j) u) → TItemsP P' w' it kids.length (fun j u => TreeP P' w' f (kidT kids j) u) := by
      rintro it ⟨h0, a, cap, e, hx⟩
      refine ⟨h0, a, cap, e, fun hn => ?_⟩
      obtain ⟨b, ea, h2, h3⟩ := hx hn
      refine ⟨b, ea, hP b h2, fun j hj => ?_⟩
      obtain ⟨t, x, hcc, hv⟩ := h3 j hj
      exact ⟨t, x, (cellB (hk b h2)).trans hcc, ih hv⟩
    rcases h with h | h | h | h | ⟨h1, h2, h3, h4, it, e, hi⟩ | ⟨h1, h2, h3, ks, it, e, hs, hi⟩
    · exact Or.inl h
    · exact Or.inr (Or.inl h)
    · exact Or.inr (Or.inr (Or.inl h))
    · exact Or.inr (Or.inr (Or.inr (Or.inl h)))
    · exact Or.inr (Or.inr (Or.inr (Or.inr (Or.inl ⟨h1, h2, h3, h4, it, e, hit it hi⟩))))
    · exact Or.inr (Or.inr (Or.inr (Or.inr (Or.inr ⟨h1, h2, h3, ks, it, e, hs.keep hk hP, hit it hi⟩))))
theorem TreeP.at {P : Nat → Prop} {w : World} {B : Nat} (hB : ∀ b, P b → b < B) : ∀ {f : Nat} {t : VT} {v : Value}, TreeP P w f t v → TreeAt B w f t v := by
  intro f
  induction f with
  | zero => intro t v h; exact h.elim
  | succ f ih =>
    intro t v h
    obtain ⟨kind, n, s, keys, kids⟩ := t
    have hit : ∀ it, TItemsP P w it kids.length (fun j u => TreeP P w f (kidT kids j) u) → TItems B w it kids.length (fun j u => TreeAt B w f (kidT kids j) u) := by
      rintro it ⟨h0, a, cap, e, hx⟩
      refine ⟨h0, a, cap, e, fun hn => ?_⟩
      obtain ⟨b, ea, h2, h3⟩ := hx hn
      refine ⟨b, ea, hB b h2, fun j hj => ?_⟩
      obtain ⟨t, x, hcc, hv⟩ := h3 j hj
      exact ⟨t, x, hcc, ih hv⟩
    rcases h with h | h | h | h | ⟨h1, h2, h3, h4, it, e, hi⟩ | ⟨h1, h2, h3, ks, it, e, hs, hi⟩
    · exact Or.inl h
    · exact Or.inr (Or.inl h)
    · exact Or.inr (Or.inr (Or.inl h))
    · exact Or.inr (Or.inr (Or.inr (Or.inl h)))
    · exact Or.inr (Or.inr (Or.inr (Or.inr (Or.inl ⟨h1, h2, h3, h4, it, e, hit it hi⟩))))
    · exact Or.inr (Or.inr (Or.inr (Or.inr (Or.inr ⟨h1, h2, h3, ks, it, e, hs.at hB, hit it hi⟩))))
theorem TreeP.iface {P : Nat → Prop} {w : World} {f : Nat} {t : VT} {v : Value} (h : TreeP P w f t v) : ∃ ty x, v = .iface ty x := by
  cases f with
  | zero => exact h.elim
  | succ f =>
    obtain ⟨kind, n, s, keys, kids⟩ := t
    rcases h with ⟨_, _, _, _, _, e⟩ | ⟨_, _, _, _, e⟩ | ⟨_, _, _, _, e⟩ | ⟨_, _, _, _, e⟩ | ⟨_, _, _, _, _, e, _⟩ | ⟨_, _, _, _, _, e, _⟩ <;> exact ⟨_, _, e⟩
/-- What is new since a world. -/
def NewB (w w' : World) (b : Nat) : Prop := w.heap.size ≤ b ∧ b < w'.heap.size
/-- What a reading answers: a tree in new memory, the reader further on; or it gives up. -/
def ReadOr (r : Option (VT × Nat)) (f rb : Nat) (s : ByteArray) (p : Nat) (w : World) (e : Ending) (w' : World) : Prop :=
  (∃ t q x, r = some (t, q) ∧ e = .returned x ∧ TreeP (NewB w w') w' f t x ∧ BrAt w' rb s q ∧ But rb w w' ∧ p < q) ∨ (r = none ∧ e = gup ∧ But rb w w')
/-- A function that reads so. -/
def GAll (G : FuncId) (L : List UInt8) (R : Nat → Option (VT × Nat)) (f rb : Nat) (s : ByteArray) : Prop :=
  ∀ p w, BrAt w rb s p → s.size < p + f → Calls Try.prog G #[.pointer (some ⟨rb, 0, none⟩)] w (ReadOr (R p) f rb s p w)
theorem leafP {P : Nat → Prop} {w : World} (f : Nat) : TreeP P w (f + 1) nullT (.iface 96 (.agg #[])) ∧ (∀ n, TreeP P w (f + 1) (boolT n) (.iface 82 (.agg #[.int .i64 n]))) ∧ (∀ n, TreeP P w (f + 1) (numT n) (.iface 83 (.agg #[.int .i64 n]))) ∧ ∀ s, TreeP P w (f + 1) (wordT s) (.iface 85 (.agg #[.string s])) :=
  ⟨.inl ⟨rfl, rfl, rfl, rfl, rfl, rfl⟩, fun n => .inr (.inl ⟨rfl, rfl, rfl, rfl, rfl⟩), fun n => .inr (.inr (.inl ⟨rfl, rfl, rfl, rfl, rfl⟩)), fun s => .inr (.inr (.inr (.inl ⟨rfl, rfl, rfl, rfl, rfl⟩)))⟩
theorem But.size_le {rb : Nat} {a b : World} (h : But rb a b) : a.heap.size ≤ b.heap.size := h.size

theorem getB {s : ByteArray} {p : Nat} (h : p < s.size) : byAt s.data.toList p = s[p].toNat := by
  unfold byAt
  rw [List.getD_eq_getElem?_getD, getK? h]
  rfl
/-- A reader behind so many bytes more. -/
theorem BrAt.skip {w : World} {rb p n : Nat} {s : ByteArray} (h : BrAt w rb s p) (hp : p + n ≤ s.size) : BrAt (w.setCell ⟨rb, 1, none⟩ (.int .i64 ((p + n : Nat) : Int))) rb s (p + n) :=
  ⟨by simpa using h.lt, by rw [World.cell?_setCell_other (h := by simp)]; exact h.src, World.cell?_setCell_same _ _ _ h.place, by rw [World.frozen?_setCell]; exact h.free, hp⟩

end Go.Proofs.Ytagcgnhpdmhegaa

/-
  The reader of codes from which values are drawn: what each draw may answer, and that it turns nothing but its own place.
-/
namespace Go.Proofs.Ytagcgnhpdmhegaa
open Go.RowKit
set_option linter.unusedSimpArgs false
set_option linter.unusedVariables false

/-- A reader in block rb, of n bytes, at place p. -/
structure RdAt (w : World) (rb n p : Nat) : Prop where
  lt : rb < w.heap.size
  src : ∃ a cap, w.cell? ⟨rb, 0, none⟩ = some (.slice a n cap) ∧ (0 < n → ∃ b o, a = some ⟨b, o, none⟩ ∧ b < rb ∧ ∀ i, i < n → ∃ x : Nat, x < 256 ∧ w.cell? ⟨b, o + i, none⟩ = some (.int .u8 x))
  place : w.cell? ⟨rb, 1, none⟩ = some (.int .i64 p)
  le : p ≤ n
  few : n ≤ 1048576
  free : w.frozen? ⟨rb, 1, none⟩ = false

/-- What a draw leaves: the reader at some place, nothing else turned. -/
structure Drawn (rb n : Nat) (w w' : World) : Prop where
  rd : ∃ p, RdAt w' rb n p
  only : Only (fun c => c = rb) w w'
  below : Below rb w w'

theorem frozen_same {w w' : World} {b o : Nat} (h : w'.heap[b]? = w.heap[b]?) : w'.frozen? ⟨b, o, none⟩ = w.frozen? ⟨b, o, none⟩ := by
  unfold World.frozen?
  rw [show w'.heap[(⟨b, o, none⟩ : Addr).block]? = w.heap[(⟨b, o, none⟩ : Addr).block]? from h]

theorem RdAt.below {w w' : World} {rb n p : Nat} (h : RdAt w rb n p) (hb : Below w.heap.size w w') : RdAt w' rb n p := by
  have hl := h.lt
  refine ⟨by have := hb.size; omega, ?_, (below_cell hb hl).trans h.place, h.le, h.few, (frozen_same (hb.block rb hl)).trans h.free⟩
  obtain ⟨a, cap, h1, h2⟩ := h.src
  refine ⟨a, cap, (below_cell hb hl).trans h1, fun hp => ?_⟩
  obtain ⟨b, o, e, hlt, hx⟩ := h2 hp
  exact ⟨b, o, e, hlt, fun i hi => by obtain ⟨x, h3, h4⟩ := hx i hi; exact ⟨x, h3, (below_cell hb (by omega)).trans h4⟩⟩

theorem RdAt.step {w : World} {rb n p : Nat} (h : RdAt w rb n p) (hp : p < n) : RdAt (w.setCell ⟨rb, 1, none⟩ (.int .i64 ((p + 1 : Nat) : Int))) rb n (p + 1) := by
  refine ⟨by simpa using h.lt, ?_, World.cell?_setCell_same _ _ _ h.place, by omega, h.few, by rw [World.frozen?_setCell]; exact h.free⟩
  obtain ⟨a, cap, h1, h2⟩ := h.src
  refine ⟨a, cap, by rw [World.cell?_setCell_other (h := by simp)]; exact h1, fun hp => ?_⟩
  obtain ⟨b, o, e, hlt, hx⟩ := h2 hp
  refine ⟨b, o, e, hlt, fun i hi => ?_⟩
  obtain ⟨x, h3, h4⟩ := hx i hi
  exact ⟨x, h3, by rw [World.cell?_setCell_other (h := by intro e2; injection e2 with e3; omega)]; exact h4⟩

theorem Drawn.refl {rb n p : Nat} {w : World} (h : RdAt w rb n p) : Drawn rb n w w := ⟨⟨p, h⟩, Only.refl _ _, Below.refl _ _⟩
theorem Drawn.trans {rb n : Nat} {a b c : World} (h : Drawn rb n a b) (k : Drawn rb n b c) : Drawn rb n a c := ⟨k.rd, h.only.trans k.only, h.below.trans k.below⟩
theorem Drawn.next {rb n : Nat} {a b c : World} (h : Drawn rb n a b) (k : Below b.heap.size b c) : Drawn rb n a c := by
  obtain ⟨p, hp⟩ := h.rd
  exact ⟨⟨p, hp.below k⟩, h.only.trans (Only.of_below k), h.below.trans (k.mono (Nat.le_of_lt hp.lt))⟩

/-! ### Draws of numbers below a bound, and of yes or no -/
end Go.Proofs.Ytagcgnhpdmhegaa

/-
  Draws of words, of numbers in a range, and of numbers just outside; draws out of a table, of texts and of numbers.
-/
namespace Go.Proofs.Ytagcgnhpdmhegaa
open Go.RowKit
set_option linter.unusedSimpArgs false
set_option linter.unusedVariables false

theorem bits_u64 (op : BinOp) (a b : Int) : ∃ x : Nat, bits op .u64 a b = (x : Int) ∧ x < 18446744073709551616 := by
  have h := bits_within op .u64 a b
  have h1 : (0 : Int) ≤ bits op .u64 a b := h.1
  have h2 : bits op .u64 a b ≤ 18446744073709551615 := h.2
  exact ⟨(bits op .u64 a b).toNat, by omega, by omega⟩

def tabStr (A : Array Value) (m : Nat) : Bool := (List.range m).all fun i => match A[i]? with | some (.string s) => decide (s.size ≤ 60) | _ => false
def tabInt (A : Array Value) (m : Nat) : Bool := (List.range m).all fun i => match A[i]? with | some (.int .i64 x) => decide (0 ≤ x) && decide (x ≤ 10000000000000000) | _ => false

theorem tabStr_at {A : Array Value} {m : Nat} (h : tabStr A m = true) {i : Nat} (hi : i < m) : ∃ s, A[i]? = some (.string s) ∧ s.size ≤ 60 := by
  have := List.all_eq_true.1 h i (List.mem_range.2 hi)
  split at this
  · rename_i s e; exact ⟨s, e, by simpa using this⟩
  · cases this
theorem tabInt_at {A : Array Value} {m : Nat} (h : tabInt A m = true) {i : Nat} (hi : i < m) : ∃ x, A[i]? = some (.int .i64 x) ∧ 0 ≤ x ∧ x ≤ 10000000000000000 := by
  have := List.all_eq_true.1 h i (List.mem_range.2 hi)
  split at this
  · rename_i x e; exact ⟨x, e, by simpa using this⟩
  · cases this

theorem cell_tab {w : World} {A : Array Value} {T i : Nat} {v : Value} (h : A[i]? = some v) : (w.alloc (.cells A T)).cell? ⟨w.heap.size, i, none⟩ = some v := by
  simp [h]

end Go.Proofs.Ytagcgnhpdmhegaa
