/-
  Values as trees: how one lies behind the interface, and which nodes are laid for it.
-/
import Derived.Test.YtiamkmkbkehldaaGreatDoorVal
import Derived.Test.YtiamkmkbkehldaaGreatDoorPhase
import Derived.Laws.Concat
import Derived.Laws.IdiomStrings
import Derived.Deep.QuietTactic
import Derived.BigQuiet
import Derived.WalkSmall
import Derived.Deep.RegionWith
namespace Go.Proofs.YtiamkmkbkehldaaGreatDoor
open Go.RowKit
set_option linter.unusedSimpArgs false
set_option linter.unusedVariables false

inductive VT where
  | mk (kind n : Int) (s : ByteArray) (keys : List ByteArray) (kids : List VT)

def VT.zero : VT := .mk 0 0 ByteArray.empty [] []
def kidT (l : List VT) (j : Nat) : VT := l.getD j VT.zero

def TItems (B : Nat) (w : World) (it : Value) (n : Nat) (P : Nat → Value → Prop) : Prop :=
  n ≤ 100000 ∧ ∃ a cap, it = .slice a n cap ∧ (0 < n → ∃ b, a = some ⟨b, 0, none⟩ ∧ b < B ∧ ∀ j, j < n → ∃ t x, w.cell? ⟨b, j, none⟩ = some (.iface t x) ∧ P j (.iface t x))

/-- The value of a tree; its rows lie below block B. -/
def TreeAt (B : Nat) (w : World) : Nat → VT → Value → Prop
  | 0, _, _ => False
  | f + 1, .mk kind n s keys kids, v =>
    (kind = 1 ∧ n = 0 ∧ s = ByteArray.empty ∧ keys = [] ∧ kids = [] ∧ v = .iface 170 (.agg #[])) ∨
    (kind = 2 ∧ s = ByteArray.empty ∧ keys = [] ∧ kids = [] ∧ v = .iface 163 (.agg #[.int .i64 n])) ∨
    (kind = 3 ∧ s = ByteArray.empty ∧ keys = [] ∧ kids = [] ∧ v = .iface 164 (.agg #[.int .i64 n])) ∨
    (kind = 4 ∧ n = 0 ∧ keys = [] ∧ kids = [] ∧ v = .iface 110 (.agg #[.string s])) ∨
    (kind = 5 ∧ n = 0 ∧ s = ByteArray.empty ∧ keys = [] ∧ ∃ it, v = .iface 174 (.agg #[it]) ∧ TItems B w it kids.length (fun j u => TreeAt B w f (kidT kids j) u)) ∨
    (kind = 6 ∧ n = 0 ∧ s = ByteArray.empty ∧ ∃ ks it, v = .iface 119 (.agg #[ks, it]) ∧ StrsAt B w ks keys ∧ TItems B w it kids.length (fun j u => TreeAt B w f (kidT kids j) u))

theorem TreeAt.keep {B B' : Nat} {w w' : World} (hk : ∀ k, k < B → w'.heap[k]? = w.heap[k]?) (hB : B ≤ B') : ∀ {f : Nat} {t : VT} {v : Value}, TreeAt B w f t v → TreeAt B' w' f t v := by
  intro f
  induction f with
  | zero => intro t v h; exact h.elim
  | succ f ih =>
    intro t v h
    obtain ⟨kind, n, s, keys, kids⟩ := t
    have hc : ∀ b j, b < B → w'.cell? ⟨b, j, none⟩ = w.cell? ⟨b, j, none⟩ := fun b j hb => World.cell?_of_block (hk b hb)
    have hit : ∀ it, TItems B w it kids.length (fun j u => TreeAt B w f (kidT kids j) u) → TItems B' w' it kids.length (fun j u => TreeAt B' w' f (kidT kids j) u) := by
      rintro it ⟨h0, a, cap, e, hx⟩
      refine ⟨h0, a, cap, e, fun hn => ?_⟩
      obtain ⟨b, ea, h2, h3⟩ := hx hn
      refine ⟨b, ea, by omega, fun j hj => ?_⟩
      obtain ⟨t, x, hcc, hv⟩ := h3 j hj
      exact ⟨t, x, (hc b j h2).trans hcc, ih hv⟩
    rcases h with h | h | h | h | ⟨h1, h2, h3, h4, it, e, hi⟩ | ⟨h1, h2, h3, ks, it, e, hs, hi⟩
    · exact Or.inl h
    · exact Or.inr (Or.inl h)
    · exact Or.inr (Or.inr (Or.inl h))
    · exact Or.inr (Or.inr (Or.inr (Or.inl h)))
    · exact Or.inr (Or.inr (Or.inr (Or.inr (Or.inl ⟨h1, h2, h3, h4, it, e, hit it hi⟩))))
    · exact Or.inr (Or.inr (Or.inr (Or.inr (Or.inr ⟨h1, h2, h3, ks, it, e, (hs.keep (lo := B) (B := B) (fun k _ hk' => hk k hk') (Nat.le_refl _)).wide hB, hit it hi⟩))))

theorem TreeAt.more {B : Nat} {w : World} : ∀ {f g : Nat} {t : VT} {v : Value}, f ≤ g → TreeAt B w f t v → TreeAt B w g t v := by
  intro f
  induction f with
  | zero => intro g t v _ h; exact h.elim
  | succ f ih =>
    intro g t v hfg h
    match g, hfg with
    | g + 1, hfg =>
      obtain ⟨kind, n, s, keys, kids⟩ := t
      have hit : ∀ it, TItems B w it kids.length (fun j u => TreeAt B w f (kidT kids j) u) → TItems B w it kids.length (fun j u => TreeAt B w g (kidT kids j) u) := by
        rintro it ⟨h0, a, cap, e, hx⟩
        refine ⟨h0, a, cap, e, fun hn => ?_⟩
        obtain ⟨b, ea, h2, h3⟩ := hx hn
        refine ⟨b, ea, by omega, fun j hj => ?_⟩
        obtain ⟨t, x, hcc, hv⟩ := h3 j hj
        exact ⟨t, x, hcc, ih (by omega) hv⟩
      rcases h with h | h | h | h | ⟨h1, h2, h3, h4, it, e, hi⟩ | ⟨h1, h2, h3, ks, it, e, hs, hi⟩
      · exact Or.inl h
      · exact Or.inr (Or.inl h)
      · exact Or.inr (Or.inr (Or.inl h))
      · exact Or.inr (Or.inr (Or.inr (Or.inl h)))
      · exact Or.inr (Or.inr (Or.inr (Or.inr (Or.inl ⟨h1, h2, h3, h4, it, e, hit it hi⟩))))
      · exact Or.inr (Or.inr (Or.inr (Or.inr (Or.inr ⟨h1, h2, h3, ks, it, e, hs, hit it hi⟩))))

/-! ### The nodes that are laid -/
def layKidsT (F : VT → Nat → List VN) (sh : Nat) : List VT → List VN → List Int → List VN × List Int
  | [], acc, ks => (acc, ks)
  | k :: r, acc, ks => layKidsT F sh r (acc ++ F k (sh + acc.length)) (ks ++ [((sh + (acc ++ F k (sh + acc.length)).length : Nat) : Int) - 1])

def layT : Nat → VT → Nat → List VN
  | 0, _, _ => []
  | f + 1, .mk kind n s keys kids, sh => (layKidsT (layT f) sh kids [] []).1 ++ [{ kind := kind, n := n, s := s, keys := keys, kids := (layKidsT (layT f) sh kids [] []).2 }]

theorem layKidsT_append (F : VT → Nat → List VN) (sh : Nat) : ∀ (l m : List VT) (acc : List VN) (ks : List Int), layKidsT F sh (l ++ m) acc ks = layKidsT F sh m (layKidsT F sh l acc ks).1 (layKidsT F sh l acc ks).2 := by
  intro l
  induction l with
  | nil => intro m acc ks; rfl
  | cons k r ih => intro m acc ks; exact ih m _ _

theorem layKidsT_grow (F : VT → Nat → List VN) (sh : Nat) : ∀ (l : List VT) (acc : List VN) (ks : List Int), acc.length ≤ (layKidsT F sh l acc ks).1.length := by
  intro l
  induction l with
  | nil => intro acc ks; exact Nat.le_refl _
  | cons k r ih => intro acc ks; exact Nat.le_trans (by simp) (ih _ _)

theorem layKidsT_kids (F : VT → Nat → List VN) (sh : Nat) : ∀ (l : List VT) (acc : List VN) (ks : List Int), (layKidsT F sh l acc ks).2.length = ks.length + l.length := by
  intro l
  induction l with
  | nil => intro acc ks; rfl
  | cons k r ih => intro acc ks; rw [layKidsT, ih]; simp; omega

/-- After the first k parts. -/
def accT (f sh : Nat) (l : List VT) (k : Nat) : List VN := (layKidsT (layT f) sh (l.take k) [] []).1
def ksT (f sh : Nat) (l : List VT) (k : Nat) : List Int := (layKidsT (layT f) sh (l.take k) [] []).2

theorem accT_zero (f sh : Nat) (l : List VT) : accT f sh l 0 = [] := by simp [accT, layKidsT]
theorem ksT_zero (f sh : Nat) (l : List VT) : ksT f sh l 0 = [] := by simp [ksT, layKidsT]
theorem ksT_len (f sh : Nat) (l : List VT) {k : Nat} (h : k ≤ l.length) : (ksT f sh l k).length = k := by
  unfold ksT; rw [layKidsT_kids]; simp; omega

theorem take_kid {l : List VT} {k : Nat} (h : k < l.length) : l.take (k + 1) = l.take k ++ [kidT l k] := by
  rw [List.take_add_one, List.getElem?_eq_getElem h]
  simp [kidT, h]

theorem accT_succ (f sh : Nat) {l : List VT} {k : Nat} (h : k < l.length) : accT f sh l (k + 1) = accT f sh l k ++ layT f (kidT l k) (sh + (accT f sh l k).length) := by
  unfold accT; rw [take_kid h, layKidsT_append]; rfl
theorem ksT_succ (f sh : Nat) {l : List VT} {k : Nat} (h : k < l.length) : ksT f sh l (k + 1) = ksT f sh l k ++ [((sh + (accT f sh l (k + 1)).length : Nat) : Int) - 1] := by
  rw [accT_succ f sh h]; unfold ksT accT; rw [take_kid h, layKidsT_append]; rfl

theorem accT_le (f sh : Nat) (l : List VT) (k : Nat) : (accT f sh l k).length ≤ (accT f sh l l.length).length := by
  have e : l.take l.length = l.take k ++ l.drop k := by simp
  have h := layKidsT_append (layT f) sh (l.take k) (l.drop k) [] []
  unfold accT
  rw [e, h]
  exact layKidsT_grow _ _ _ _ _

theorem layT_eq (f : Nat) (kind n : Int) (s : ByteArray) (keys : List ByteArray) (kids : List VT) (sh : Nat) :
    layT (f + 1) (.mk kind n s keys kids) sh = accT f sh kids kids.length ++ [{ kind := kind, n := n, s := s, keys := keys, kids := ksT f sh kids kids.length }] := by
  simp [layT, accT, ksT]

theorem layT_pos {B : Nat} {w : World} {f : Nat} {t : VT} {v : Value} (h : TreeAt B w f t v) (sh : Nat) : 0 < (layT f t sh).length := by
  cases f with
  | zero => exact h.elim
  | succ f => obtain ⟨kind, n, s, keys, kids⟩ := t; rw [layT_eq]; simp

/-! ### Nodes as trees -/
def treeOf (vs : List VN) : Nat → Nat → VT
  | 0, _ => VT.zero
  | f + 1, i => .mk (nodeAt vs i).kind (nodeAt vs i).n (nodeAt vs i).s (nodeAt vs i).keys ((nodeAt vs i).kids.map fun k => treeOf vs f k.toNat)

theorem layKids_tree (vs : List VN) (f sh : Nat) (ih : ∀ i s, lay vs f i s = layT f (treeOf vs f i) s) : ∀ (l : List Int) (acc : List VN) (ks : List Int), layKids (lay vs f) sh l acc ks = layKidsT (layT f) sh (l.map fun k => treeOf vs f k.toNat) acc ks := by
  intro l
  induction l with
  | nil => intro acc ks; rfl
  | cons k r ihr => intro acc ks; rw [layKids, List.map_cons, layKidsT, ihr, ih]

theorem lay_tree (vs : List VN) : ∀ (f i sh : Nat), lay vs f i sh = layT f (treeOf vs f i) sh := by
  intro f
  induction f with
  | zero => intro i sh; rfl
  | succ f ih =>
    intro i sh
    rw [lay, treeOf, layT, layKids_tree vs f sh ih]

theorem kidT_map {l : List Int} {g : Int → VT} {j : Nat} (h : j < l.length) : kidT (l.map g) j = g (intAt l j) := by
  rw [intAt_get h]; simp [kidT, h]

theorem ValIs.tree {lo B : Nat} {w : World} {vs : List VN} (hlo : lo ≤ B) (hr : ∀ k, k < vs.length → nodeB (nodeAt vs k) = true ∧ kidsIn vs k = true) (hk : ∀ k, k < vs.length → (nodeAt vs k).kids.length ≤ k) (h80 : vs.length ≤ 80) : ∀ {f i : Nat} {v : Value}, i < vs.length → ValIs lo B w vs f i v → TreeAt B w f (treeOf vs f i) v := by
  intro f
  induction f with
  | zero => intro i v _ h; exact h.elim
  | succ f ih =>
    intro i v hi h
    have hit : ∀ it, ItemsAt lo B w it (nodeAt vs i).kids.length (fun j u => ValIs lo B w vs f (intAt (nodeAt vs i).kids j).toNat u) → TItems B w it ((nodeAt vs i).kids.map fun k => treeOf vs f k.toNat).length (fun j u => TreeAt B w f (kidT ((nodeAt vs i).kids.map fun k => treeOf vs f k.toNat) j) u) := by
      rintro it ⟨a, cap, e, hx⟩
      refine ⟨by have := hk i hi; simp; omega, a, cap, by simpa using e, fun hn => ?_⟩
      rw [List.length_map] at hn
      obtain ⟨b, ea, h1, h2, h3⟩ := hx hn
      refine ⟨b, ea, h2, fun j hj => ?_⟩
      rw [List.length_map] at hj
      obtain ⟨t, x, hcc, hv⟩ := h3 j hj
      refine ⟨t, x, hcc, ?_⟩
      show TreeAt B w f (kidT ((nodeAt vs i).kids.map fun k => treeOf vs f k.toNat) j) (.iface t x)
      rw [kidT_map hj]
      have hb := kidsIn_get (hr i hi).2 hj
      exact ih (by omega) hv
    have hn := (hr i hi).1
    unfold nodeB unnamedB at hn
    have es : ∀ s : ByteArray, s.toList = [] → s = ByteArray.empty := fun s h => by
      cases s with | mk d => rw [ByteArray.toList_eq] at h; simp at h; subst h; rfl
    simp only [Bool.and_eq_true, Bool.not_eq_true', Bool.and_eq_false_iff, decide_eq_false_iff_not, Decidable.not_not, Nat.not_lt, Nat.le_zero, List.length_eq_zero_iff] at hn
    obtain ⟨⟨⟨⟨n1, n2⟩, n3⟩, n4⟩, _⟩ := hn
    rw [treeOf]
    rcases h with ⟨k1, e⟩ | ⟨k2, e⟩ | ⟨k3, e⟩ | ⟨k4, e⟩ | ⟨k5, it, e, hi⟩ | ⟨k6, ks, it, e, hs, hi⟩
    · exact Or.inl ⟨k1, by omega, es _ (by rcases n2 with h | h; omega; exact h), by rcases n3 with h | h; omega; exact h, by rcases n4 with (h | h) | h; omega; omega; rw [h]; rfl, e⟩
    · exact Or.inr (Or.inl ⟨k2, es _ (by rcases n2 with h | h; omega; exact h), by rcases n3 with h | h; omega; exact h, by rcases n4 with (h | h) | h; omega; omega; rw [h]; rfl, e⟩)
    · exact Or.inr (Or.inr (Or.inl ⟨k3, es _ (by rcases n2 with h | h; omega; exact h), by rcases n3 with h | h; omega; exact h, by rcases n4 with (h | h) | h; omega; omega; rw [h]; rfl, e⟩))
    · exact Or.inr (Or.inr (Or.inr (Or.inl ⟨k4, by omega, by rcases n3 with h | h; omega; exact h, by rcases n4 with (h | h) | h; omega; omega; rw [h]; rfl, e⟩)))
    · exact Or.inr (Or.inr (Or.inr (Or.inr (Or.inl ⟨k5, by omega, es _ (by rcases n2 with h | h; omega; exact h), by rcases n3 with h | h; omega; exact h, it, e, hit it hi⟩))))
    · exact Or.inr (Or.inr (Or.inr (Or.inr (Or.inr ⟨k6, by omega, es _ (by rcases n2 with h | h; omega; exact h), ks, it, e, hs.wide hlo, hit it hi⟩))))
end Go.Proofs.YtiamkmkbkehldaaGreatDoor

/-
  The laws' marks: texts of numbers.
-/
namespace Go.Proofs.YtiamkmkbkehldaaGreatDoor
open Go.RowKit
set_option linter.unusedSimpArgs false
set_option linter.unusedVariables false

def digB (c : Nat) : ByteArray := ⟨#[UInt8.ofNat (48 + c % 10)]⟩
def mloop : Nat → Nat → ByteArray → ByteArray
  | 0, _, out => out
  | f + 1, c, out => if 0 < c then mloop f (c / 10) (digB c ++ out) else out

def markOf (k : Nat) : ByteArray := ⟨#[109]⟩ ++ mloop 20 k ⟨#[]⟩

/-- The cells of a row can be written. -/
def WRow (w : World) (b n : Nat) : Prop := ∀ j, j < n → (∃ v, w.cell? ⟨b, j, none⟩ = some v) ∧ w.frozen? ⟨b, j, none⟩ = false

theorem WRow.set {w : World} {b n : Nat} (h : WRow w b n) (a : Addr) (v : Value) : WRow (w.setCell a v) b n := by
  intro j hj
  obtain ⟨⟨u, hu⟩, hf⟩ := h j hj
  refine ⟨?_, by rw [World.frozen?_setCell]; exact hf⟩
  by_cases e : a = ⟨b, j, none⟩
  · subst e; exact ⟨v, World.cell?_setCell_same _ _ _ hu⟩
  · exact ⟨u, by rw [World.cell?_setCell_other (h := e)]; exact hu⟩

theorem WRow.below {w w' : World} {b n B : Nat} (h : WRow w b n) (hb : Below B w w') (hB : b < B) : WRow w' b n := by
  intro j hj
  obtain ⟨⟨u, hu⟩, hf⟩ := h j hj
  refine ⟨⟨u, (below_cell hb hB).trans hu⟩, ?_⟩
  unfold World.frozen? at hf ⊢
  rw [show w'.heap[(⟨b, j, none⟩ : Addr).block]? = w.heap[(⟨b, j, none⟩ : Addr).block]? from hb.block b hB]
  exact hf

/-- Only blocks of P were written, of those that were there. -/
def Only (P : Nat → Prop) (w w' : World) : Prop := w.heap.size ≤ w'.heap.size ∧ ∀ c, c < w.heap.size → ¬ P c → w'.heap[c]? = w.heap[c]?

theorem Only.refl (P : Nat → Prop) (w : World) : Only P w w := ⟨Nat.le_refl _, fun _ _ _ => rfl⟩
theorem Only.trans {P : Nat → Prop} {a b c : World} (h : Only P a b) (k : Only P b c) : Only P a c := ⟨Nat.le_trans h.1 k.1, fun i h1 h2 => (k.2 i (by have := h.1; omega) h2).trans (h.2 i h1 h2)⟩
theorem Only.imp {P Q : Nat → Prop} {a b : World} (h : Only P a b) (hi : ∀ c, P c → Q c) : Only Q a b := ⟨h.1, fun c h1 h2 => h.2 c h1 fun h => h2 (hi c h)⟩
theorem Only.set {P : Nat → Prop} (w : World) {b o : Nat} (hP : P b) (v : Value) : Only P w (w.setCell ⟨b, o, none⟩ v) := ⟨by simp, fun c _ hc => Below.heap_setCell w _ v c (fun e => hc (by rw [e]; exact hP))⟩
theorem Only.of_below {P : Nat → Prop} {w w' : World} (h : Below w.heap.size w w') : Only P w w' := ⟨h.size, fun c hc _ => h.block c hc⟩
theorem Only.cell {P : Nat → Prop} {w w' : World} (h : Only P w w') {b o : Nat} (hb : b < w.heap.size) (hP : ¬ P b) : w'.cell? ⟨b, o, none⟩ = w.cell? ⟨b, o, none⟩ := by
  unfold World.cell?
  rw [show w'.heap[(⟨b, o, none⟩ : Addr).block]? = w.heap[(⟨b, o, none⟩ : Addr).block]? from h.2 b hb hP]

end Go.Proofs.YtiamkmkbkehldaaGreatDoor

/-
  The laws' marks of nodes: each field of each node and each part of its keys and kids gets its own number, and holds it.
-/
namespace Go.Proofs.YtiamkmkbkehldaaGreatDoor
open Go.RowKit
set_option linter.unusedSimpArgs false
set_option linter.unusedVariables false

def off (KN IN : Nat → Nat) (k : Nat) : Nat → Nat
  | 0 => k
  | i + 1 => off KN IN k i + 3 + KN i + IN i

/-- Nodes whose memory is their own: rows apart, all of them to be written. -/
structure Marky (lo : Nat) (w : World) (b n : Nat) (KN IN KB KI : Nat → Nat) : Prop where
  low : lo ≤ b
  lt : b < w.heap.size
  few : n ≤ 1048576
  row : WRow w b (n * 5)
  kn : ∀ i, i < n → KN i ≤ 1048576 ∧ IN i ≤ 1048576
  c3 : ∀ i, i < n → ∃ a c, w.cell? ⟨b, i * 5 + 3, none⟩ = some (.slice a (KN i) c) ∧ (0 < KN i → a = some ⟨KB i, 0, none⟩ ∧ lo ≤ KB i ∧ KB i < w.heap.size ∧ WRow w (KB i) (KN i))
  c4 : ∀ i, i < n → ∃ a c, w.cell? ⟨b, i * 5 + 4, none⟩ = some (.slice a (IN i) c) ∧ (0 < IN i → a = some ⟨KI i, 0, none⟩ ∧ lo ≤ KI i ∧ KI i < w.heap.size ∧ WRow w (KI i) (IN i))
  db : ∀ i, i < n → (0 < KN i → KB i ≠ b) ∧ (0 < IN i → KI i ≠ b)
  dkk : ∀ i j, i < n → j < n → i ≠ j → 0 < KN i → 0 < KN j → KB i ≠ KB j
  dki : ∀ i j, i < n → j < n → 0 < KN i → 0 < IN j → KB i ≠ KI j
  dii : ∀ i j, i < n → j < n → i ≠ j → 0 < IN i → 0 < IN j → KI i ≠ KI j

/-- Node i holds its marks, from o on. -/
structure HNode (w : World) (b i kn ni kb ki o : Nat) : Prop where
  lt : b < w.heap.size
  c0 : w.cell? ⟨b, i * 5, none⟩ = some (.int .i64 (o : Nat))
  c1 : w.cell? ⟨b, i * 5 + 1, none⟩ = some (.int .i64 (o + 1 : Nat))
  c2 : w.cell? ⟨b, i * 5 + 2, none⟩ = some (.string (markOf (o + 2)))
  c3 : ∃ a c, w.cell? ⟨b, i * 5 + 3, none⟩ = some (.slice a kn c) ∧ (0 < kn → a = some ⟨kb, 0, none⟩ ∧ kb < w.heap.size ∧ ∀ j, j < kn → w.cell? ⟨kb, j, none⟩ = some (.string (markOf (o + 3 + j))))
  c4 : ∃ a c, w.cell? ⟨b, i * 5 + 4, none⟩ = some (.slice a ni c) ∧ (0 < ni → a = some ⟨ki, 0, none⟩ ∧ ki < w.heap.size ∧ ∀ j, j < ni → w.cell? ⟨ki, j, none⟩ = some (.int .i64 (o + 3 + kn + j : Nat)))

theorem HNode.keep {w w' : World} {b i kn ni kb ki o : Nat} (h : HNode w b i kn ni kb ki o) (hs : w.heap.size ≤ w'.heap.size) (hb : ∀ j, j < 5 → w'.cell? ⟨b, i * 5 + j, none⟩ = w.cell? ⟨b, i * 5 + j, none⟩)
    (hk : 0 < kn → ∀ j, w'.cell? ⟨kb, j, none⟩ = w.cell? ⟨kb, j, none⟩) (hi : 0 < ni → ∀ j, w'.cell? ⟨ki, j, none⟩ = w.cell? ⟨ki, j, none⟩) : HNode w' b i kn ni kb ki o := by
  refine ⟨by have := h.lt; omega, (hb 0 (by omega)).trans h.c0, (hb 1 (by omega)).trans h.c1, (hb 2 (by omega)).trans h.c2, ?_, ?_⟩
  · obtain ⟨a, c, e, hx⟩ := h.c3
    refine ⟨a, c, (hb 3 (by omega)).trans e, fun hp => ?_⟩
    obtain ⟨e1, e2, e3⟩ := hx hp
    exact ⟨e1, by omega, fun j hj => (hk hp j).trans (e3 j hj)⟩
  · obtain ⟨a, c, e, hx⟩ := h.c4
    refine ⟨a, c, (hb 4 (by omega)).trans e, fun hp => ?_⟩
    obtain ⟨e1, e2, e3⟩ := hx hp
    exact ⟨e1, by omega, fun j hj => (hi hp j).trans (e3 j hj)⟩

theorem HNode.below {w w' : World} {b i kn ni kb ki o : Nat} (h : HNode w b i kn ni kb ki o) (hb : Below w.heap.size w w') : HNode w' b i kn ni kb ki o := by
  obtain ⟨_, _, _, h3⟩ := h.c3
  obtain ⟨_, _, _, h4⟩ := h.c4
  exact h.keep hb.size (fun j _ => below_cell hb h.lt) (fun hp j => below_cell hb (h3 hp).2.1) (fun hp j => below_cell hb (h4 hp).2.1)

end Go.Proofs.YtiamkmkbkehldaaGreatDoor

/-
  The laws' marks of nodes are laid.
-/
namespace Go.Proofs.YtiamkmkbkehldaaGreatDoor
open Go.RowKit
set_option linter.unusedSimpArgs false
set_option linter.unusedVariables false

theorem WRow.same {w w' : World} {b n : Nat} (h : WRow w b n) (e : w'.heap[b]? = w.heap[b]?) : WRow w' b n := by
  intro j hj
  obtain ⟨⟨u, hu⟩, hf⟩ := h j hj
  refine ⟨⟨u, ?_⟩, ?_⟩
  · unfold World.cell? at hu ⊢; rw [show w'.heap[(⟨b, j, none⟩ : Addr).block]? = w.heap[(⟨b, j, none⟩ : Addr).block]? from e]; exact hu
  · unfold World.frozen? at hf ⊢; rw [show w'.heap[(⟨b, j, none⟩ : Addr).block]? = w.heap[(⟨b, j, none⟩ : Addr).block]? from e]; exact hf

section
variable {lo b n : Nat} {w w' : World} {KN IN KB KI : Nat → Nat}

theorem Marky.keep (h : Marky lo w b n KN IN KB KI) (hs : w.heap.size ≤ w'.heap.size) (hb : WRow w' b (n * 5)) (hc : ∀ i j, i < n → 3 ≤ j → j < 5 → w'.cell? ⟨b, i * 5 + j, none⟩ = w.cell? ⟨b, i * 5 + j, none⟩)
    (hk : ∀ i, i < n → 0 < KN i → WRow w' (KB i) (KN i)) (hi : ∀ i, i < n → 0 < IN i → WRow w' (KI i) (IN i)) : Marky lo w' b n KN IN KB KI := by
  refine ⟨h.low, by have := h.lt; omega, h.few, hb, h.kn, fun i hi' => ?_, fun i hi' => ?_, h.db, h.dkk, h.dki, h.dii⟩
  · obtain ⟨a, c, e, hx⟩ := h.c3 i hi'
    refine ⟨a, c, (hc i 3 hi' (by omega) (by omega)).trans e, fun hp => ?_⟩
    obtain ⟨e1, e2, e3, _⟩ := hx hp
    exact ⟨e1, e2, by omega, hk i hi' hp⟩
  · obtain ⟨a, c, e, hx⟩ := h.c4 i hi'
    refine ⟨a, c, (hc i 4 hi' (by omega) (by omega)).trans e, fun hp => ?_⟩
    obtain ⟨e1, e2, e3, _⟩ := hx hp
    exact ⟨e1, e2, by omega, hi i hi' hp⟩

theorem Marky.kr (h : Marky lo w b n KN IN KB KI) {i : Nat} (hi : i < n) (hp : 0 < KN i) : lo ≤ KB i ∧ KB i < w.heap.size ∧ WRow w (KB i) (KN i) := by
  obtain ⟨a, c, e, hx⟩ := h.c3 i hi
  exact (hx hp).2
theorem Marky.ir (h : Marky lo w b n KN IN KB KI) {i : Nat} (hi : i < n) (hp : 0 < IN i) : lo ≤ KI i ∧ KI i < w.heap.size ∧ WRow w (KI i) (IN i) := by
  obtain ⟨a, c, e, hx⟩ := h.c4 i hi
  exact (hx hp).2

theorem Marky.set (h : Marky lo w b n KN IN KB KI) {p : Nat} (hp : p % 5 < 3) (v : Value) : Marky lo (w.setCell ⟨b, p, none⟩ v) b n KN IN KB KI :=
  h.keep (by simp) (h.row.set _ _) (fun i j hi h3 h5 => World.cell?_setCell_other _ _ _ _ (fun e => by have := congrArg Addr.off e; simp at this; omega)) (fun i hi hp => (h.kr hi hp).2.2.set _ _) (fun i hi hp => (h.ir hi hp).2.2.set _ _)

theorem Marky.below (h : Marky lo w b n KN IN KB KI) (hb : Below w.heap.size w w') : Marky lo w' b n KN IN KB KI :=
  h.keep hb.size (h.row.below hb h.lt) (fun i j hi h3 h5 => below_cell hb h.lt) (fun i hi hp => (h.kr hi hp).2.2.below hb (h.kr hi hp).2.1) (fun i hi hp => (h.ir hi hp).2.2.below hb (h.ir hi hp).2.1)

theorem Marky.keys (h : Marky lo w b n KN IN KB KI) {c : Nat} (hc : c < n) (ho : Only (fun x => 0 < KN c ∧ x = KB c) w w') (hw : 0 < KN c → WRow w' (KB c) (KN c)) : Marky lo w' b n KN IN KB KI := by
  have hb : w'.heap[b]? = w.heap[b]? := ho.2 b h.lt fun ⟨h1, h2⟩ => (h.db c hc).1 h1 h2.symm
  refine h.keep ho.1 (h.row.same hb) (fun i j hi h3 h5 => ho.cell h.lt fun ⟨h1, h2⟩ => (h.db c hc).1 h1 h2.symm) (fun i hi hp => ?_) (fun i hi hp => ?_)
  · by_cases e : i = c
    · subst e; exact hw hp
    · exact (h.kr hi hp).2.2.same (ho.2 _ (h.kr hi hp).2.1 fun ⟨h1, h2⟩ => h.dkk i c hi hc e hp h1 h2)
  · exact (h.ir hi hp).2.2.same (ho.2 _ (h.ir hi hp).2.1 fun ⟨h1, h2⟩ => h.dki c i hc hi h1 hp h2.symm)

theorem Marky.kids (h : Marky lo w b n KN IN KB KI) {c : Nat} (hc : c < n) (ho : Only (fun x => 0 < IN c ∧ x = KI c) w w') (hw : 0 < IN c → WRow w' (KI c) (IN c)) : Marky lo w' b n KN IN KB KI := by
  have hb : w'.heap[b]? = w.heap[b]? := ho.2 b h.lt fun ⟨h1, h2⟩ => (h.db c hc).2 h1 h2.symm
  refine h.keep ho.1 (h.row.same hb) (fun i j hi h3 h5 => ho.cell h.lt fun ⟨h1, h2⟩ => (h.db c hc).2 h1 h2.symm) (fun i hi hp => ?_) (fun i hi hp => ?_)
  · exact (h.kr hi hp).2.2.same (ho.2 _ (h.kr hi hp).2.1 fun ⟨h1, h2⟩ => h.dki i c hi hc hp h1 h2)
  · by_cases e : i = c
    · subst e; exact hw hp
    · exact (h.ir hi hp).2.2.same (ho.2 _ (h.ir hi hp).2.1 fun ⟨h1, h2⟩ => h.dii i c hi hc e hp h1 h2)

/-- What marks of node c turn: three cells of the row, the rows of its keys and of its kids. -/
structure Turns (b c : Nat) (KN IN KB KI : Nat → Nat) (w w' : World) : Prop where
  size : w.heap.size ≤ w'.heap.size
  row : ∀ o, o ≠ c * 5 → o ≠ c * 5 + 1 → o ≠ c * 5 + 2 → w'.cell? ⟨b, o, none⟩ = w.cell? ⟨b, o, none⟩
  rest : ∀ x, x < w.heap.size → x ≠ b → ¬ (0 < KN c ∧ x = KB c) → ¬ (0 < IN c ∧ x = KI c) → w'.heap[x]? = w.heap[x]?

theorem Turns.cell {b c : Nat} (t : Turns b c KN IN KB KI w w') {x o : Nat} (h1 : x < w.heap.size) (h2 : x ≠ b) (h3 : ¬ (0 < KN c ∧ x = KB c)) (h4 : ¬ (0 < IN c ∧ x = KI c)) : w'.cell? ⟨x, o, none⟩ = w.cell? ⟨x, o, none⟩ := by
  unfold World.cell?
  rw [show w'.heap[(⟨x, o, none⟩ : Addr).block]? = w.heap[(⟨x, o, none⟩ : Addr).block]? from t.rest x h1 h2 h3 h4]

theorem Turns.refl (b c : Nat) (KN IN KB KI : Nat → Nat) (w : World) : Turns b c KN IN KB KI w w := ⟨Nat.le_refl _, fun _ _ _ _ => rfl, fun _ _ _ _ _ => rfl⟩
theorem Turns.trans {b c : Nat} {w1 w2 w3 : World} (h : Turns b c KN IN KB KI w1 w2) (k : Turns b c KN IN KB KI w2 w3) : Turns b c KN IN KB KI w1 w3 :=
  ⟨Nat.le_trans h.size k.size, fun o h1 h2 h3 => (k.row o h1 h2 h3).trans (h.row o h1 h2 h3), fun x h1 h2 h3 h4 => (k.rest x (by have := h.size; omega) h2 h3 h4).trans (h.rest x h1 h2 h3 h4)⟩
theorem Turns.set {b c : Nat} (w : World) (v : Value) {p : Nat} (hp : p = c * 5 ∨ p = c * 5 + 1 ∨ p = c * 5 + 2) : Turns b c KN IN KB KI w (w.setCell ⟨b, p, none⟩ v) :=
  ⟨by simp, fun o h1 h2 h3 => World.cell?_setCell_other _ _ _ _ (fun e => by have := congrArg Addr.off e; simp at this; omega), fun x h1 h2 h3 h4 => Below.heap_setCell w _ v x h2⟩
theorem Turns.below {b c : Nat} (hb : Below w.heap.size w w') (hl : b < w.heap.size) : Turns b c KN IN KB KI w w' := ⟨hb.size, fun o _ _ _ => below_cell hb hl, fun x h _ _ _ => hb.block x h⟩
theorem Turns.only {b c : Nat} {P : Nat → Prop} (ho : Only P w w') (hl : b < w.heap.size) (hb : ¬ P b) (hP : ∀ x, P x → (0 < KN c ∧ x = KB c) ∨ (0 < IN c ∧ x = KI c)) : Turns b c KN IN KB KI w w' :=
  ⟨ho.1, fun o _ _ _ => ho.cell hl hb, fun x h h1 h2 h3 => ho.2 x h fun hp => (hP x hp).elim h2 h3⟩

/-- The blocks that marks of nodes write. -/
def Marked (b n : Nat) (KN IN KB KI : Nat → Nat) (x : Nat) : Prop := 0 < n ∧ (x = b ∨ ∃ i, i < n ∧ ((0 < KN i ∧ x = KB i) ∨ (0 < IN i ∧ x = KI i)))

theorem Turns.marked {b c n : Nat} (t : Turns b c KN IN KB KI w w') (hc : c < n) : Only (Marked b n KN IN KB KI) w w' :=
  ⟨t.size, fun x h hx => t.rest x h (fun e => hx ⟨by omega, Or.inl e⟩) (fun e => hx ⟨by omega, Or.inr ⟨c, hc, Or.inl e⟩⟩) (fun e => hx ⟨by omega, Or.inr ⟨c, hc, Or.inr e⟩⟩)⟩

theorem Turns.node (h : Marky lo w b n KN IN KB KI) {c i o : Nat} (hc : c < n) (hi : i < c) (t : Turns b c KN IN KB KI w w') (hn : HNode w b i (KN i) (IN i) (KB i) (KI i) o) : HNode w' b i (KN i) (IN i) (KB i) (KI i) o := by
  have hin : i < n := by omega
  refine hn.keep t.size (fun j hj => t.row _ (by omega) (by omega) (by omega)) (fun hp j => ?_) (fun hp j => ?_)
  · exact t.cell (h.kr hin hp).2.1 ((h.db i hin).1 hp) (fun ⟨h1, h2⟩ => h.dkk i c hin hc (by omega) hp h1 h2) (fun ⟨h1, h2⟩ => h.dki i c hin hc hp h1 h2)
  · exact t.cell (h.ir hin hp).2.1 ((h.db i hin).2 hp) (fun ⟨h1, h2⟩ => h.dki c i hc hin h1 hp h2.symm) (fun ⟨h1, h2⟩ => h.dii i c hin hc (by omega) hp h1 h2)
end

end Go.Proofs.YtiamkmkbkehldaaGreatDoor
