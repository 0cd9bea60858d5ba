/-
  Values as trees: how one lies behind the interface, and which nodes are laid for it.
-/
import Derived.Test.YtnbhologgonjnaaVal
import Derived.Test.YtnbhologgonjnaaFlat
namespace Go.Proofs.Ytnbhologgonjnaa
open Go.RowKit
set_option linter.unusedSimpArgs false
set_option linter.unusedVariables false

inductive VT where
  | mk (kind n : Int) (s : ByteArray) (keys : List ByteArray) (kids : List VT)

def VT.zero : VT := .mk 0 0 ByteArray.empty [] []
def kidT (l : List VT) (j : Nat) : VT := l.getD j VT.zero

def TItems (B : Nat) (w : World) (it : Value) (n : Nat) (P : Nat → Value → Prop) : Prop :=
  n ≤ 100000 ∧ ∃ a cap, it = .slice a n cap ∧ (0 < n → ∃ b, a = some ⟨b, 0, none⟩ ∧ b < B ∧ ∀ j, j < n → ∃ t x, w.cell? ⟨b, j, none⟩ = some (.iface t x) ∧ P j (.iface t x))

/-! ### The nodes that are laid -/
def layKidsT (F : VT → Nat → List VN) (sh : Nat) : List VT → List VN → List Int → List VN × List Int
  | [], acc, ks => (acc, ks)
  | k :: r, acc, ks => layKidsT F sh r (acc ++ F k (sh + acc.length)) (ks ++ [((sh + (acc ++ F k (sh + acc.length)).length : Nat) : Int) - 1])

def layT : Nat → VT → Nat → List VN
  | 0, _, _ => []
  | f + 1, .mk kind n s keys kids, sh => (layKidsT (layT f) sh kids [] []).1 ++ [{ kind := kind, n := n, s := s, keys := keys, kids := (layKidsT (layT f) sh kids [] []).2 }]

theorem layKidsT_append (F : VT → Nat → List VN) (sh : Nat) : ∀ (l m : List VT) (acc : List VN) (ks : List Int), layKidsT F sh (l ++ m) acc ks = layKidsT F sh m (layKidsT F sh l acc ks).1 (layKidsT F sh l acc ks).2 := by
  intro l
  induction l with
  | nil => intro m acc ks; rfl
  | cons k r ih => intro m acc ks; exact ih m _ _

theorem layKidsT_grow (F : VT → Nat → List VN) (sh : Nat) : ∀ (l : List VT) (acc : List VN) (ks : List Int), acc.length ≤ (layKidsT F sh l acc ks).1.length := by
  intro l
  induction l with
  | nil => intro acc ks; exact Nat.le_refl _
  | cons k r ih => intro acc ks; exact Nat.le_trans (by simp) (ih _ _)

theorem layKidsT_kids (F : VT → Nat → List VN) (sh : Nat) : ∀ (l : List VT) (acc : List VN) (ks : List Int), (layKidsT F sh l acc ks).2.length = ks.length + l.length := by
  intro l
  induction l with
  | nil => intro acc ks; rfl
  | cons k r ih => intro acc ks; rw [layKidsT, ih]; simp; omega

/-- After the first k parts. -/
def accT (f sh : Nat) (l : List VT) (k : Nat) : List VN := (layKidsT (layT f) sh (l.take k) [] []).1
def ksT (f sh : Nat) (l : List VT) (k : Nat) : List Int := (layKidsT (layT f) sh (l.take k) [] []).2

theorem accT_zero (f sh : Nat) (l : List VT) : accT f sh l 0 = [] := by simp [accT, layKidsT]
theorem ksT_zero (f sh : Nat) (l : List VT) : ksT f sh l 0 = [] := by simp [ksT, layKidsT]
theorem ksT_len (f sh : Nat) (l : List VT) {k : Nat} (h : k ≤ l.length) : (ksT f sh l k).length = k := by
  unfold ksT; rw [layKidsT_kids]; simp; omega

theorem take_kid {l : List VT} {k : Nat} (h : k < l.length) : l.take (k + 1) = l.take k ++ [kidT l k] := by
  rw [List.take_add_one, List.getElem?_eq_getElem h]
  simp [kidT, h]

theorem accT_succ (f sh : Nat) {l : List VT} {k : Nat} (h : k < l.length) : accT f sh l (k + 1) = accT f sh l k ++ layT f (kidT l k) (sh + (accT f sh l k).length) := by
  unfold accT; rw [take_kid h, layKidsT_append]; rfl
theorem ksT_succ (f sh : Nat) {l : List VT} {k : Nat} (h : k < l.length) : ksT f sh l (k + 1) = ksT f sh l k ++ [((sh + (accT f sh l (k + 1)).length : Nat) : Int) - 1] := by
  rw [accT_succ f sh h]; unfold ksT accT; rw [take_kid h, layKidsT_append]; rfl

theorem accT_le (f sh : Nat) (l : List VT) (k : Nat) : (accT f sh l k).length ≤ (accT f sh l l.length).length := by
  have e : l.take l.length = l.take k ++ l.drop k := by simp
  have h := layKidsT_append (layT f) sh (l.take k) (l.drop k) [] []
  unfold accT
  rw [e, h]
  exact layKidsT_grow _ _ _ _ _

theorem layT_eq (f : Nat) (kind n : Int) (s : ByteArray) (keys : List ByteArray) (kids : List VT) (sh : Nat) :
    layT (f + 1) (.mk kind n s keys kids) sh = accT f sh kids kids.length ++ [{ kind := kind, n := n, s := s, keys := keys, kids := ksT f sh kids kids.length }] := by
  simp [layT, accT, ksT]

/-! ### Nodes as trees -/
def treeOf (vs : List VN) : Nat → Nat → VT
  | 0, _ => VT.zero
  | f + 1, i => .mk (nodeAt vs i).kind (nodeAt vs i).n (nodeAt vs i).s (nodeAt vs i).keys ((nodeAt vs i).kids.map fun k => treeOf vs f k.toNat)

theorem layKids_tree (vs : List VN) (f sh : Nat) (ih : ∀ i s, lay vs f i s = layT f (treeOf vs f i) s) : ∀ (l : List Int) (acc : List VN) (ks : List Int), layKids (lay vs f) sh l acc ks = layKidsT (layT f) sh (l.map fun k => treeOf vs f k.toNat) acc ks := by
  intro l
  induction l with
  | nil => intro acc ks; rfl
  | cons k r ihr => intro acc ks; rw [layKids, List.map_cons, layKidsT, ihr, ih]

theorem lay_tree (vs : List VN) : ∀ (f i sh : Nat), lay vs f i sh = layT f (treeOf vs f i) sh := by
  intro f
  induction f with
  | zero => intro i sh; rfl
  | succ f ih =>
    intro i sh
    rw [lay, treeOf, layT, layKids_tree vs f sh ih]

theorem kidT_map {l : List Int} {g : Int → VT} {j : Nat} (h : j < l.length) : kidT (l.map g) j = g (intAt l j) := by
  rw [intAt_get h]; simp [kidT, h]

end Go.Proofs.Ytnbhologgonjnaa
