/-
  The functions that copy numbers, texts and nodes into new memory: what they hand back lies in new blocks and holds what came in.
-/
import Derived.Test.YtehihemfepbmfaaGreatDoorUneP
import Derived.Test.YtehihemfepbmfaaGreatDoorProg
import Derived.Deep.OwnRows
import Derived.KernelRfl
namespace Go.Proofs.YtehihemfepbmfaaGreatDoor
open Go.RowKit
set_option linter.unusedSimpArgs false
set_option linter.unusedVariables false

theorem infoInt : (Tryz.prog.info? 2).map (fun i => (i.zero, i.size, i.bytes)) = some (some (.int .i64 0), 1, 8) := by kernel_rfl
theorem rowIs_below {B b t n : Nat} {w w' : World} {f : Nat → Value} (h : w.rowIs b t n f) (hb : Below B w w') (hB : b < B) : w'.rowIs b t n f := h.of_block (hb.block b hB)

/-! ### All nodes -/
def nodeCell (vs : List VN) (KB KI : Nat → Nat) (j : Nat) : Value :=
  if j % 5 = 0 then .int .i64 (nodeAt vs (j / 5)).kind
  else if j % 5 = 1 then .int .i64 (nodeAt vs (j / 5)).n
  else if j % 5 = 2 then .string (nodeAt vs (j / 5)).s
  else if j % 5 = 3 then .slice (some ⟨KB (j / 5), 0, none⟩) (nodeAt vs (j / 5)).keys.length (nodeAt vs (j / 5)).keys.length
  else .slice (some ⟨KI (j / 5), 0, none⟩) (nodeAt vs (j / 5)).kids.length (nodeAt vs (j / 5)).kids.length

theorem nodeCell0 (vs : List VN) (KB KI : Nat → Nat) (i : Nat) : nodeCell vs KB KI (i * 5) = .int .i64 (nodeAt vs i).kind := by
  unfold nodeCell
  rw [if_pos (by omega), show i * 5 / 5 = i by omega]
theorem nodeCell1 (vs : List VN) (KB KI : Nat → Nat) (i : Nat) : nodeCell vs KB KI (i * 5 + 1) = .int .i64 (nodeAt vs i).n := by
  unfold nodeCell
  rw [if_neg (by omega), if_pos (by omega), show (i * 5 + 1) / 5 = i by omega]
theorem nodeCell2 (vs : List VN) (KB KI : Nat → Nat) (i : Nat) : nodeCell vs KB KI (i * 5 + 2) = .string (nodeAt vs i).s := by
  unfold nodeCell
  rw [if_neg (by omega), if_neg (by omega), if_pos (by omega), show (i * 5 + 2) / 5 = i by omega]
theorem nodeCell3 (vs : List VN) (KB KI : Nat → Nat) (i : Nat) : nodeCell vs KB KI (i * 5 + 3) = .slice (some ⟨KB i, 0, none⟩) (nodeAt vs i).keys.length (nodeAt vs i).keys.length := by
  unfold nodeCell
  rw [if_neg (by omega), if_neg (by omega), if_neg (by omega), if_pos (by omega), show (i * 5 + 3) / 5 = i by omega]
theorem nodeCell4 (vs : List VN) (KB KI : Nat → Nat) (i : Nat) : nodeCell vs KB KI (i * 5 + 4) = .slice (some ⟨KI i, 0, none⟩) (nodeAt vs i).kids.length (nodeAt vs i).kids.length := by
  unfold nodeCell
  rw [if_neg (by omega), if_neg (by omega), if_neg (by omega), if_neg (by omega), show (i * 5 + 4) / 5 = i by omega]

/-- Nodes that lie in new memory from block b on: their row, and the rows of their keys and kids, all apart. 'k': so many are there. -/
structure OwnTo (w : World) (b : Nat) (vs : List VN) (KB KI : Nat → Nat) (k : Nat) : Prop where
  lo : ∀ i, i < k → b < KB i ∧ KB i < KI i
  rk : ∀ i, i < k → w.rowIs (KB i) 9 (nodeAt vs i).keys.length (fun j => .string (keyAt (nodeAt vs i).keys j))
  ri : ∀ i, i < k → w.rowIs (KI i) 2 (nodeAt vs i).kids.length (fun j => .int .i64 (intAt (nodeAt vs i).kids j))
  mono : ∀ i j, i < j → j < k → KI i < KB j

structure OwnAt (w : World) (b : Nat) (vs : List VN) (KB KI : Nat → Nat) : Prop where
  row : w.rowIs b 102 (vs.length * 5) (nodeCell vs KB KI)
  to : OwnTo w b vs KB KI vs.length

theorem OwnTo.below {w w' : World} {b k : Nat} {vs : List VN} {KB KI : Nat → Nat} (h : OwnTo w b vs KB KI k) (hb : Below w.heap.size w w') : OwnTo w' b vs KB KI k :=
  ⟨h.lo, fun i hi => rowIs_below (h.rk i hi) hb (h.rk i hi).lt, fun i hi => rowIs_below (h.ri i hi) hb (h.ri i hi).lt, h.mono⟩

theorem OwnAt.below {w w' : World} {b : Nat} {vs : List VN} {KB KI : Nat → Nat} (h : OwnAt w b vs KB KI) (hb : Below w.heap.size w w') : OwnAt w' b vs KB KI :=
  ⟨rowIs_below h.row hb h.row.lt, h.to.below hb⟩

theorem OwnTo.set {w : World} {b k o : Nat} {v : Value} {vs : List VN} {KB KI : Nat → Nat} (h : OwnTo w b vs KB KI k) : OwnTo (w.setCell ⟨b, o, none⟩ v) b vs KB KI k :=
  ⟨h.lo, fun i hi => (h.rk i hi).setOther (by have := h.lo i hi; simp; omega) _, fun i hi => (h.ri i hi).setOther (by have := h.lo i hi; simp; omega) _, h.mono⟩

theorem OwnTo.step {w : World} {b k bk bi : Nat} {vs : List VN} {KB KI : Nat → Nat} (h : OwnTo w b vs KB KI k) (h1 : b < bk) (h2 : bk < bi) (h3 : ∀ i, i < k → KI i < bk)
    (r1 : w.rowIs bk 9 (nodeAt vs k).keys.length (fun j => .string (keyAt (nodeAt vs k).keys j))) (r2 : w.rowIs bi 2 (nodeAt vs k).kids.length (fun j => .int .i64 (intAt (nodeAt vs k).kids j))) :
    OwnTo w b vs (fun i => if i = k then bk else KB i) (fun i => if i = k then bi else KI i) (k + 1) := by
  refine ⟨fun i hi => ?_, fun i hi => ?_, fun i hi => ?_, fun i j hij hj => ?_⟩
  · by_cases e : i = k
    · simp only [if_pos e]; exact ⟨h1, h2⟩
    · simp only [if_neg e]; exact h.lo i (by omega)
  · by_cases e : i = k
    · subst e; simp only [if_true]; exact r1
    · simp only [if_neg e]; exact h.rk i (by omega)
  · by_cases e : i = k
    · subst e; simp only [if_true]; exact r2
    · simp only [if_neg e]; exact h.ri i (by omega)
  · simp only [if_neg (show ¬ i = k by omega)]
    by_cases e : j = k
    · simp only [if_pos e]; exact h3 i (by omega)
    · simp only [if_neg e]; exact h.mono i j hij (by omega)

theorem rowStrs {w : World} {b : Nat} {l : List ByteArray} (h : w.rowIs b 9 l.length (fun j => .string (keyAt l j))) (h1 : l.length ≤ 8796093022208) (h2 : ∀ i, i < l.length → (keyAt l i).size ≤ 140737488355328) (B : Nat) (hB : b < B) :
    StrsAt B w (.slice (some ⟨b, 0, none⟩) l.length l.length) l :=
  ⟨h1, h2, _, _, rfl, fun _ => ⟨b, 0, rfl, hB, fun i hi => by rw [Nat.zero_add]; exact h.cell hi⟩⟩

theorem rowInts {w : World} {b : Nat} {l : List Int} (h : w.rowIs b 2 l.length (fun j => .int .i64 (intAt l j))) (h1 : l.length ≤ 17592186044416) (h2 : ∀ i, i < l.length → -9223372036854775808 ≤ intAt l i ∧ intAt l i ≤ 9223372036854775807) (B : Nat) (hB : b < B) :
    IntsAt B w (.slice (some ⟨b, 0, none⟩) l.length l.length) l :=
  ⟨h1, h2, _, _, rfl, fun _ => ⟨b, 0, rfl, hB, fun i hi => by rw [Nat.zero_add]; exact h.cell hi⟩⟩

theorem OwnAt.nodes {w : World} {b : Nat} {vs : List VN} {KB KI : Nat → Nat} (h : OwnAt w b vs KB KI) (hn : vs.length ≤ 1759218604416) (hf : ∀ i, i < vs.length → Fits (nodeAt vs i)) :
    NodesAt w.heap.size w (.slice (some ⟨b, 0, none⟩) vs.length vs.length) vs := by
  refine ⟨hn, _, _, rfl, fun _ => ⟨b, 0, rfl, h.row.lt, fun i hi => ⟨.slice (some ⟨KB i, 0, none⟩) (nodeAt vs i).keys.length (nodeAt vs i).keys.length, .slice (some ⟨KI i, 0, none⟩) (nodeAt vs i).kids.length (nodeAt vs i).kids.length, ?_⟩⟩⟩
  have f := hf i hi
  rw [Nat.zero_add]
  refine ⟨?_, ?_, ?_, ?_, ?_, ⟨rowStrs (h.to.rk i hi) f.keysN f.keysS _ (h.to.rk i hi).lt, rowInts (h.to.ri i hi) f.kidsN f.kidsB _ (h.to.ri i hi).lt, f.size, f.klo, f.khi, f.nlo, f.nhi⟩⟩
  · rw [h.row.cell (by omega), nodeCell0]
  · rw [h.row.cell (by omega), nodeCell1]
  · rw [h.row.cell (by omega), nodeCell2]
  · rw [h.row.cell (by omega), nodeCell3]
  · rw [h.row.cell (by omega), nodeCell4]

end Go.Proofs.YtehihemfepbmfaaGreatDoor
