/-
  The functions that copy numbers, texts and nodes into new memory: what they hand back lies in new blocks and holds what came in.
-/
import Derived.Test.YtokhindolimchaaGreatStb
import Derived.Test.YtokhindolimchaaGreatProg
import Derived.Deep.OwnRows
import Derived.KernelRfl
import Derived.Laws.Concat
import Derived.Laws.IdiomStrings
import Derived.Deep.QuietTactic
import Derived.BigQuiet
import Derived.WalkSmall
import Derived.Deep.RegionWith
namespace Go.Proofs.YtokhindolimchaaGreat
open Go.RowKit
set_option linter.unusedSimpArgs false
set_option linter.unusedVariables false

theorem infoInt : (Tryz.prog.info? 2).map (fun i => (i.zero, i.size, i.bytes)) = some (some (.int .i64 0), 1, 8) := by kernel_rfl
theorem infoStr : (Tryz.prog.info? 9).map (fun i => (i.zero, i.size, i.bytes)) = some (some (.string ByteArray.empty), 1, 16) := by kernel_rfl

def fillInt (l : List Int) (k : Nat) (j : Nat) : Value := if j < k then .int .i64 (intAt l j) else .int .i64 0
def fillStr (l : List ByteArray) (k : Nat) (j : Nat) : Value := if j < k then .string (keyAt l j) else .string ByteArray.empty

theorem fillInt_step {w : World} {b t n k : Nat} {l : List Int} (h : w.rowIs b t n (fillInt l k)) : (w.setCell ⟨b, k, none⟩ (.int .i64 (intAt l k))).rowIs b t n (fillInt l (k + 1)) := by
  refine (h.set k _).congr fun i _ => ?_
  unfold fillInt
  by_cases e : i = k
  · subst e; rw [if_pos rfl, if_pos (by omega)]
  · rw [if_neg e]; by_cases g : i < k
    · rw [if_pos g, if_pos (by omega)]
    · rw [if_neg g, if_neg (by omega)]

theorem fillStr_step {w : World} {b t n k : Nat} {l : List ByteArray} (h : w.rowIs b t n (fillStr l k)) : (w.setCell ⟨b, k, none⟩ (.string (keyAt l k))).rowIs b t n (fillStr l (k + 1)) := by
  refine (h.set k _).congr fun i _ => ?_
  unfold fillStr
  by_cases e : i = k
  · subst e; rw [if_pos rfl, if_pos (by omega)]
  · rw [if_neg e]; by_cases g : i < k
    · rw [if_pos g, if_pos (by omega)]
    · rw [if_neg g, if_neg (by omega)]

theorem bcell {W w1 : World} (hb : Below W.heap.size W w1) : (∀ b o, b < W.heap.size → w1.cell? ⟨b, o, none⟩ = W.cell? ⟨b, o, none⟩) ∧ (∀ b o, b < W.heap.size → w1.frozen? ⟨b, o, none⟩ = W.frozen? ⟨b, o, none⟩) :=
  ⟨fun b o h => hb.cell (p := ⟨b, o, none⟩) h, fun b o h => hb.frozen (p := ⟨b, o, none⟩) h⟩

theorem rowIs_below {B b t n : Nat} {w w' : World} {f : Nat → Value} (h : w.rowIs b t n f) (hb : Below B w w') (hB : b < B) : w'.rowIs b t n f := h.of_block (hb.block b hB)

/-! ### All nodes -/
def zeroNode : Value := .agg #[.int .i64 0, .int .i64 0, .string ByteArray.empty, .slice none 0 0, .slice none 0 0]
theorem infoNode : (Tryz.prog.info? 52).map (fun i => (i.zero, i.size, i.bytes)) = some (some zeroNode, 5, 80) := by kernel_rfl

def madeNodes (n : Nat) : Array Value := madeCells zeroNode.cells (n * 5)
theorem size_madeNodes (n : Nat) : (madeNodes n).size = n * 5 := size_madeCells _ _

theorem run_make_nodes (n : Nat) (hb : 80 * n ≤ 281474976710656) (w : World) :
    (Instr.makeSlice 25 (.int .i64 (n : Int)) (.int .i64 (n : Int))).run Tryz.prog w = .ok (.slice (some ⟨w.heap.size, 0, none⟩) n n) (w.alloc (.cells (madeNodes n) 52)) := by
  obtain ⟨i, hi, hzz⟩ := Option.map_eq_some_iff.1 infoNode
  simp only [Prod.mk.injEq] at hzz
  obtain ⟨hz, hs, hby⟩ := hzz
  have hr := run_make (P := Tryz.prog) w 25 52 i zeroNode Tryz.underlying25 hi hz .i64 .i64 n n (by omega) (Int.le_refl _) (by rw [hby]; omega) (by omega)
  simp only [Int.toNat_natCast, hs] at hr
  exact hr

def nodeCell (vs : List VN) (KB KI : Nat → Nat) (j : Nat) : Value :=
  if j % 5 = 0 then .int .i64 (nodeAt vs (j / 5)).kind
  else if j % 5 = 1 then .int .i64 (nodeAt vs (j / 5)).n
  else if j % 5 = 2 then .string (nodeAt vs (j / 5)).s
  else if j % 5 = 3 then .slice (some ⟨KB (j / 5), 0, none⟩) (nodeAt vs (j / 5)).keys.length (nodeAt vs (j / 5)).keys.length
  else .slice (some ⟨KI (j / 5), 0, none⟩) (nodeAt vs (j / 5)).kids.length (nodeAt vs (j / 5)).kids.length

theorem nodeCell0 (vs : List VN) (KB KI : Nat → Nat) (i : Nat) : nodeCell vs KB KI (i * 5) = .int .i64 (nodeAt vs i).kind := by
  unfold nodeCell
  rw [if_pos (by omega), show i * 5 / 5 = i by omega]
theorem nodeCell1 (vs : List VN) (KB KI : Nat → Nat) (i : Nat) : nodeCell vs KB KI (i * 5 + 1) = .int .i64 (nodeAt vs i).n := by
  unfold nodeCell
  rw [if_neg (by omega), if_pos (by omega), show (i * 5 + 1) / 5 = i by omega]
theorem nodeCell2 (vs : List VN) (KB KI : Nat → Nat) (i : Nat) : nodeCell vs KB KI (i * 5 + 2) = .string (nodeAt vs i).s := by
  unfold nodeCell
  rw [if_neg (by omega), if_neg (by omega), if_pos (by omega), show (i * 5 + 2) / 5 = i by omega]
theorem nodeCell3 (vs : List VN) (KB KI : Nat → Nat) (i : Nat) : nodeCell vs KB KI (i * 5 + 3) = .slice (some ⟨KB i, 0, none⟩) (nodeAt vs i).keys.length (nodeAt vs i).keys.length := by
  unfold nodeCell
  rw [if_neg (by omega), if_neg (by omega), if_neg (by omega), if_pos (by omega), show (i * 5 + 3) / 5 = i by omega]
theorem nodeCell4 (vs : List VN) (KB KI : Nat → Nat) (i : Nat) : nodeCell vs KB KI (i * 5 + 4) = .slice (some ⟨KI i, 0, none⟩) (nodeAt vs i).kids.length (nodeAt vs i).kids.length := by
  unfold nodeCell
  rw [if_neg (by omega), if_neg (by omega), if_neg (by omega), if_neg (by omega), show (i * 5 + 4) / 5 = i by omega]

def fillNode (vs : List VN) (KB KI : Nat → Nat) (z : Nat → Value) (k j : Nat) : Value := if j < k * 5 then nodeCell vs KB KI j else z j

theorem nodeCell_upd {vs : List VN} {KB KI : Nat → Nat} {k bk bi j : Nat} (h : j < k * 5) : nodeCell vs (fun i => if i = k then bk else KB i) (fun i => if i = k then bi else KI i) j = nodeCell vs KB KI j := by
  unfold nodeCell
  simp only [if_neg (show ¬ j / 5 = k by omega)]

theorem fillNode_step {w : World} {b t m k bk bi : Nat} {vs : List VN} {KB KI : Nat → Nat} {z : Nat → Value} (h : w.rowIs b t m (fillNode vs KB KI z k)) :
    (((((w.setCell ⟨b, k * 5, none⟩ (.int .i64 (nodeAt vs k).kind)).setCell ⟨b, k * 5 + 1, none⟩ (.int .i64 (nodeAt vs k).n)).setCell ⟨b, k * 5 + 2, none⟩ (.string (nodeAt vs k).s)).setCell ⟨b, k * 5 + 3, none⟩
      (.slice (some ⟨bk, 0, none⟩) (nodeAt vs k).keys.length (nodeAt vs k).keys.length)).setCell ⟨b, k * 5 + 4, none⟩ (.slice (some ⟨bi, 0, none⟩) (nodeAt vs k).kids.length (nodeAt vs k).kids.length)).rowIs b t m
      (fillNode vs (fun i => if i = k then bk else KB i) (fun i => if i = k then bi else KI i) z (k + 1)) := by
  refine (((((h.set (k * 5) _).set (k * 5 + 1) _).set (k * 5 + 2) _).set (k * 5 + 3) _).set (k * 5 + 4) _).congr fun j _ => ?_
  by_cases e4 : j = k * 5 + 4
  · subst e4
    rw [if_pos rfl, fillNode, if_pos (by omega), nodeCell4, if_pos rfl]
  rw [if_neg e4]
  by_cases e3 : j = k * 5 + 3
  · subst e3
    rw [if_pos rfl, fillNode, if_pos (by omega), nodeCell3, if_pos rfl]
  rw [if_neg e3]
  by_cases e2 : j = k * 5 + 2
  · subst e2
    rw [if_pos rfl, fillNode, if_pos (by omega), nodeCell2]
  rw [if_neg e2]
  by_cases e1 : j = k * 5 + 1
  · subst e1
    rw [if_pos rfl, fillNode, if_pos (by omega), nodeCell1]
  rw [if_neg e1]
  by_cases e0 : j = k * 5
  · subst e0
    rw [if_pos rfl, fillNode, if_pos (by omega), nodeCell0]
  rw [if_neg e0]
  unfold fillNode
  by_cases hj : j < k * 5
  · rw [if_pos hj, if_pos (by omega), nodeCell_upd hj]
  · rw [if_neg hj, if_neg (by omega)]

/-- Nodes that lie in new memory from block b on: their row, and the rows of their keys and kids, all apart. 'k': so many are there. -/
structure OwnTo (w : World) (b : Nat) (vs : List VN) (KB KI : Nat → Nat) (k : Nat) : Prop where
  lo : ∀ i, i < k → b < KB i ∧ KB i < KI i
  rk : ∀ i, i < k → w.rowIs (KB i) 9 (nodeAt vs i).keys.length (fun j => .string (keyAt (nodeAt vs i).keys j))
  ri : ∀ i, i < k → w.rowIs (KI i) 2 (nodeAt vs i).kids.length (fun j => .int .i64 (intAt (nodeAt vs i).kids j))
  mono : ∀ i j, i < j → j < k → KI i < KB j

structure OwnAt (w : World) (b : Nat) (vs : List VN) (KB KI : Nat → Nat) : Prop where
  row : w.rowIs b 52 (vs.length * 5) (nodeCell vs KB KI)
  to : OwnTo w b vs KB KI vs.length

theorem OwnTo.below {w w' : World} {b k : Nat} {vs : List VN} {KB KI : Nat → Nat} (h : OwnTo w b vs KB KI k) (hb : Below w.heap.size w w') : OwnTo w' b vs KB KI k :=
  ⟨h.lo, fun i hi => rowIs_below (h.rk i hi) hb (h.rk i hi).lt, fun i hi => rowIs_below (h.ri i hi) hb (h.ri i hi).lt, h.mono⟩

theorem OwnAt.below {w w' : World} {b : Nat} {vs : List VN} {KB KI : Nat → Nat} (h : OwnAt w b vs KB KI) (hb : Below w.heap.size w w') : OwnAt w' b vs KB KI :=
  ⟨rowIs_below h.row hb h.row.lt, h.to.below hb⟩

theorem OwnTo.set {w : World} {b k o : Nat} {v : Value} {vs : List VN} {KB KI : Nat → Nat} (h : OwnTo w b vs KB KI k) : OwnTo (w.setCell ⟨b, o, none⟩ v) b vs KB KI k :=
  ⟨h.lo, fun i hi => (h.rk i hi).setOther (by have := h.lo i hi; simp; omega) _, fun i hi => (h.ri i hi).setOther (by have := h.lo i hi; simp; omega) _, h.mono⟩

theorem OwnTo.step {w : World} {b k bk bi : Nat} {vs : List VN} {KB KI : Nat → Nat} (h : OwnTo w b vs KB KI k) (h1 : b < bk) (h2 : bk < bi) (h3 : ∀ i, i < k → KI i < bk)
    (r1 : w.rowIs bk 9 (nodeAt vs k).keys.length (fun j => .string (keyAt (nodeAt vs k).keys j))) (r2 : w.rowIs bi 2 (nodeAt vs k).kids.length (fun j => .int .i64 (intAt (nodeAt vs k).kids j))) :
    OwnTo w b vs (fun i => if i = k then bk else KB i) (fun i => if i = k then bi else KI i) (k + 1) := by
  refine ⟨fun i hi => ?_, fun i hi => ?_, fun i hi => ?_, fun i j hij hj => ?_⟩
  · by_cases e : i = k
    · simp only [if_pos e]; exact ⟨h1, h2⟩
    · simp only [if_neg e]; exact h.lo i (by omega)
  · by_cases e : i = k
    · subst e; simp only [if_true]; exact r1
    · simp only [if_neg e]; exact h.rk i (by omega)
  · by_cases e : i = k
    · subst e; simp only [if_true]; exact r2
    · simp only [if_neg e]; exact h.ri i (by omega)
  · simp only [if_neg (show ¬ i = k by omega)]
    by_cases e : j = k
    · simp only [if_pos e]; exact h3 i (by omega)
    · simp only [if_neg e]; exact h.mono i j hij (by omega)

theorem rowStrs {w : World} {b : Nat} {l : List ByteArray} (h : w.rowIs b 9 l.length (fun j => .string (keyAt l j))) (h1 : l.length ≤ 8796093022208) (h2 : ∀ i, i < l.length → (keyAt l i).size ≤ 140737488355328) (B : Nat) (hB : b < B) :
    StrsAt B w (.slice (some ⟨b, 0, none⟩) l.length l.length) l :=
  ⟨h1, h2, _, _, rfl, fun _ => ⟨b, 0, rfl, hB, fun i hi => by rw [Nat.zero_add]; exact h.cell hi⟩⟩

theorem rowInts {w : World} {b : Nat} {l : List Int} (h : w.rowIs b 2 l.length (fun j => .int .i64 (intAt l j))) (h1 : l.length ≤ 17592186044416) (h2 : ∀ i, i < l.length → -9223372036854775808 ≤ intAt l i ∧ intAt l i ≤ 9223372036854775807) (B : Nat) (hB : b < B) :
    IntsAt B w (.slice (some ⟨b, 0, none⟩) l.length l.length) l :=
  ⟨h1, h2, _, _, rfl, fun _ => ⟨b, 0, rfl, hB, fun i hi => by rw [Nat.zero_add]; exact h.cell hi⟩⟩

theorem OwnAt.nodes {w : World} {b : Nat} {vs : List VN} {KB KI : Nat → Nat} (h : OwnAt w b vs KB KI) (hn : vs.length ≤ 1759218604416) (hf : ∀ i, i < vs.length → Fits (nodeAt vs i)) :
    NodesAt w.heap.size w (.slice (some ⟨b, 0, none⟩) vs.length vs.length) vs := by
  refine ⟨hn, _, _, rfl, fun _ => ⟨b, 0, rfl, h.row.lt, fun i hi => ⟨.slice (some ⟨KB i, 0, none⟩) (nodeAt vs i).keys.length (nodeAt vs i).keys.length, .slice (some ⟨KI i, 0, none⟩) (nodeAt vs i).kids.length (nodeAt vs i).kids.length, ?_⟩⟩⟩
  have f := hf i hi
  rw [Nat.zero_add]
  refine ⟨?_, ?_, ?_, ?_, ?_, ⟨rowStrs (h.to.rk i hi) f.keysN f.keysS _ (h.to.rk i hi).lt, rowInts (h.to.ri i hi) f.kidsN f.kidsB _ (h.to.ri i hi).lt, f.size, f.klo, f.khi, f.nlo, f.nhi⟩⟩
  · rw [h.row.cell (by omega), nodeCell0]
  · rw [h.row.cell (by omega), nodeCell1]
  · rw [h.row.cell (by omega), nodeCell2]
  · rw [h.row.cell (by omega), nodeCell3]
  · rw [h.row.cell (by omega), nodeCell4]

end Go.Proofs.YtokhindolimchaaGreat

/-
  The laws' marks: texts of numbers.
-/
namespace Go.Proofs.YtokhindolimchaaGreat
open Go.RowKit
set_option linter.unusedSimpArgs false
set_option linter.unusedVariables false

def digB (c : Nat) : ByteArray := ⟨#[UInt8.ofNat (48 + c % 10)]⟩
theorem digB_size (c : Nat) : (digB c).size = 1 := rfl

def mloop : Nat → Nat → ByteArray → ByteArray
  | 0, _, out => out
  | f + 1, c, out => if 0 < c then mloop f (c / 10) (digB c ++ out) else out

theorem mloop_zero (f : Nat) (out : ByteArray) : mloop f 0 out = out := by cases f <;> simp [mloop]

def markOf (k : Nat) : ByteArray := ⟨#[109]⟩ ++ mloop 20 k ⟨#[]⟩

theorem digitText (c : Nat) (w : World) : (convert 22 9 (.slice (some ⟨w.heap.size, 0, none⟩) 1 1)).run Tryz.prog (w.alloc (.cells #[.int .u8 (48 + (c : Int) % 10)] 5)) = .ok (.string (digB c)) (w.alloc (.cells #[.int .u8 (48 + (c : Int) % 10)] 5)) := by
  refine run_convert_bytes_back (P := Tryz.prog) _ 22 9 5 ⟨w.heap.size, 0, none⟩ 1 [UInt8.ofNat (48 + c % 10)] (by kernel_rfl) (by kernel_rfl) (by kernel_rfl) ?_
  intro j hj
  obtain rfl : j = 0 := by simpa using hj
  have e : ((UInt8.ofNat (48 + c % 10)).toNat : Int) = 48 + (c : Int) % 10 := by
    rw [UInt8.toNat_ofNat']; omega
  show _ = some (Value.int .u8 ((UInt8.ofNat (48 + c % 10)).toNat : Int))
  rw [e]
  simp [Addr.add]

/-- The cells of a row can be written. -/
def WRow (w : World) (b n : Nat) : Prop := ∀ j, j < n → (∃ v, w.cell? ⟨b, j, none⟩ = some v) ∧ w.frozen? ⟨b, j, none⟩ = false

theorem WRow.set {w : World} {b n : Nat} (h : WRow w b n) (a : Addr) (v : Value) : WRow (w.setCell a v) b n := by
  intro j hj
  obtain ⟨⟨u, hu⟩, hf⟩ := h j hj
  refine ⟨?_, by rw [World.frozen?_setCell]; exact hf⟩
  by_cases e : a = ⟨b, j, none⟩
  · subst e; exact ⟨v, World.cell?_setCell_same _ _ _ hu⟩
  · exact ⟨u, by rw [World.cell?_setCell_other (h := e)]; exact hu⟩

theorem WRow.below {w w' : World} {b n B : Nat} (h : WRow w b n) (hb : Below B w w') (hB : b < B) : WRow w' b n := by
  intro j hj
  obtain ⟨⟨u, hu⟩, hf⟩ := h j hj
  refine ⟨⟨u, (below_cell hb hB).trans hu⟩, ?_⟩
  unfold World.frozen? at hf ⊢
  rw [show w'.heap[(⟨b, j, none⟩ : Addr).block]? = w.heap[(⟨b, j, none⟩ : Addr).block]? from hb.block b hB]
  exact hf

/-- Only blocks of P were written, of those that were there. -/
def Only (P : Nat → Prop) (w w' : World) : Prop := w.heap.size ≤ w'.heap.size ∧ ∀ c, c < w.heap.size → ¬ P c → w'.heap[c]? = w.heap[c]?

theorem Only.refl (P : Nat → Prop) (w : World) : Only P w w := ⟨Nat.le_refl _, fun _ _ _ => rfl⟩
theorem Only.trans {P : Nat → Prop} {a b c : World} (h : Only P a b) (k : Only P b c) : Only P a c := ⟨Nat.le_trans h.1 k.1, fun i h1 h2 => (k.2 i (by have := h.1; omega) h2).trans (h.2 i h1 h2)⟩
theorem Only.imp {P Q : Nat → Prop} {a b : World} (h : Only P a b) (hi : ∀ c, P c → Q c) : Only Q a b := ⟨h.1, fun c h1 h2 => h.2 c h1 fun h => h2 (hi c h)⟩
theorem Only.set {P : Nat → Prop} (w : World) {b o : Nat} (hP : P b) (v : Value) : Only P w (w.setCell ⟨b, o, none⟩ v) := ⟨by simp, fun c _ hc => Below.heap_setCell w _ v c (fun e => hc (by rw [e]; exact hP))⟩
theorem Only.of_below {P : Nat → Prop} {w w' : World} (h : Below w.heap.size w w') : Only P w w' := ⟨h.size, fun c hc _ => h.block c hc⟩
theorem Only.cell {P : Nat → Prop} {w w' : World} (h : Only P w w') {b o : Nat} (hb : b < w.heap.size) (hP : ¬ P b) : w'.cell? ⟨b, o, none⟩ = w.cell? ⟨b, o, none⟩ := by
  unfold World.cell?
  rw [show w'.heap[(⟨b, o, none⟩ : Addr).block]? = w.heap[(⟨b, o, none⟩ : Addr).block]? from h.2 b hb hP]

end Go.Proofs.YtokhindolimchaaGreat

/-
  The laws' marks of nodes: each field of each node and each part of its keys and kids gets its own number, and holds it.
-/
namespace Go.Proofs.YtokhindolimchaaGreat
open Go.RowKit
set_option linter.unusedSimpArgs false
set_option linter.unusedVariables false

def off (KN IN : Nat → Nat) (k : Nat) : Nat → Nat
  | 0 => k
  | i + 1 => off KN IN k i + 3 + KN i + IN i

theorem off_le (KN IN : Nat → Nat) (k : Nat) : ∀ i, (∀ j, j < i → KN j ≤ 1048576 ∧ IN j ≤ 1048576) → off KN IN k i ≤ k + i * 2097155 := by
  intro i
  induction i with
  | zero => intro _; simp [off]
  | succ i ih =>
    intro h
    have := ih (fun j hj => h j (by omega))
    have := h i (by omega)
    rw [off]
    omega
theorem off_ge (KN IN : Nat → Nat) (k : Nat) : ∀ i, k ≤ off KN IN k i := by
  intro i
  induction i with
  | zero => exact Nat.le_refl _
  | succ i ih => rw [off]; omega

/-- Nodes whose memory is their own: rows apart, all of them to be written. -/
structure Marky (lo : Nat) (w : World) (b n : Nat) (KN IN KB KI : Nat → Nat) : Prop where
  low : lo ≤ b
  lt : b < w.heap.size
  few : n ≤ 1048576
  row : WRow w b (n * 5)
  kn : ∀ i, i < n → KN i ≤ 1048576 ∧ IN i ≤ 1048576
  c3 : ∀ i, i < n → ∃ a c, w.cell? ⟨b, i * 5 + 3, none⟩ = some (.slice a (KN i) c) ∧ (0 < KN i → a = some ⟨KB i, 0, none⟩ ∧ lo ≤ KB i ∧ KB i < w.heap.size ∧ WRow w (KB i) (KN i))
  c4 : ∀ i, i < n → ∃ a c, w.cell? ⟨b, i * 5 + 4, none⟩ = some (.slice a (IN i) c) ∧ (0 < IN i → a = some ⟨KI i, 0, none⟩ ∧ lo ≤ KI i ∧ KI i < w.heap.size ∧ WRow w (KI i) (IN i))
  db : ∀ i, i < n → (0 < KN i → KB i ≠ b) ∧ (0 < IN i → KI i ≠ b)
  dkk : ∀ i j, i < n → j < n → i ≠ j → 0 < KN i → 0 < KN j → KB i ≠ KB j
  dki : ∀ i j, i < n → j < n → 0 < KN i → 0 < IN j → KB i ≠ KI j
  dii : ∀ i j, i < n → j < n → i ≠ j → 0 < IN i → 0 < IN j → KI i ≠ KI j

/-- Node i holds its marks, from o on. -/
structure HNode (w : World) (b i kn ni kb ki o : Nat) : Prop where
  lt : b < w.heap.size
  c0 : w.cell? ⟨b, i * 5, none⟩ = some (.int .i64 (o : Nat))
  c1 : w.cell? ⟨b, i * 5 + 1, none⟩ = some (.int .i64 (o + 1 : Nat))
  c2 : w.cell? ⟨b, i * 5 + 2, none⟩ = some (.string (markOf (o + 2)))
  c3 : ∃ a c, w.cell? ⟨b, i * 5 + 3, none⟩ = some (.slice a kn c) ∧ (0 < kn → a = some ⟨kb, 0, none⟩ ∧ kb < w.heap.size ∧ ∀ j, j < kn → w.cell? ⟨kb, j, none⟩ = some (.string (markOf (o + 3 + j))))
  c4 : ∃ a c, w.cell? ⟨b, i * 5 + 4, none⟩ = some (.slice a ni c) ∧ (0 < ni → a = some ⟨ki, 0, none⟩ ∧ ki < w.heap.size ∧ ∀ j, j < ni → w.cell? ⟨ki, j, none⟩ = some (.int .i64 (o + 3 + kn + j : Nat)))

theorem HNode.keep {w w' : World} {b i kn ni kb ki o : Nat} (h : HNode w b i kn ni kb ki o) (hs : w.heap.size ≤ w'.heap.size) (hb : ∀ j, j < 5 → w'.cell? ⟨b, i * 5 + j, none⟩ = w.cell? ⟨b, i * 5 + j, none⟩)
    (hk : 0 < kn → ∀ j, w'.cell? ⟨kb, j, none⟩ = w.cell? ⟨kb, j, none⟩) (hi : 0 < ni → ∀ j, w'.cell? ⟨ki, j, none⟩ = w.cell? ⟨ki, j, none⟩) : HNode w' b i kn ni kb ki o := by
  refine ⟨by have := h.lt; omega, (hb 0 (by omega)).trans h.c0, (hb 1 (by omega)).trans h.c1, (hb 2 (by omega)).trans h.c2, ?_, ?_⟩
  · obtain ⟨a, c, e, hx⟩ := h.c3
    refine ⟨a, c, (hb 3 (by omega)).trans e, fun hp => ?_⟩
    obtain ⟨e1, e2, e3⟩ := hx hp
    exact ⟨e1, by omega, fun j hj => (hk hp j).trans (e3 j hj)⟩
  · obtain ⟨a, c, e, hx⟩ := h.c4
    refine ⟨a, c, (hb 4 (by omega)).trans e, fun hp => ?_⟩
    obtain ⟨e1, e2, e3⟩ := hx hp
    exact ⟨e1, by omega, fun j hj => (hi hp j).trans (e3 j hj)⟩

theorem HNode.below {w w' : World} {b i kn ni kb ki o : Nat} (h : HNode w b i kn ni kb ki o) (hb : Below w.heap.size w w') : HNode w' b i kn ni kb ki o := by
  obtain ⟨_, _, _, h3⟩ := h.c3
  obtain ⟨_, _, _, h4⟩ := h.c4
  exact h.keep hb.size (fun j _ => below_cell hb h.lt) (fun hp j => below_cell hb (h3 hp).2.1) (fun hp j => below_cell hb (h4 hp).2.1)

end Go.Proofs.YtokhindolimchaaGreat

/-
  The laws' marks of nodes are laid.
-/
namespace Go.Proofs.YtokhindolimchaaGreat
open Go.RowKit
set_option linter.unusedSimpArgs false
set_option linter.unusedVariables false

theorem WRow.same {w w' : World} {b n : Nat} (h : WRow w b n) (e : w'.heap[b]? = w.heap[b]?) : WRow w' b n := by
  intro j hj
  obtain ⟨⟨u, hu⟩, hf⟩ := h j hj
  refine ⟨⟨u, ?_⟩, ?_⟩
  · unfold World.cell? at hu ⊢; rw [show w'.heap[(⟨b, j, none⟩ : Addr).block]? = w.heap[(⟨b, j, none⟩ : Addr).block]? from e]; exact hu
  · unfold World.frozen? at hf ⊢; rw [show w'.heap[(⟨b, j, none⟩ : Addr).block]? = w.heap[(⟨b, j, none⟩ : Addr).block]? from e]; exact hf

section
variable {lo b n : Nat} {w w' : World} {KN IN KB KI : Nat → Nat}

theorem Marky.keep (h : Marky lo w b n KN IN KB KI) (hs : w.heap.size ≤ w'.heap.size) (hb : WRow w' b (n * 5)) (hc : ∀ i j, i < n → 3 ≤ j → j < 5 → w'.cell? ⟨b, i * 5 + j, none⟩ = w.cell? ⟨b, i * 5 + j, none⟩)
    (hk : ∀ i, i < n → 0 < KN i → WRow w' (KB i) (KN i)) (hi : ∀ i, i < n → 0 < IN i → WRow w' (KI i) (IN i)) : Marky lo w' b n KN IN KB KI := by
  refine ⟨h.low, by have := h.lt; omega, h.few, hb, h.kn, fun i hi' => ?_, fun i hi' => ?_, h.db, h.dkk, h.dki, h.dii⟩
  · obtain ⟨a, c, e, hx⟩ := h.c3 i hi'
    refine ⟨a, c, (hc i 3 hi' (by omega) (by omega)).trans e, fun hp => ?_⟩
    obtain ⟨e1, e2, e3, _⟩ := hx hp
    exact ⟨e1, e2, by omega, hk i hi' hp⟩
  · obtain ⟨a, c, e, hx⟩ := h.c4 i hi'
    refine ⟨a, c, (hc i 4 hi' (by omega) (by omega)).trans e, fun hp => ?_⟩
    obtain ⟨e1, e2, e3, _⟩ := hx hp
    exact ⟨e1, e2, by omega, hi i hi' hp⟩

theorem Marky.kr (h : Marky lo w b n KN IN KB KI) {i : Nat} (hi : i < n) (hp : 0 < KN i) : lo ≤ KB i ∧ KB i < w.heap.size ∧ WRow w (KB i) (KN i) := by
  obtain ⟨a, c, e, hx⟩ := h.c3 i hi
  exact (hx hp).2
theorem Marky.ir (h : Marky lo w b n KN IN KB KI) {i : Nat} (hi : i < n) (hp : 0 < IN i) : lo ≤ KI i ∧ KI i < w.heap.size ∧ WRow w (KI i) (IN i) := by
  obtain ⟨a, c, e, hx⟩ := h.c4 i hi
  exact (hx hp).2

theorem Marky.set (h : Marky lo w b n KN IN KB KI) {p : Nat} (hp : p % 5 < 3) (v : Value) : Marky lo (w.setCell ⟨b, p, none⟩ v) b n KN IN KB KI :=
  h.keep (by simp) (h.row.set _ _) (fun i j hi h3 h5 => World.cell?_setCell_other _ _ _ _ (fun e => by have := congrArg Addr.off e; simp at this; omega)) (fun i hi hp => (h.kr hi hp).2.2.set _ _) (fun i hi hp => (h.ir hi hp).2.2.set _ _)

theorem Marky.below (h : Marky lo w b n KN IN KB KI) (hb : Below w.heap.size w w') : Marky lo w' b n KN IN KB KI :=
  h.keep hb.size (h.row.below hb h.lt) (fun i j hi h3 h5 => below_cell hb h.lt) (fun i hi hp => (h.kr hi hp).2.2.below hb (h.kr hi hp).2.1) (fun i hi hp => (h.ir hi hp).2.2.below hb (h.ir hi hp).2.1)

theorem Marky.keys (h : Marky lo w b n KN IN KB KI) {c : Nat} (hc : c < n) (ho : Only (fun x => 0 < KN c ∧ x = KB c) w w') (hw : 0 < KN c → WRow w' (KB c) (KN c)) : Marky lo w' b n KN IN KB KI := by
  have hb : w'.heap[b]? = w.heap[b]? := ho.2 b h.lt fun ⟨h1, h2⟩ => (h.db c hc).1 h1 h2.symm
  refine h.keep ho.1 (h.row.same hb) (fun i j hi h3 h5 => ho.cell h.lt fun ⟨h1, h2⟩ => (h.db c hc).1 h1 h2.symm) (fun i hi hp => ?_) (fun i hi hp => ?_)
  · by_cases e : i = c
    · subst e; exact hw hp
    · exact (h.kr hi hp).2.2.same (ho.2 _ (h.kr hi hp).2.1 fun ⟨h1, h2⟩ => h.dkk i c hi hc e hp h1 h2)
  · exact (h.ir hi hp).2.2.same (ho.2 _ (h.ir hi hp).2.1 fun ⟨h1, h2⟩ => h.dki c i hc hi h1 hp h2.symm)

theorem Marky.kids (h : Marky lo w b n KN IN KB KI) {c : Nat} (hc : c < n) (ho : Only (fun x => 0 < IN c ∧ x = KI c) w w') (hw : 0 < IN c → WRow w' (KI c) (IN c)) : Marky lo w' b n KN IN KB KI := by
  have hb : w'.heap[b]? = w.heap[b]? := ho.2 b h.lt fun ⟨h1, h2⟩ => (h.db c hc).2 h1 h2.symm
  refine h.keep ho.1 (h.row.same hb) (fun i j hi h3 h5 => ho.cell h.lt fun ⟨h1, h2⟩ => (h.db c hc).2 h1 h2.symm) (fun i hi hp => ?_) (fun i hi hp => ?_)
  · exact (h.kr hi hp).2.2.same (ho.2 _ (h.kr hi hp).2.1 fun ⟨h1, h2⟩ => h.dki i c hi hc hp h1 h2)
  · by_cases e : i = c
    · subst e; exact hw hp
    · exact (h.ir hi hp).2.2.same (ho.2 _ (h.ir hi hp).2.1 fun ⟨h1, h2⟩ => h.dii i c hi hc e hp h1 h2)

/-- What marks of node c turn: three cells of the row, the rows of its keys and of its kids. -/
structure Turns (b c : Nat) (KN IN KB KI : Nat → Nat) (w w' : World) : Prop where
  size : w.heap.size ≤ w'.heap.size
  row : ∀ o, o ≠ c * 5 → o ≠ c * 5 + 1 → o ≠ c * 5 + 2 → w'.cell? ⟨b, o, none⟩ = w.cell? ⟨b, o, none⟩
  rest : ∀ x, x < w.heap.size → x ≠ b → ¬ (0 < KN c ∧ x = KB c) → ¬ (0 < IN c ∧ x = KI c) → w'.heap[x]? = w.heap[x]?

theorem Turns.cell {b c : Nat} (t : Turns b c KN IN KB KI w w') {x o : Nat} (h1 : x < w.heap.size) (h2 : x ≠ b) (h3 : ¬ (0 < KN c ∧ x = KB c)) (h4 : ¬ (0 < IN c ∧ x = KI c)) : w'.cell? ⟨x, o, none⟩ = w.cell? ⟨x, o, none⟩ := by
  unfold World.cell?
  rw [show w'.heap[(⟨x, o, none⟩ : Addr).block]? = w.heap[(⟨x, o, none⟩ : Addr).block]? from t.rest x h1 h2 h3 h4]

theorem Turns.refl (b c : Nat) (KN IN KB KI : Nat → Nat) (w : World) : Turns b c KN IN KB KI w w := ⟨Nat.le_refl _, fun _ _ _ _ => rfl, fun _ _ _ _ _ => rfl⟩
theorem Turns.trans {b c : Nat} {w1 w2 w3 : World} (h : Turns b c KN IN KB KI w1 w2) (k : Turns b c KN IN KB KI w2 w3) : Turns b c KN IN KB KI w1 w3 :=
  ⟨Nat.le_trans h.size k.size, fun o h1 h2 h3 => (k.row o h1 h2 h3).trans (h.row o h1 h2 h3), fun x h1 h2 h3 h4 => (k.rest x (by have := h.size; omega) h2 h3 h4).trans (h.rest x h1 h2 h3 h4)⟩
theorem Turns.set {b c : Nat} (w : World) (v : Value) {p : Nat} (hp : p = c * 5 ∨ p = c * 5 + 1 ∨ p = c * 5 + 2) : Turns b c KN IN KB KI w (w.setCell ⟨b, p, none⟩ v) :=
  ⟨by simp, fun o h1 h2 h3 => World.cell?_setCell_other _ _ _ _ (fun e => by have := congrArg Addr.off e; simp at this; omega), fun x h1 h2 h3 h4 => Below.heap_setCell w _ v x h2⟩
theorem Turns.below {b c : Nat} (hb : Below w.heap.size w w') (hl : b < w.heap.size) : Turns b c KN IN KB KI w w' := ⟨hb.size, fun o _ _ _ => below_cell hb hl, fun x h _ _ _ => hb.block x h⟩
theorem Turns.only {b c : Nat} {P : Nat → Prop} (ho : Only P w w') (hl : b < w.heap.size) (hb : ¬ P b) (hP : ∀ x, P x → (0 < KN c ∧ x = KB c) ∨ (0 < IN c ∧ x = KI c)) : Turns b c KN IN KB KI w w' :=
  ⟨ho.1, fun o _ _ _ => ho.cell hl hb, fun x h h1 h2 h3 => ho.2 x h fun hp => (hP x hp).elim h2 h3⟩

/-- The blocks that marks of nodes write. -/
def Marked (b n : Nat) (KN IN KB KI : Nat → Nat) (x : Nat) : Prop := 0 < n ∧ (x = b ∨ ∃ i, i < n ∧ ((0 < KN i ∧ x = KB i) ∨ (0 < IN i ∧ x = KI i)))

theorem Turns.marked {b c n : Nat} (t : Turns b c KN IN KB KI w w') (hc : c < n) : Only (Marked b n KN IN KB KI) w w' :=
  ⟨t.size, fun x h hx => t.rest x h (fun e => hx ⟨by omega, Or.inl e⟩) (fun e => hx ⟨by omega, Or.inr ⟨c, hc, Or.inl e⟩⟩) (fun e => hx ⟨by omega, Or.inr ⟨c, hc, Or.inr e⟩⟩)⟩

theorem Turns.node (h : Marky lo w b n KN IN KB KI) {c i o : Nat} (hc : c < n) (hi : i < c) (t : Turns b c KN IN KB KI w w') (hn : HNode w b i (KN i) (IN i) (KB i) (KI i) o) : HNode w' b i (KN i) (IN i) (KB i) (KI i) o := by
  have hin : i < n := by omega
  refine hn.keep t.size (fun j hj => t.row _ (by omega) (by omega) (by omega)) (fun hp j => ?_) (fun hp j => ?_)
  · exact t.cell (h.kr hin hp).2.1 ((h.db i hin).1 hp) (fun ⟨h1, h2⟩ => h.dkk i c hin hc (by omega) hp h1 h2) (fun ⟨h1, h2⟩ => h.dki i c hin hc hp h1 h2)
  · exact t.cell (h.ir hin hp).2.1 ((h.db i hin).2 hp) (fun ⟨h1, h2⟩ => h.dki c i hc hin h1 hp h2.symm) (fun ⟨h1, h2⟩ => h.dii i c hin hc (by omega) hp h1 h2)
end

end Go.Proofs.YtokhindolimchaaGreat
