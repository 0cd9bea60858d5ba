/-
  The functions that copy numbers, texts and nodes into new memory: what they hand back lies in new blocks and holds what came in.
-/
import Derived.Test.YtgmnihofkpjboaaGreatDoorStepC
import Derived.Test.YtgmnihofkpjboaaGreatDoorProg
import Derived.Deep.OwnRows
import Derived.KernelRfl
namespace Go.Proofs.YtgmnihofkpjboaaGreatDoor
open Go.RowKit
set_option linter.unusedSimpArgs false
set_option linter.unusedVariables false

theorem infoInt : (Tryz.prog.info? 2).map (fun i => (i.zero, i.size, i.bytes)) = some (some (.int .i64 0), 1, 8) := by kernel_rfl
theorem infoStr : (Tryz.prog.info? 9).map (fun i => (i.zero, i.size, i.bytes)) = some (some (.string ByteArray.empty), 1, 16) := by kernel_rfl

def fillInt (l : List Int) (k : Nat) (j : Nat) : Value := if j < k then .int .i64 (intAt l j) else .int .i64 0
def fillStr (l : List ByteArray) (k : Nat) (j : Nat) : Value := if j < k then .string (keyAt l j) else .string ByteArray.empty

theorem fillInt_step {w : World} {b t n k : Nat} {l : List Int} (h : w.rowIs b t n (fillInt l k)) : (w.setCell ⟨b, k, none⟩ (.int .i64 (intAt l k))).rowIs b t n (fillInt l (k + 1)) := by
  refine (h.set k _).congr fun i _ => ?_
  unfold fillInt
  by_cases e : i = k
  · subst e; rw [if_pos rfl, if_pos (by omega)]
  · rw [if_neg e]; by_cases g : i < k
    · rw [if_pos g, if_pos (by omega)]
    · rw [if_neg g, if_neg (by omega)]

theorem fillStr_step {w : World} {b t n k : Nat} {l : List ByteArray} (h : w.rowIs b t n (fillStr l k)) : (w.setCell ⟨b, k, none⟩ (.string (keyAt l k))).rowIs b t n (fillStr l (k + 1)) := by
  refine (h.set k _).congr fun i _ => ?_
  unfold fillStr
  by_cases e : i = k
  · subst e; rw [if_pos rfl, if_pos (by omega)]
  · rw [if_neg e]; by_cases g : i < k
    · rw [if_pos g, if_pos (by omega)]
    · rw [if_neg g, if_neg (by omega)]

set_option maxHeartbeats 800000 in
theorem toInt64S_any (B : Nat) (v : Value) (l : List Int) (w : World) (h : IntsAt B w v l) (hB : B ≤ w.heap.size) :
    Calls Tryz.prog 34 #[v] w fun e w' => e = .returned (.slice (some ⟨w.heap.size, 0, none⟩) l.length l.length) ∧
      w'.rowIs w.heap.size 2 l.length (fun j => .int .i64 (intAt l j)) ∧ Below w.heap.size w w' := by
  obtain ⟨hlen, _, a, cap, rfl, hcell⟩ := h
  have hmk := run_make_row' (P := Tryz.prog) 33 2 (.int .i64 0) 8 Tryz.underlying33 infoInt rfl .i64 .i64 l.length (by omega) (by omega)
  go_enter Tryz.func34, Tryz.ntmps34
  go_wp2
  clear hmk
  have hr0 : ((w.alloc (.cells (madeCells #[Value.int .i64 0] l.length) 2)).rowIs w.heap.size 2 l.length (fillInt l 0)) := (World.rowIs_made w _ _ _).congr fun i _ => by simp [fillInt]
  have hb0 : Below w.heap.size w (w.alloc (.cells (madeCells #[Value.int .i64 0] l.length) 2)) := (Below.refl _ _).alloc (Nat.le_refl _) _
  go_loopw [4] (fun i wr => ∃ k : Nat, k ≤ l.length ∧ i = .int .i64 k ∧ wr.rowIs w.heap.size 2 l.length (fillInt l k) ∧ Below w.heap.size w wr) (fun i _ => l.length - (intOf i).toNat)
  case atStart => exact ⟨0, Nat.zero_le _, rfl, hr0, hb0⟩
  case round =>
    obtain ⟨k, hk, rfl, hrow, hbel⟩ := hrel
    clear hr0 hb0
    by_cases hlt : k < l.length
    · obtain ⟨b, o, rfl, hbB, hc⟩ := hcell (by omega)
      have hck := (below_cell (o := o + k) hbel (show b < w.heap.size by omega)).trans (hc k hlt)
      have hcs := hrow.cell hlt
      have hfs := hrow.frozen k
      have hnew := fillInt_step hrow
      have hbn := hbel.setCell (p := ⟨w.heap.size, k, none⟩) (Nat.le_refl _) (.int .i64 (intAt l k))
      clear hc hcell
      go_wp2
      go_roundw
      case rel => exact ⟨k + 1, by omega, by go_num, hnew, hbn⟩
      case measure => simp [intOf]; omega
    · obtain rfl : k = l.length := by omega
      go_wp2
      go_ret
      exact ⟨rfl, hrow.congr fun i hi => by simp [fillInt, hi], hbel⟩

set_option maxHeartbeats 800000 in
theorem toStringS_any (B : Nat) (v : Value) (l : List ByteArray) (w : World) (h : StrsAt B w v l) (hB : B ≤ w.heap.size) :
    Calls Tryz.prog 33 #[v] w fun e w' => e = .returned (.slice (some ⟨w.heap.size, 0, none⟩) l.length l.length) ∧
      w'.rowIs w.heap.size 9 l.length (fun j => .string (keyAt l j)) ∧ Below w.heap.size w w' := by
  obtain ⟨hlen, _, a, cap, rfl, hcell⟩ := h
  have hmk := run_make_row' (P := Tryz.prog) 32 9 (.string ByteArray.empty) 16 Tryz.underlying32 infoStr rfl .i64 .i64 l.length (by omega) (by omega)
  go_enter Tryz.func33, Tryz.ntmps33
  go_wp2
  clear hmk
  have hr0 : ((w.alloc (.cells (madeCells #[Value.string ByteArray.empty] l.length) 9)).rowIs w.heap.size 9 l.length (fillStr l 0)) := (World.rowIs_made w _ _ _).congr fun i _ => by simp [fillStr]
  have hb0 : Below w.heap.size w (w.alloc (.cells (madeCells #[Value.string ByteArray.empty] l.length) 9)) := (Below.refl _ _).alloc (Nat.le_refl _) _
  go_loopw [4] (fun i wr => ∃ k : Nat, k ≤ l.length ∧ i = .int .i64 k ∧ wr.rowIs w.heap.size 9 l.length (fillStr l k) ∧ Below w.heap.size w wr) (fun i _ => l.length - (intOf i).toNat)
  case atStart => exact ⟨0, Nat.zero_le _, rfl, hr0, hb0⟩
  case round =>
    obtain ⟨k, hk, rfl, hrow, hbel⟩ := hrel
    clear hr0 hb0
    by_cases hlt : k < l.length
    · obtain ⟨b, o, rfl, hbB, hc⟩ := hcell (by omega)
      have hck := (below_cell (o := o + k) hbel (show b < w.heap.size by omega)).trans (hc k hlt)
      have hcs := hrow.cell hlt
      have hfs := hrow.frozen k
      have hnew := fillStr_step hrow
      have hbn := hbel.setCell (p := ⟨w.heap.size, k, none⟩) (Nat.le_refl _) (.string (keyAt l k))
      clear hc hcell
      go_wp2
      go_roundw
      case rel => exact ⟨k + 1, by omega, by go_num, hnew, hbn⟩
      case measure => simp [intOf]; omega
    · obtain rfl : k = l.length := by omega
      go_wp2
      go_ret
      exact ⟨rfl, hrow.congr fun i hi => by simp [fillStr, hi], hbel⟩

theorem bcell {W w1 : World} (hb : Below W.heap.size W w1) : (∀ b o, b < W.heap.size → w1.cell? ⟨b, o, none⟩ = W.cell? ⟨b, o, none⟩) ∧ (∀ b o, b < W.heap.size → w1.frozen? ⟨b, o, none⟩ = W.frozen? ⟨b, o, none⟩) :=
  ⟨fun b o h => hb.cell (p := ⟨b, o, none⟩) h, fun b o h => hb.frozen (p := ⟨b, o, none⟩) h⟩

theorem rowIs_below {B b t n : Nat} {w w' : World} {f : Nat → Value} (h : w.rowIs b t n f) (hb : Below B w w') (hB : b < B) : w'.rowIs b t n f := h.of_block (hb.block b hB)

set_option maxHeartbeats 1600000 in
theorem toVNode_any (B : Nat) (x : VN) (ka ki : Value) (w : World) (h : NodeIn B w x ka ki) (hB : B ≤ w.heap.size) :
    Calls Tryz.prog 14 #[.agg #[.int .i64 x.kind, .int .i64 x.n, .string x.s, ka, ki]] w fun e w' => ∃ bk bi : Nat,
      e = .returned (.agg #[.int .i64 x.kind, .int .i64 x.n, .string x.s, .slice (some ⟨bk, 0, none⟩) x.keys.length x.keys.length, .slice (some ⟨bi, 0, none⟩) x.kids.length x.kids.length]) ∧
      w.heap.size ≤ bk ∧ bk < bi ∧ w'.rowIs bk 9 x.keys.length (fun j => .string (keyAt x.keys j)) ∧ w'.rowIs bi 2 x.kids.length (fun j => .int .i64 (intAt x.kids j)) ∧ Below w.heap.size w w' := by
  obtain ⟨_, _, a1, c1, e1, _⟩ := h.keys
  obtain ⟨_, _, a2, c2, e2, _⟩ := h.kids
  have H : Hid (NodeIn B w x ka ki) := h
  subst e1 e2
  clear h
  go_enter Tryz.func14, Tryz.ntmps14
  go_wp2_with fail
  refine (toStringS_any B _ _ _ (H.out.keys.below (((((Below.refl _ _).alloc (Nat.le_refl _) _).alloc (by simp) _).alloc (by simp; omega) _).mono hB)) (by simp; omega)).mono ?_
  rintro e w1 ⟨rfl, hrow1, hb1⟩
  obtain ⟨hc1, hf1⟩ := bcell hb1
  have hz1 := hb1.size
  simp only [World.size_alloc] at hc1 hf1 hz1 hrow1
  have hk1 : IntsAt B (w1.setCell ⟨w.heap.size + 1 + 1, 3, none⟩ (.slice (some ⟨w.heap.size + 1 + 1 + 1, 0, none⟩) x.keys.length x.keys.length)) (.slice a2 x.kids.length c2) x.kids := by
    refine H.out.kids.below ?_
    exact ((((((Below.refl _ _).alloc (Nat.le_refl _) _).alloc (by simp) _).alloc (by simp; omega) _).mono hB).trans (hb1.mono (by simp; omega))).setCell (by simp; omega) _
  go_wp2_with fail
  refine (toInt64S_any B _ _ _ hk1 (by simp; omega)).mono ?_
  rintro e w2 ⟨rfl, hrow2, hb2⟩
  obtain ⟨hc2, hf2⟩ := bcell hb2
  have hz2 := hb2.size
  simp only [World.size_setCell] at hc2 hf2 hz2 hrow2
  have hlt := hrow1.lt
  have hy1 : w.heap.size + 1 + 1 < w1.heap.size := by omega
  have hy2 : w.heap.size + 1 < w1.heap.size := by omega
  have R1 : w2.rowIs (w.heap.size + 1 + 1 + 1) 9 x.keys.length (fun j => .string (keyAt x.keys j)) := rowIs_below (hrow1.setOther (by simp) _) hb2 (by simpa using hlt)
  have B2 : Below w.heap.size w w2 := ((((((Below.refl _ _).alloc (Nat.le_refl _) _).alloc (by simp) _).alloc (by simp; omega) _).trans (hb1.mono (by simp; omega))).setCell (by simp; omega) _).trans (hb2.mono (by simp; omega))
  go_wp2_with fail
  refine bodyPost_ret (v := .agg #[.int .i64 x.kind, .int .i64 x.n, .string x.s, .slice (some ⟨w.heap.size + 1 + 1 + 1, 0, none⟩) x.keys.length x.keys.length, .slice (some ⟨w1.heap.size, 0, none⟩) x.kids.length x.kids.length]) (by simp [results, Tryz.results14, go_sem, hc2, hc1, hy2]) rfl ⟨w.heap.size + 1 + 1 + 1, w1.heap.size, rfl, by omega, hlt, ?_, ?_, ?_⟩
  · refine World.rowIs.setOther (World.rowIs.setOther (World.rowIs.setOther (World.rowIs.setOther (World.rowIs.setOther (World.rowIs.setOther R1 ?_ _) ?_ _) ?_ _) ?_ _) ?_ _) ?_ _ <;> simp <;> omega
  · refine World.rowIs.setOther (World.rowIs.setOther (World.rowIs.setOther (World.rowIs.setOther (World.rowIs.setOther (World.rowIs.setOther hrow2 ?_ _) ?_ _) ?_ _) ?_ _) ?_ _) ?_ _ <;> simp <;> omega
  · refine Below.setCell (Below.setCell (Below.setCell (Below.setCell (Below.setCell (Below.setCell B2 ?_ _) ?_ _) ?_ _) ?_ _) ?_ _) ?_ _ <;> simp <;> omega

/-! ### All nodes -/
def zeroNode : Value := .agg #[.int .i64 0, .int .i64 0, .string ByteArray.empty, .slice none 0 0, .slice none 0 0]
theorem infoNode : (Tryz.prog.info? 37).map (fun i => (i.zero, i.size, i.bytes)) = some (some zeroNode, 5, 80) := by kernel_rfl

def madeNodes (n : Nat) : Array Value := madeCells zeroNode.cells (n * 5)
theorem size_madeNodes (n : Nat) : (madeNodes n).size = n * 5 := size_madeCells _ _

theorem run_make_nodes (n : Nat) (hb : 80 * n ≤ 281474976710656) (w : World) :
    (Instr.makeSlice 24 (.int .i64 (n : Int)) (.int .i64 (n : Int))).run Tryz.prog w = .ok (.slice (some ⟨w.heap.size, 0, none⟩) n n) (w.alloc (.cells (madeNodes n) 37)) := by
  obtain ⟨i, hi, hzz⟩ := Option.map_eq_some_iff.1 infoNode
  simp only [Prod.mk.injEq] at hzz
  obtain ⟨hz, hs, hby⟩ := hzz
  have hr := run_make (P := Tryz.prog) w 24 37 i zeroNode Tryz.underlying24 hi hz .i64 .i64 n n (by omega) (Int.le_refl _) (by rw [hby]; omega) (by omega)
  simp only [Int.toNat_natCast, hs] at hr
  exact hr

def nodeCell (vs : List VN) (KB KI : Nat → Nat) (j : Nat) : Value :=
  if j % 5 = 0 then .int .i64 (nodeAt vs (j / 5)).kind
  else if j % 5 = 1 then .int .i64 (nodeAt vs (j / 5)).n
  else if j % 5 = 2 then .string (nodeAt vs (j / 5)).s
  else if j % 5 = 3 then .slice (some ⟨KB (j / 5), 0, none⟩) (nodeAt vs (j / 5)).keys.length (nodeAt vs (j / 5)).keys.length
  else .slice (some ⟨KI (j / 5), 0, none⟩) (nodeAt vs (j / 5)).kids.length (nodeAt vs (j / 5)).kids.length

theorem nodeCell0 (vs : List VN) (KB KI : Nat → Nat) (i : Nat) : nodeCell vs KB KI (i * 5) = .int .i64 (nodeAt vs i).kind := by
  unfold nodeCell
  rw [if_pos (by omega), show i * 5 / 5 = i by omega]
theorem nodeCell1 (vs : List VN) (KB KI : Nat → Nat) (i : Nat) : nodeCell vs KB KI (i * 5 + 1) = .int .i64 (nodeAt vs i).n := by
  unfold nodeCell
  rw [if_neg (by omega), if_pos (by omega), show (i * 5 + 1) / 5 = i by omega]
theorem nodeCell2 (vs : List VN) (KB KI : Nat → Nat) (i : Nat) : nodeCell vs KB KI (i * 5 + 2) = .string (nodeAt vs i).s := by
  unfold nodeCell
  rw [if_neg (by omega), if_neg (by omega), if_pos (by omega), show (i * 5 + 2) / 5 = i by omega]
theorem nodeCell3 (vs : List VN) (KB KI : Nat → Nat) (i : Nat) : nodeCell vs KB KI (i * 5 + 3) = .slice (some ⟨KB i, 0, none⟩) (nodeAt vs i).keys.length (nodeAt vs i).keys.length := by
  unfold nodeCell
  rw [if_neg (by omega), if_neg (by omega), if_neg (by omega), if_pos (by omega), show (i * 5 + 3) / 5 = i by omega]
theorem nodeCell4 (vs : List VN) (KB KI : Nat → Nat) (i : Nat) : nodeCell vs KB KI (i * 5 + 4) = .slice (some ⟨KI i, 0, none⟩) (nodeAt vs i).kids.length (nodeAt vs i).kids.length := by
  unfold nodeCell
  rw [if_neg (by omega), if_neg (by omega), if_neg (by omega), if_neg (by omega), show (i * 5 + 4) / 5 = i by omega]

def fillNode (vs : List VN) (KB KI : Nat → Nat) (z : Nat → Value) (k j : Nat) : Value := if j < k * 5 then nodeCell vs KB KI j else z j

theorem nodeCell_upd {vs : List VN} {KB KI : Nat → Nat} {k bk bi j : Nat} (h : j < k * 5) : nodeCell vs (fun i => if i = k then bk else KB i) (fun i => if i = k then bi else KI i) j = nodeCell vs KB KI j := by
  unfold nodeCell
  simp only [if_neg (show ¬ j / 5 = k by omega)]

theorem fillNode_step {w : World} {b t m k bk bi : Nat} {vs : List VN} {KB KI : Nat → Nat} {z : Nat → Value} (h : w.rowIs b t m (fillNode vs KB KI z k)) :
    (((((w.setCell ⟨b, k * 5, none⟩ (.int .i64 (nodeAt vs k).kind)).setCell ⟨b, k * 5 + 1, none⟩ (.int .i64 (nodeAt vs k).n)).setCell ⟨b, k * 5 + 2, none⟩ (.string (nodeAt vs k).s)).setCell ⟨b, k * 5 + 3, none⟩
      (.slice (some ⟨bk, 0, none⟩) (nodeAt vs k).keys.length (nodeAt vs k).keys.length)).setCell ⟨b, k * 5 + 4, none⟩ (.slice (some ⟨bi, 0, none⟩) (nodeAt vs k).kids.length (nodeAt vs k).kids.length)).rowIs b t m
      (fillNode vs (fun i => if i = k then bk else KB i) (fun i => if i = k then bi else KI i) z (k + 1)) := by
  refine (((((h.set (k * 5) _).set (k * 5 + 1) _).set (k * 5 + 2) _).set (k * 5 + 3) _).set (k * 5 + 4) _).congr fun j _ => ?_
  by_cases e4 : j = k * 5 + 4
  · subst e4
    rw [if_pos rfl, fillNode, if_pos (by omega), nodeCell4, if_pos rfl]
  rw [if_neg e4]
  by_cases e3 : j = k * 5 + 3
  · subst e3
    rw [if_pos rfl, fillNode, if_pos (by omega), nodeCell3, if_pos rfl]
  rw [if_neg e3]
  by_cases e2 : j = k * 5 + 2
  · subst e2
    rw [if_pos rfl, fillNode, if_pos (by omega), nodeCell2]
  rw [if_neg e2]
  by_cases e1 : j = k * 5 + 1
  · subst e1
    rw [if_pos rfl, fillNode, if_pos (by omega), nodeCell1]
  rw [if_neg e1]
  by_cases e0 : j = k * 5
  · subst e0
    rw [if_pos rfl, fillNode, if_pos (by omega), nodeCell0]
  rw [if_neg e0]
  unfold fillNode
  by_cases hj : j < k * 5
  · rw [if_pos hj, if_pos (by omega), nodeCell_upd hj]
  · rw [if_neg hj, if_neg (by omega)]

/-- Nodes that lie in new memory from block b on: their row, and the rows of their keys and kids, all apart. 'k': so many are there. -/
structure OwnTo (w : World) (b : Nat) (vs : List VN) (KB KI : Nat → Nat) (k : Nat) : Prop where
  lo : ∀ i, i < k → b < KB i ∧ KB i < KI i
  rk : ∀ i, i < k → w.rowIs (KB i) 9 (nodeAt vs i).keys.length (fun j => .string (keyAt (nodeAt vs i).keys j))
  ri : ∀ i, i < k → w.rowIs (KI i) 2 (nodeAt vs i).kids.length (fun j => .int .i64 (intAt (nodeAt vs i).kids j))
  mono : ∀ i j, i < j → j < k → KI i < KB j

structure OwnAt (w : World) (b : Nat) (vs : List VN) (KB KI : Nat → Nat) : Prop where
  row : w.rowIs b 37 (vs.length * 5) (nodeCell vs KB KI)
  to : OwnTo w b vs KB KI vs.length

theorem OwnTo.below {w w' : World} {b k : Nat} {vs : List VN} {KB KI : Nat → Nat} (h : OwnTo w b vs KB KI k) (hb : Below w.heap.size w w') : OwnTo w' b vs KB KI k :=
  ⟨h.lo, fun i hi => rowIs_below (h.rk i hi) hb (h.rk i hi).lt, fun i hi => rowIs_below (h.ri i hi) hb (h.ri i hi).lt, h.mono⟩

theorem OwnAt.below {w w' : World} {b : Nat} {vs : List VN} {KB KI : Nat → Nat} (h : OwnAt w b vs KB KI) (hb : Below w.heap.size w w') : OwnAt w' b vs KB KI :=
  ⟨rowIs_below h.row hb h.row.lt, h.to.below hb⟩

theorem OwnTo.set {w : World} {b k o : Nat} {v : Value} {vs : List VN} {KB KI : Nat → Nat} (h : OwnTo w b vs KB KI k) : OwnTo (w.setCell ⟨b, o, none⟩ v) b vs KB KI k :=
  ⟨h.lo, fun i hi => (h.rk i hi).setOther (by have := h.lo i hi; simp; omega) _, fun i hi => (h.ri i hi).setOther (by have := h.lo i hi; simp; omega) _, h.mono⟩

theorem OwnTo.step {w : World} {b k bk bi : Nat} {vs : List VN} {KB KI : Nat → Nat} (h : OwnTo w b vs KB KI k) (h1 : b < bk) (h2 : bk < bi) (h3 : ∀ i, i < k → KI i < bk)
    (r1 : w.rowIs bk 9 (nodeAt vs k).keys.length (fun j => .string (keyAt (nodeAt vs k).keys j))) (r2 : w.rowIs bi 2 (nodeAt vs k).kids.length (fun j => .int .i64 (intAt (nodeAt vs k).kids j))) :
    OwnTo w b vs (fun i => if i = k then bk else KB i) (fun i => if i = k then bi else KI i) (k + 1) := by
  refine ⟨fun i hi => ?_, fun i hi => ?_, fun i hi => ?_, fun i j hij hj => ?_⟩
  · by_cases e : i = k
    · simp only [if_pos e]; exact ⟨h1, h2⟩
    · simp only [if_neg e]; exact h.lo i (by omega)
  · by_cases e : i = k
    · subst e; simp only [if_true]; exact r1
    · simp only [if_neg e]; exact h.rk i (by omega)
  · by_cases e : i = k
    · subst e; simp only [if_true]; exact r2
    · simp only [if_neg e]; exact h.ri i (by omega)
  · simp only [if_neg (show ¬ i = k by omega)]
    by_cases e : j = k
    · simp only [if_pos e]; exact h3 i (by omega)
    · simp only [if_neg e]; exact h.mono i j hij (by omega)

theorem rowStrs {w : World} {b : Nat} {l : List ByteArray} (h : w.rowIs b 9 l.length (fun j => .string (keyAt l j))) (h1 : l.length ≤ 8796093022208) (h2 : ∀ i, i < l.length → (keyAt l i).size ≤ 140737488355328) (B : Nat) (hB : b < B) :
    StrsAt B w (.slice (some ⟨b, 0, none⟩) l.length l.length) l :=
  ⟨h1, h2, _, _, rfl, fun _ => ⟨b, 0, rfl, hB, fun i hi => by rw [Nat.zero_add]; exact h.cell hi⟩⟩

theorem rowInts {w : World} {b : Nat} {l : List Int} (h : w.rowIs b 2 l.length (fun j => .int .i64 (intAt l j))) (h1 : l.length ≤ 17592186044416) (h2 : ∀ i, i < l.length → -9223372036854775808 ≤ intAt l i ∧ intAt l i ≤ 9223372036854775807) (B : Nat) (hB : b < B) :
    IntsAt B w (.slice (some ⟨b, 0, none⟩) l.length l.length) l :=
  ⟨h1, h2, _, _, rfl, fun _ => ⟨b, 0, rfl, hB, fun i hi => by rw [Nat.zero_add]; exact h.cell hi⟩⟩

theorem OwnAt.nodes {w : World} {b : Nat} {vs : List VN} {KB KI : Nat → Nat} (h : OwnAt w b vs KB KI) (hn : vs.length ≤ 1759218604416) (hf : ∀ i, i < vs.length → Fits (nodeAt vs i)) :
    NodesAt w.heap.size w (.slice (some ⟨b, 0, none⟩) vs.length vs.length) vs := by
  refine ⟨hn, _, _, rfl, fun _ => ⟨b, 0, rfl, h.row.lt, fun i hi => ⟨.slice (some ⟨KB i, 0, none⟩) (nodeAt vs i).keys.length (nodeAt vs i).keys.length, .slice (some ⟨KI i, 0, none⟩) (nodeAt vs i).kids.length (nodeAt vs i).kids.length, ?_⟩⟩⟩
  have f := hf i hi
  rw [Nat.zero_add]
  refine ⟨?_, ?_, ?_, ?_, ?_, ⟨rowStrs (h.to.rk i hi) f.keysN f.keysS _ (h.to.rk i hi).lt, rowInts (h.to.ri i hi) f.kidsN f.kidsB _ (h.to.ri i hi).lt, f.size, f.klo, f.khi, f.nlo, f.nhi⟩⟩
  · rw [h.row.cell (by omega), nodeCell0]
  · rw [h.row.cell (by omega), nodeCell1]
  · rw [h.row.cell (by omega), nodeCell2]
  · rw [h.row.cell (by omega), nodeCell3]
  · rw [h.row.cell (by omega), nodeCell4]

set_option maxHeartbeats 1600000 in
theorem toVNodeS_any (B : Nat) (v : Value) (vs : List VN) (w : World) (h : NodesAt B w v vs) (hB : B ≤ w.heap.size) :
    Calls Tryz.prog 6 #[v] w fun e w' => ∃ KB KI : Nat → Nat, e = .returned (.slice (some ⟨w.heap.size, 0, none⟩) vs.length vs.length) ∧
      OwnAt w' w.heap.size vs KB KI ∧ Below w.heap.size w w' := by
  obtain ⟨hlen, a, cap, rfl, hcell⟩ := h
  have hmk := run_make_nodes vs.length (by omega)
  go_enter Tryz.func6, Tryz.ntmps6
  go_wp2_with fail
  clear hmk
  obtain ⟨z, hz⟩ : ∃ z : Nat → Value, ∀ i, i < (madeNodes vs.length).size → (madeNodes vs.length)[i]? = some (z i) := ⟨fun i => ((madeNodes vs.length)[i]?).getD undef, fun i hi => by simp [hi]⟩
  have hr0 := World.rowIs_alloc w _ 37 z hz
  rw [size_madeNodes] at hr0
  have hr1 : (w.alloc (.cells (madeNodes vs.length) 37)).rowIs w.heap.size 37 (vs.length * 5) (fillNode vs (fun _ => 0) (fun _ => 0) z 0) := hr0.congr fun i _ => by simp [fillNode]
  have hb0 : Below w.heap.size w (w.alloc (.cells (madeNodes vs.length) 37)) := (Below.refl _ _).alloc (Nat.le_refl _) _
  clear hz hr0
  go_loopw [4] (fun i wr => ∃ (k : Nat) (KB KI : Nat → Nat), k ≤ vs.length ∧ i = .int .i64 k ∧ wr.rowIs w.heap.size 37 (vs.length * 5) (fillNode vs KB KI z k) ∧ OwnTo wr w.heap.size vs KB KI k ∧ Below w.heap.size w wr) (fun i _ => vs.length - (intOf i).toNat)
  case atStart => exact ⟨0, _, _, Nat.zero_le _, rfl, hr1, ⟨fun i hi => by omega, fun i hi => by omega, fun i hi => by omega, fun i j hij hj => by omega⟩, hb0⟩
  case round =>
    obtain ⟨k, KB, KI, hk, rfl, hrow, hown, hbel⟩ := hrel
    clear hr1 hb0
    by_cases hlt : k < vs.length
    · obtain ⟨b, o, rfl, hbB, hc⟩ := hcell (by omega)
      obtain ⟨ka, ki, hn⟩ := hc k hlt
      have hn' := hn.below (hbel.mono hB) hbB
      have c0 := hn'.c0
      have c1 := hn'.c1
      have c2 := hn'.c2
      have c3 := hn'.c3
      have c4 := hn'.c4
      have hin := hn'.inn
      have hsize := hbel.size
      have hlt0 := hrow.lt
      clear hc hcell hn hn'
      go_wp2_with fail
      refine (toVNode_any B (nodeAt vs k) ka ki _ hin (by omega)).mono ?_
      rintro e w1 ⟨bk, bi, rfl, hbk, hbi, rk, ri, hb1⟩
      have hrow1 := rowIs_below hrow hb1 hlt0
      have hcs0 := hrow1.cell (i := k * 5) (by omega)
      have hcs1 := hrow1.cell (i := k * 5 + 1) (by omega)
      have hcs2 := hrow1.cell (i := k * 5 + 2) (by omega)
      have hcs3 := hrow1.cell (i := k * 5 + 3) (by omega)
      have hcs4 := hrow1.cell (i := k * 5 + 4) (by omega)
      have hfs := hrow1.frozen
      have hnew := fillNode_step (bk := bk) (bi := bi) hrow1
      have hst := (hown.below hb1).step (bk := bk) (bi := bi) (by omega) hbi (fun i hi => by have := (hown.ri i hi).lt; omega) rk ri
      have hbel1 : Below w.heap.size w w1 := hbel.trans (hb1.mono hsize)
      clear rk ri hown hrow
      go_wp2_with fail
      go_roundw
      case rel =>
        refine ⟨k + 1, _, _, by omega, by go_num, hnew, hst.set.set.set.set.set, ?_⟩
        refine Below.setCell (Below.setCell (Below.setCell (Below.setCell (Below.setCell hbel1 ?_ _) ?_ _) ?_ _) ?_ _) ?_ _ <;> simp
      case measure => simp [intOf]; omega
    · obtain rfl : k = vs.length := by omega
      go_wp2_with fail
      go_ret
      exact ⟨KB, KI, rfl, ⟨hrow.congr fun i hi => by simp [fillNode, hi], hown⟩, hbel⟩
end Go.Proofs.YtgmnihofkpjboaaGreatDoor
