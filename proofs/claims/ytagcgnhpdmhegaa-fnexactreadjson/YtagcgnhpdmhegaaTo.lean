/-
  The functions that hold two lists, two nodes, two values against each other: of what holds the same they say true.
-/
import Derived.Test.YtagcgnhpdmhegaaStb
import Derived.Test.YtagcgnhpdmhegaaProg
import Derived.Deep.QuietTactic
import Derived.BigQuiet
import Derived.WalkSmall
import Derived.Deep.RegionWith
import Derived.Deep.OwnRows
import Derived.KernelRfl
namespace Go.Proofs.Ytagcgnhpdmhegaa
open Go.RowKit
set_option linter.unusedSimpArgs false
set_option linter.unusedVariables false

set_option maxHeartbeats 800000 in
theorem eqInt64S_any (B : Nat) (v1 v2 : Value) (l : List Int) (w : World) (h1 : IntsAt B w v1 l) (h2 : IntsAt B w v2 l) (hB : B ≤ w.heap.size) :
    Calls Try.prog 37 #[v1, v2] w fun e w' => e = .returned (.bool true) ∧ Below w.heap.size w w' := by
  obtain ⟨hlen, _, a1, cap1, rfl, hcell1⟩ := h1
  obtain ⟨_, _, a2, cap2, rfl, hcell2⟩ := h2
  have hne : ((l.length : Int) != (l.length : Int)) = false := by simp
  go_enter Try.func37, Try.ntmps37
  go_wp2_with fail
  go_loopw [5] (fun i wr => ∃ k : Nat, k ≤ l.length ∧ i = .int .i64 k ∧ Below w.heap.size w wr) (fun i _ => l.length - (intOf i).toNat)
  case atStart => exact ⟨0, Nat.zero_le _, rfl, Below.refl _ _⟩
  case round =>
    obtain ⟨k, hk, rfl, hbel⟩ := hrel
    by_cases hlt : k < l.length
    · obtain ⟨b1, o1, rfl, hb1, hc1⟩ := hcell1 (by omega)
      obtain ⟨b2, o2, rfl, hb2, hc2⟩ := hcell2 (by omega)
      have d1 := (below_cell (o := o1 + k) hbel (show b1 < w.heap.size by omega)).trans (hc1 k hlt)
      have d2 := (below_cell (o := o2 + k) hbel (show b2 < w.heap.size by omega)).trans (hc2 k hlt)
      clear hc1 hc2 hcell1 hcell2
      go_wp2_with fail
      go_quiet (fail)
      go_wp2_with fail
      go_roundw
      case rel => exact ⟨k + 1, by omega, by go_num, below_drewN hbel nq⟩
      case measure => simp [intOf]; omega
    · go_wp2_with fail
      go_ret
      exact ⟨rfl, hbel⟩

set_option maxHeartbeats 800000 in
theorem eqStringS_any (B : Nat) (v1 v2 : Value) (l : List ByteArray) (w : World) (h1 : StrsAt B w v1 l) (h2 : StrsAt B w v2 l) (hB : B ≤ w.heap.size) :
    Calls Try.prog 36 #[v1, v2] w fun e w' => e = .returned (.bool true) ∧ Below w.heap.size w w' := by
  obtain ⟨hlen, _, a1, cap1, rfl, hcell1⟩ := h1
  obtain ⟨_, _, a2, cap2, rfl, hcell2⟩ := h2
  have hne : ((l.length : Int) != (l.length : Int)) = false := by simp
  go_enter Try.func36, Try.ntmps36
  go_wp2_with fail
  go_loopw [5] (fun i wr => ∃ k : Nat, k ≤ l.length ∧ i = .int .i64 k ∧ Below w.heap.size w wr) (fun i _ => l.length - (intOf i).toNat)
  case atStart => exact ⟨0, Nat.zero_le _, rfl, Below.refl _ _⟩
  case round =>
    obtain ⟨k, hk, rfl, hbel⟩ := hrel
    by_cases hlt : k < l.length
    · obtain ⟨b1, o1, rfl, hb1, hc1⟩ := hcell1 (by omega)
      obtain ⟨b2, o2, rfl, hb2, hc2⟩ := hcell2 (by omega)
      have d1 := (below_cell (o := o1 + k) hbel (show b1 < w.heap.size by omega)).trans (hc1 k hlt)
      have d2 := (below_cell (o := o2 + k) hbel (show b2 < w.heap.size by omega)).trans (hc2 k hlt)
      clear hc1 hc2 hcell1 hcell2
      go_wp2_with fail
      go_quiet (fail)
      go_wp2_with fail
      go_roundw
      case rel => exact ⟨k + 1, by omega, by go_num, below_drewN hbel nq⟩
      case measure => simp [intOf]; omega
    · go_wp2_with fail
      go_ret
      exact ⟨rfl, hbel⟩

set_option maxHeartbeats 1600000 in
theorem eqVNode_any (B : Nat) (x : VN) (ka ki ka' ki' : Value) (w : World) (h : NodeIn B w x ka ki) (h' : NodeIn B w x ka' ki') (hB : B ≤ w.heap.size) :
    Calls Try.prog 13 #[.agg #[.int .i64 x.kind, .int .i64 x.n, .string x.s, ka, ki], .agg #[.int .i64 x.kind, .int .i64 x.n, .string x.s, ka', ki']] w fun e w' => e = .returned (.bool true) ∧ Below w.heap.size w w' := by
  obtain ⟨_, _, a1, c1, e1, _⟩ := h.keys
  obtain ⟨_, _, a2, c2, e2, _⟩ := h.kids
  obtain ⟨_, _, a3, c3, e3, _⟩ := h'.keys
  obtain ⟨_, _, a4, c4, e4, _⟩ := h'.kids
  have H : Hid (NodeIn B w x ka ki) := h
  have H' : Hid (NodeIn B w x ka' ki') := h'
  have f1 : (x.kind != x.kind) = false := by simp
  have f2 : (x.n != x.n) = false := by simp
  have f3 : (x.s.toList == x.s.toList) = true := by simp
  subst e1 e2 e3 e4
  clear h h'
  have hb0 : ∀ (o o' : Obj), Below w.heap.size w ((w.alloc o).alloc o') := fun o o' => ((Below.refl _ _).alloc (Nat.le_refl _) _).alloc (by simp) _
  go_enter Try.func13, Try.ntmps13
  go_wp2_with fail
  refine (eqStringS_any B _ _ x.keys _ (H.out.keys.below ((hb0 _ _).mono hB)) (H'.out.keys.below ((hb0 _ _).mono hB)) (by simp; omega)).mono ?_
  rintro e w1 ⟨rfl, hb1⟩
  have hc1 : ∀ b o, b < w.heap.size + 1 + 1 → w1.cell? ⟨b, o, none⟩ = _ := fun b o h => hb1.cell (p := ⟨b, o, none⟩) (by simpa using h)
  have hz1 := hb1.size
  simp only [World.size_alloc] at hz1
  have hB1 : Below w.heap.size w w1 := (hb0 _ _).trans (hb1.mono (by simp; omega))
  go_wp2_with fail
  refine (eqInt64S_any B _ _ x.kids _ (H.out.kids.below (hB1.mono hB)) (H'.out.kids.below (hB1.mono hB)) (by omega)).mono ?_
  rintro e w2 ⟨rfl, hb2⟩
  go_wp2_with fail
  go_ret
  exact ⟨rfl, hB1.trans (hb2.mono (by omega))⟩

set_option maxHeartbeats 1600000 in
theorem eqVNodeS_any (B : Nat) (v1 v2 : Value) (vs : List VN) (w : World) (h1 : NodesAt B w v1 vs) (h2 : NodesAt B w v2 vs) (hB : B ≤ w.heap.size) :
    Calls Try.prog 6 #[v1, v2] w fun e w' => e = .returned (.bool true) ∧ Below w.heap.size w w' := by
  obtain ⟨hlen, a1, cap1, rfl, hcell1⟩ := h1
  obtain ⟨_, a2, cap2, rfl, hcell2⟩ := h2
  have hne : ((vs.length : Int) != (vs.length : Int)) = false := by simp
  go_enter Try.func6, Try.ntmps6
  go_wp2_with fail
  go_loopw [5] (fun i wr => ∃ k : Nat, k ≤ vs.length ∧ i = .int .i64 k ∧ Below w.heap.size w wr) (fun i _ => vs.length - (intOf i).toNat)
  case atStart => exact ⟨0, Nat.zero_le _, rfl, Below.refl _ _⟩
  case round =>
    obtain ⟨k, hk, rfl, hbel⟩ := hrel
    by_cases hlt : k < vs.length
    · obtain ⟨b1, o1, rfl, hb1, hc1⟩ := hcell1 (by omega)
      obtain ⟨b2, o2, rfl, hb2, hc2⟩ := hcell2 (by omega)
      obtain ⟨ka, ki, hn⟩ := hc1 k hlt
      obtain ⟨ka', ki', hn'⟩ := hc2 k hlt
      have g := hn.below (hbel.mono hB) hb1
      have g' := hn'.below (hbel.mono hB) hb2
      have c0 := g.c0
      have c1 := g.c1
      have c2 := g.c2
      have c3 := g.c3
      have c4 := g.c4
      have d0 := g'.c0
      have d1 := g'.c1
      have d2 := g'.c2
      have d3 := g'.c3
      have d4 := g'.c4
      have hin := g.inn
      have hin' := g'.inn
      have hsize := hbel.size
      clear hc1 hc2 hcell1 hcell2 hn hn' g g'
      go_wp2_with fail
      go_region_with (go_at_call 13; refine (eqVNode_any B (nodeAt vs k) ka ki ka' ki' _ ?_ ?_ ?_).mono ?_; exact hin.below (bsame rfl rfl rfl rfl); exact hin'.below (bsame rfl rfl rfl rfl); exact (by simp; omega); rintro e w1 ⟨rfl, hq⟩)
      all_goals
        have hb2 : Below w.heap.size w w1 := hbel.drew.trans (hq.mono (by simpa using hsize))
        go_wp2_with fail
        go_roundw
        case rel => exact ⟨k + 1, by omega, by go_num, hb2⟩
        case measure => simp [intOf]; omega
    · go_wp2_with fail
      go_ret
      exact ⟨rfl, hbel⟩
end Go.Proofs.Ytagcgnhpdmhegaa

/-
  The functions that copy numbers, texts and nodes into new memory: what they hand back lies in new blocks and holds what came in.
-/
namespace Go.Proofs.Ytagcgnhpdmhegaa
open Go.RowKit
set_option linter.unusedSimpArgs false
set_option linter.unusedVariables false

theorem infoInt : (Try.prog.info? 2).map (fun i => (i.zero, i.size, i.bytes)) = some (some (.int .i64 0), 1, 8) := by kernel_rfl
theorem infoStr : (Try.prog.info? 9).map (fun i => (i.zero, i.size, i.bytes)) = some (some (.string ByteArray.empty), 1, 16) := by kernel_rfl

def fillInt (l : List Int) (k : Nat) (j : Nat) : Value := if j < k then .int .i64 (intAt l j) else .int .i64 0
def fillStr (l : List ByteArray) (k : Nat) (j : Nat) : Value := if j < k then .string (keyAt l j) else .string ByteArray.empty

theorem fillInt_step {w : World} {b t n k : Nat} {l : List Int} (h : w.rowIs b t n (fillInt l k)) : (w.setCell ⟨b, k, none⟩ (.int .i64 (intAt l k))).rowIs b t n (fillInt l (k + 1)) := by
  refine (h.set k _).congr fun i _ => ?_
  unfold fillInt
  by_cases e : i = k
  · subst e; rw [if_pos rfl, if_pos (by omega)]
  · rw [if_neg e]; by_cases g : i < k
    · rw [if_pos g, if_pos (by omega)]
    · rw [if_neg g, if_neg (by omega)]

theorem fillStr_step {w : World} {b t n k : Nat} {l : List ByteArray} (h : w.rowIs b t n (fillStr l k)) : (w.setCell ⟨b, k, none⟩ (.string (keyAt l k))).rowIs b t n (fillStr l (k + 1)) := by
  refine (h.set k _).congr fun i _ => ?_
  unfold fillStr
  by_cases e : i = k
  · subst e; rw [if_pos rfl, if_pos (by omega)]
  · rw [if_neg e]; by_cases g : i < k
    · rw [if_pos g, if_pos (by omega)]
    · rw [if_neg g, if_neg (by omega)]

theorem bcell {W w1 : World} (hb : Below W.heap.size W w1) : (∀ b o, b < W.heap.size → w1.cell? ⟨b, o, none⟩ = W.cell? ⟨b, o, none⟩) ∧ (∀ b o, b < W.heap.size → w1.frozen? ⟨b, o, none⟩ = W.frozen? ⟨b, o, none⟩) :=
  ⟨fun b o h => hb.cell (p := ⟨b, o, none⟩) h, fun b o h => hb.frozen (p := ⟨b, o, none⟩) h⟩

theorem rowIs_below {B b t n : Nat} {w w' : World} {f : Nat → Value} (h : w.rowIs b t n f) (hb : Below B w w') (hB : b < B) : w'.rowIs b t n f := h.of_block (hb.block b hB)

/-! ### All nodes -/
def zeroNode : Value := .agg #[.int .i64 0, .int .i64 0, .string ByteArray.empty, .slice none 0 0, .slice none 0 0]
theorem infoNode : (Try.prog.info? 42).map (fun i => (i.zero, i.size, i.bytes)) = some (some zeroNode, 5, 80) := by kernel_rfl

def madeNodes (n : Nat) : Array Value := madeCells zeroNode.cells (n * 5)
theorem size_madeNodes (n : Nat) : (madeNodes n).size = n * 5 := size_madeCells _ _

theorem run_make_nodes (n : Nat) (hb : 80 * n ≤ 281474976710656) (w : World) :
    (Instr.makeSlice 22 (.int .i64 (n : Int)) (.int .i64 (n : Int))).run Try.prog w = .ok (.slice (some ⟨w.heap.size, 0, none⟩) n n) (w.alloc (.cells (madeNodes n) 42)) := by
  obtain ⟨i, hi, hzz⟩ := Option.map_eq_some_iff.1 infoNode
  simp only [Prod.mk.injEq] at hzz
  obtain ⟨hz, hs, hby⟩ := hzz
  have hr := run_make (P := Try.prog) w 22 42 i zeroNode Try.underlying22 hi hz .i64 .i64 n n (by omega) (Int.le_refl _) (by rw [hby]; omega) (by omega)
  simp only [Int.toNat_natCast, hs] at hr
  exact hr

def nodeCell (vs : List VN) (KB KI : Nat → Nat) (j : Nat) : Value :=
  if j % 5 = 0 then .int .i64 (nodeAt vs (j / 5)).kind
  else if j % 5 = 1 then .int .i64 (nodeAt vs (j / 5)).n
  else if j % 5 = 2 then .string (nodeAt vs (j / 5)).s
  else if j % 5 = 3 then .slice (some ⟨KB (j / 5), 0, none⟩) (nodeAt vs (j / 5)).keys.length (nodeAt vs (j / 5)).keys.length
  else .slice (some ⟨KI (j / 5), 0, none⟩) (nodeAt vs (j / 5)).kids.length (nodeAt vs (j / 5)).kids.length

theorem nodeCell0 (vs : List VN) (KB KI : Nat → Nat) (i : Nat) : nodeCell vs KB KI (i * 5) = .int .i64 (nodeAt vs i).kind := by
  unfold nodeCell
  rw [if_pos (by omega), show i * 5 / 5 = i by omega]
theorem nodeCell1 (vs : List VN) (KB KI : Nat → Nat) (i : Nat) : nodeCell vs KB KI (i * 5 + 1) = .int .i64 (nodeAt vs i).n := by
  unfold nodeCell
  rw [if_neg (by omega), if_pos (by omega), show (i * 5 + 1) / 5 = i by omega]
theorem nodeCell2 (vs : List VN) (KB KI : Nat → Nat) (i : Nat) : nodeCell vs KB KI (i * 5 + 2) = .string (nodeAt vs i).s := by
  unfold nodeCell
  rw [if_neg (by omega), if_neg (by omega), if_pos (by omega), show (i * 5 + 2) / 5 = i by omega]
theorem nodeCell3 (vs : List VN) (KB KI : Nat → Nat) (i : Nat) : nodeCell vs KB KI (i * 5 + 3) = .slice (some ⟨KB i, 0, none⟩) (nodeAt vs i).keys.length (nodeAt vs i).keys.length := by
  unfold nodeCell
  rw [if_neg (by omega), if_neg (by omega), if_neg (by omega), if_pos (by omega), show (i * 5 + 3) / 5 = i by omega]
theorem nodeCell4 (vs : List VN) (KB KI : Nat → Nat) (i : Nat) : nodeCell vs KB KI (i * 5 + 4) = .slice (some ⟨KI i, 0, none⟩) (nodeAt vs i).kids.length (nodeAt vs i).kids.length := by
  unfold nodeCell
  rw [if_neg (by omega), if_neg (by omega), if_neg (by omega), if_neg (by omega), show (i * 5 + 4) / 5 = i by omega]

def fillNode (vs : List VN) (KB KI : Nat → Nat) (z : Nat → Value) (k j : Nat) : Value := if j < k * 5 then nodeCell vs KB KI j else z j

theorem nodeCell_upd {vs : List VN} {KB KI : Nat → Nat} {k bk bi j : Nat} (h : j < k * 5) : nodeCell vs (fun i => if i = k then bk else KB i) (fun i => if i = k then bi else KI i) j = nodeCell vs KB KI j := by
  unfold nodeCell
  simp only [if_neg (show ¬ j / 5 = k by omega)]

theorem fillNode_step {w : World} {b t m k bk bi : Nat} {vs : List VN} {KB KI : Nat → Nat} {z : Nat → Value} (h : w.rowIs b t m (fillNode vs KB KI z k)) :
    (((((w.setCell ⟨b, k * 5, none⟩ (.int .i64 (nodeAt vs k).kind)).setCell ⟨b, k * 5 + 1, none⟩ (.int .i64 (nodeAt vs k).n)).setCell ⟨b, k * 5 + 2, none⟩ (.string (nodeAt vs k).s)).setCell ⟨b, k * 5 + 3, none⟩
      (.slice (some ⟨bk, 0, none⟩) (nodeAt vs k).keys.length (nodeAt vs k).keys.length)).setCell ⟨b, k * 5 + 4, none⟩ (.slice (some ⟨bi, 0, none⟩) (nodeAt vs k).kids.length (nodeAt vs k).kids.length)).rowIs b t m
      (fillNode vs (fun i => if i = k then bk else KB i) (fun i => if i = k then bi else KI i) z (k + 1)) := by
  refine (((((h.set (k * 5) _).set (k * 5 + 1) _).set (k * 5 + 2) _).set (k * 5 + 3) _).set (k * 5 + 4) _).congr fun j _ => ?_
  by_cases e4 : j = k * 5 + 4
  · subst e4
    rw [if_pos rfl, fillNode, if_pos (by omega), nodeCell4, if_pos rfl]
  rw [if_neg e4]
  by_cases e3 : j = k * 5 + 3
  · subst e3
    rw [if_pos rfl, fillNode, if_pos (by omega), nodeCell3, if_pos rfl]
  rw [if_neg e3]
  by_cases e2 : j = k * 5 + 2
  · subst e2
    rw [if_pos rfl, fillNode, if_pos (by omega), nodeCell2]
  rw [if_neg e2]
  by_cases e1 : j = k * 5 + 1
  · subst e1
    rw [if_pos rfl, fillNode, if_pos (by omega), nodeCell1]
  rw [if_neg e1]
  by_cases e0 : j = k * 5
  · subst e0
    rw [if_pos rfl, fillNode, if_pos (by omega), nodeCell0]
  rw [if_neg e0]
  unfold fillNode
  by_cases hj : j < k * 5
  · rw [if_pos hj, if_pos (by omega), nodeCell_upd hj]
  · rw [if_neg hj, if_neg (by omega)]

/-- Nodes that lie in new memory from block b on: their row, and the rows of their keys and kids, all apart. 'k': so many are there. -/
structure OwnTo (w : World) (b : Nat) (vs : List VN) (KB KI : Nat → Nat) (k : Nat) : Prop where
  lo : ∀ i, i < k → b < KB i ∧ KB i < KI i
  rk : ∀ i, i < k → w.rowIs (KB i) 9 (nodeAt vs i).keys.length (fun j => .string (keyAt (nodeAt vs i).keys j))
  ri : ∀ i, i < k → w.rowIs (KI i) 2 (nodeAt vs i).kids.length (fun j => .int .i64 (intAt (nodeAt vs i).kids j))
  mono : ∀ i j, i < j → j < k → KI i < KB j

structure OwnAt (w : World) (b : Nat) (vs : List VN) (KB KI : Nat → Nat) : Prop where
  row : w.rowIs b 42 (vs.length * 5) (nodeCell vs KB KI)
  to : OwnTo w b vs KB KI vs.length

theorem OwnTo.below {w w' : World} {b k : Nat} {vs : List VN} {KB KI : Nat → Nat} (h : OwnTo w b vs KB KI k) (hb : Below w.heap.size w w') : OwnTo w' b vs KB KI k :=
  ⟨h.lo, fun i hi => rowIs_below (h.rk i hi) hb (h.rk i hi).lt, fun i hi => rowIs_below (h.ri i hi) hb (h.ri i hi).lt, h.mono⟩

theorem OwnAt.below {w w' : World} {b : Nat} {vs : List VN} {KB KI : Nat → Nat} (h : OwnAt w b vs KB KI) (hb : Below w.heap.size w w') : OwnAt w' b vs KB KI :=
  ⟨rowIs_below h.row hb h.row.lt, h.to.below hb⟩

theorem OwnTo.set {w : World} {b k o : Nat} {v : Value} {vs : List VN} {KB KI : Nat → Nat} (h : OwnTo w b vs KB KI k) : OwnTo (w.setCell ⟨b, o, none⟩ v) b vs KB KI k :=
  ⟨h.lo, fun i hi => (h.rk i hi).setOther (by have := h.lo i hi; simp; omega) _, fun i hi => (h.ri i hi).setOther (by have := h.lo i hi; simp; omega) _, h.mono⟩

theorem OwnTo.step {w : World} {b k bk bi : Nat} {vs : List VN} {KB KI : Nat → Nat} (h : OwnTo w b vs KB KI k) (h1 : b < bk) (h2 : bk < bi) (h3 : ∀ i, i < k → KI i < bk)
    (r1 : w.rowIs bk 9 (nodeAt vs k).keys.length (fun j => .string (keyAt (nodeAt vs k).keys j))) (r2 : w.rowIs bi 2 (nodeAt vs k).kids.length (fun j => .int .i64 (intAt (nodeAt vs k).kids j))) :
    OwnTo w b vs (fun i => if i = k then bk else KB i) (fun i => if i = k then bi else KI i) (k + 1) := by
  refine ⟨fun i hi => ?_, fun i hi => ?_, fun i hi => ?_, fun i j hij hj => ?_⟩
  · by_cases e : i = k
    · simp only [if_pos e]; exact ⟨h1, h2⟩
    · simp only [if_neg e]; exact h.lo i (by omega)
  · by_cases e : i = k
    · subst e; simp only [if_true]; exact r1
    · simp only [if_neg e]; exact h.rk i (by omega)
  · by_cases e : i = k
    · subst e; simp only [if_true]; exact r2
    · simp only [if_neg e]; exact h.ri i (by omega)
  · simp only [if_neg (show ¬ i = k by omega)]
    by_cases e : j = k
    · simp only [if_pos e]; exact h3 i (by omega)
    · simp only [if_neg e]; exact h.mono i j hij (by omega)

theorem rowStrs {w : World} {b : Nat} {l : List ByteArray} (h : w.rowIs b 9 l.length (fun j => .string (keyAt l j))) (h1 : l.length ≤ 8796093022208) (h2 : ∀ i, i < l.length → (keyAt l i).size ≤ 140737488355328) (B : Nat) (hB : b < B) :
    StrsAt B w (.slice (some ⟨b, 0, none⟩) l.length l.length) l :=
  ⟨h1, h2, _, _, rfl, fun _ => ⟨b, 0, rfl, hB, fun i hi => by rw [Nat.zero_add]; exact h.cell hi⟩⟩

theorem rowInts {w : World} {b : Nat} {l : List Int} (h : w.rowIs b 2 l.length (fun j => .int .i64 (intAt l j))) (h1 : l.length ≤ 17592186044416) (h2 : ∀ i, i < l.length → -9223372036854775808 ≤ intAt l i ∧ intAt l i ≤ 9223372036854775807) (B : Nat) (hB : b < B) :
    IntsAt B w (.slice (some ⟨b, 0, none⟩) l.length l.length) l :=
  ⟨h1, h2, _, _, rfl, fun _ => ⟨b, 0, rfl, hB, fun i hi => by rw [Nat.zero_add]; exact h.cell hi⟩⟩

theorem OwnAt.nodes {w : World} {b : Nat} {vs : List VN} {KB KI : Nat → Nat} (h : OwnAt w b vs KB KI) (hn : vs.length ≤ 1759218604416) (hf : ∀ i, i < vs.length → Fits (nodeAt vs i)) :
    NodesAt w.heap.size w (.slice (some ⟨b, 0, none⟩) vs.length vs.length) vs := by
  refine ⟨hn, _, _, rfl, fun _ => ⟨b, 0, rfl, h.row.lt, fun i hi => ⟨.slice (some ⟨KB i, 0, none⟩) (nodeAt vs i).keys.length (nodeAt vs i).keys.length, .slice (some ⟨KI i, 0, none⟩) (nodeAt vs i).kids.length (nodeAt vs i).kids.length, ?_⟩⟩⟩
  have f := hf i hi
  rw [Nat.zero_add]
  refine ⟨?_, ?_, ?_, ?_, ?_, ⟨rowStrs (h.to.rk i hi) f.keysN f.keysS _ (h.to.rk i hi).lt, rowInts (h.to.ri i hi) f.kidsN f.kidsB _ (h.to.ri i hi).lt, f.size, f.klo, f.khi, f.nlo, f.nhi⟩⟩
  · rw [h.row.cell (by omega), nodeCell0]
  · rw [h.row.cell (by omega), nodeCell1]
  · rw [h.row.cell (by omega), nodeCell2]
  · rw [h.row.cell (by omega), nodeCell3]
  · rw [h.row.cell (by omega), nodeCell4]

end Go.Proofs.Ytagcgnhpdmhegaa
