/-
  A strings.Builder as the first field of a struct (the writers): WriteByte, WriteString, String, in terms of the bytes written.
-/
import Derived.Test.YtagcgnhpdmhegaaGreatDoorRowB
import Derived.Lib.AppendStr
import Derived.Lib.FrozenHead
import Derived.Lib.UnsafeStr
import Derived.Shelf.RegionOpenPlain
import Derived.RangeFuncOwn
import Derived.Shelf.Strings.Repeat
import Derived.Shelf.Small.Wraps
import Derived.Shelf.Strconv.Itoa4
import Derived.Test.YtagcgnhpdmhegaaGreatDoorProg
import Derived.Test.YtagcgnhpdmhegaaGreatDoorIQuo
import Derived.WalkKit
import Derived.Test.YtagcgnhpdmhegaaGreatDoorPhase
namespace Go.Proofs.YtagcgnhpdmhegaaGreatDoor
open Go.RowKit Go.Shelf
set_option linter.unusedSimpArgs false
set_option linter.unusedVariables false

/-- A type whose first field is a builder, with 'n' cells behind it. -/
structure FT (T : TypeId) (n : Nat) : Prop where
  lies : liesAt Tryz.prog Tryz.prog.depth T ((n + 2) / Tryz.prog.cellsOf T) 0 41 1 = true
  ne : T ≠ 5
/-- In block 'b' lies such a struct, its builder (memory from block 'B' on) has written 'l'; 'rest': its other cells. -/
def FB (T : TypeId) (B b : Nat) (rest : List Value) (l : List UInt8) (w : World) : Prop :=
  B ≤ b ∧ ∃ p v, (p = .pointer none ∨ p = .pointer (some ⟨b, 0, none⟩)) ∧ w.heap[b]? = some (.cells (p :: v :: rest).toArray T (0, 0)) ∧ RowB B w v l ∧ v.ownBlock ≠ some b

theorem cellAt {w : World} {b i : Nat} {cs : Array Value} {T : TypeId} {z : Nat × Nat} {x : Value} (h : w.heap[b]? = some (.cells cs T z)) (hx : cs[i]? = some x) : w.cell? ⟨b, i, none⟩ = some x := by
  rw [Lib.cell_of_heap h]; exact hx
theorem lt_heap {w : World} {b : Nat} {o : Obj} (h : w.heap[b]? = some o) : b < w.heap.size := by
  rcases Nat.lt_or_ge b w.heap.size with h' | h'
  · exact h'
  · rw [Array.getElem?_eq_none h'] at h; cases h
theorem set_heap {w : World} {b i : Nat} {cs : Array Value} {T : TypeId} {z : Nat × Nat} (h : w.heap[b]? = some (.cells cs T z)) (u : Value) : (w.setCell ⟨b, i, none⟩ u).heap[b]? = some (.cells (cs.setIfInBounds i u) T z) := by
  simp [World.setCell, Array.getElem?_modify, h]
theorem row_other {B b i : Nat} {w : World} {v : Value} {l : List UInt8} (h : RowB B w v l) (hne : v.ownBlock ≠ some b) (u : Value) : RowB B (w.setCell ⟨b, i, none⟩ u) v l :=
  World.ownsRow.kept (row := some b) h ⟨rfl, rfl, rfl, by simp [World.setCell], fun k _ hk => Below.heap_setCell _ _ _ _ (fun e => hk (by simp [e]))⟩ (Or.inr hne)
theorem row_ne {B b : Nat} {w : World} {v : Value} {l : List UInt8} {cs : Array Value} {T : TypeId} {z : Nat × Nat} (h : RowB B w v l) (hb : w.heap[b]? = some (.cells cs T z)) (hT : T ≠ 5) : v.ownBlock ≠ some b := by
  rcases h.2 with ⟨hv, _⟩ | ⟨g, cap, cur, hv, _, hg, _⟩
  · rw [hv]; simp [Value.ownBlock]
  · rw [hv]
    intro e
    simp [Value.ownBlock] at e
    subst e
    rw [hg] at hb
    injection hb with hb
    injection hb with _ h2
    exact hT h2.symm

/-- No block but 'b' and rows of bytes has turned. -/
def Beside (b : Nat) (w w' : World) : Prop := w.heap.size ≤ w'.heap.size ∧ ∀ c, c < w.heap.size → c ≠ b → (∀ cs z, w.heap[c]? ≠ some (.cells cs 5 z)) → w'.heap[c]? = w.heap[c]?
theorem Beside.refl (b : Nat) (w : World) : Beside b w w := ⟨Nat.le_refl _, fun _ _ _ _ => rfl⟩
theorem Beside.trans {b : Nat} {x y z : World} (h : Beside b x y) (k : Beside b y z) : Beside b x z :=
  ⟨Nat.le_trans h.1 k.1, fun c h1 h2 h3 => (k.2 c (Nat.lt_of_lt_of_le h1 h.1) h2 (fun cs z e => h3 cs z ((h.2 c h1 h2 h3) ▸ e))).trans (h.2 c h1 h2 h3)⟩
theorem Beside.set (b i : Nat) (w : World) (u : Value) : Beside b w (w.setCell ⟨b, i, none⟩ u) := ⟨by simp, fun c _ h2 _ => Below.heap_setCell _ _ _ _ h2⟩
theorem Beside.alloc (b : Nat) (w : World) (o : Obj) : Beside b w (w.alloc o) := ⟨by simp, fun c h1 _ _ => Below.heap_alloc _ _ _ h1⟩
theorem Beside.grown {b B : Nat} {w w' : World} {v : Value} {l : List UInt8} (hr : RowB B w v l) (hg : w.grownBy w' v.ownBlock) : Beside b w w' := by
  refine ⟨hg.size, fun c h1 _ h3 => hg.block c h1 (fun e => ?_)⟩
  rcases hr.2 with ⟨hv, _⟩ | ⟨g, cap, cur, hv, _, hgg, _⟩
  · rw [hv] at e; simp [Value.ownBlock] at e
  · rw [hv] at e
    simp [Value.ownBlock] at e
    subst e
    exact h3 _ _ hgg
theorem Beside.below {b : Nat} {w w' : World} (h : Below w.heap.size w w') : Beside b w w' := ⟨h.size, fun c h1 _ _ => h.block c h1⟩

/-- The same, when it has been written to. -/
def FU (T : TypeId) (B b : Nat) (rest : List Value) (l : List UInt8) (w : World) : Prop :=
  B ≤ b ∧ ∃ v, w.heap[b]? = some (.cells (.pointer (some ⟨b, 0, none⟩) :: v :: rest).toArray T (0, 0)) ∧ RowB B w v l ∧ v.ownBlock ≠ some b
theorem FU.fb {T : TypeId} {B b : Nat} {rest : List Value} {l : List UInt8} {w : World} (h : FU T B b rest l w) : FB T B b rest l w := by
  obtain ⟨h1, v, h2, h3⟩ := h
  exact ⟨h1, _, v, .inr rfl, h2, h3⟩

theorem info_builder : ∃ j, Tryz.prog.info? 41 = some j ∧ j.size = 2 := Option.map_eq_some_iff.1 (show (Tryz.prog.info? 41).map (·.size) = some 2 by kernel_rfl)

set_option maxRecDepth 100000 in
set_option maxHeartbeats 1600000 in
theorem fb_check {T : TypeId} {B b : Nat} {rest : List Value} {l : List UInt8} {w : World} (hT : FT T rest.length) (h : FB T B b rest l w) :
    Calls Tryz.prog 42 #[.pointer (some ⟨b, 0, none⟩)] w fun e w' => e = .returned (.tuple #[]) ∧ FU T B b rest l w' ∧ Below B w w' ∧ Beside b w w' := by
  obtain ⟨hB, p, v, hp, hb, hrow, hne⟩ := h
  obtain ⟨j, hj, hjs⟩ := info_builder
  have h0 := cellAt hb (i := 0) (x := p) (by simp)
  have hsh : w.shape? b = some (T, rest.length + 2) := by simp [World.shape?, hb]
  have hf : w.frozen? ⟨b, 0, none⟩ = false := Lib.frozen_of_heap hb 0
  rcases hp with rfl | rfl
  · go_enter Tryz.func42, Tryz.ntmps42
    go_wp2
    rw [Lib.run_to_unsafe w ⟨b, 0, none⟩ Tryz.underlying39 Tryz.underlying123 hj (by rw [hjs]; decide) hsh (by simp)]
    simp only [Result.andThen]
    rw [Oper.upon_value]
    go_wp2
    rw [run_callFunc_extern Tryz.func77 (by kernel_rfl) (by kernel_rfl) (by kernel_rfl) (e := Extern.AbiNoEscape.same) (by kernel_rfl)]
    rw [Lib.run_noEscape]
    simp only [Result.andThen]
    rw [Oper.upon_value]
    go_wp2
    rw [Lib.run_from_unsafe w ⟨b, 0, none⟩ Tryz.underlying123 Tryz.underlying39 hj hsh hT.lies]
    simp only [Result.andThen]
    rw [Oper.upon_value]
    go_wp2
    go_end0
    refine ⟨rfl, ⟨hB, v, ?_, row_other hrow hne _, hne⟩, (Below.refl _ _).setCell hB _, Beside.set _ _ _ _⟩
    rw [set_heap hb]
    simp
  · go_enter Tryz.func42, Tryz.ntmps42
    go_wp2
    rw [Lib.run_neq_ptr_same w _ Tryz.underlying39 hj]
    go_wp2
    go_end0
    exact ⟨rfl, ⟨hB, v, hb, hrow, hne⟩, Below.refl _ _, Beside.refl _ _⟩
theorem byteCellsApp (l m : List UInt8) : Lib.byteCells (l ++ m) = Lib.byteCells l ++ Lib.byteCells m := by simp [Lib.byteCells]
theorem strCellsB (s : ByteArray) : Lib.strCells s = Lib.byteCells s.data.toList := by simp [Lib.strCells, Lib.byteCells]

set_option maxRecDepth 100000 in
set_option maxHeartbeats 2000000 in
theorem fb_byte {T : TypeId} {B b : Nat} {rest : List Value} {l : List UInt8} {w : World} (hT : FT T rest.length) (h : FB T B b rest l w) (x : UInt8) (hlen : l.length + 1 ≤ 1000000000) (hBw : B ≤ w.heap.size) :
    Calls Tryz.prog 21 #[.pointer (some ⟨b, 0, none⟩), .int .u8 (x.toNat : Int)] w fun e w' => e = .returned .nilIface ∧ FB T B b rest (l ++ [x]) w' ∧ Below B w w' ∧ Beside b w w' := by
  go_enter Tryz.func21, Tryz.ntmps21
  go_wp2_with (go_at_call 42; refine (fb_check hT h).mono ?_)
  rintro e w1 ⟨rfl, ⟨hB, v, hb, hrow, hne⟩, hb1, hk1⟩
  have HK1 := hideB hk1
  clear hk1
  have c1 := cellAt hb (i := 1) (x := v) (by simp)
  have z1 := hb1.size
  obtain ⟨av, cv, ev⟩ := hrow.slice
  have HR := hideB hrow
  have HB := hideB hb
  have HNE := hideB hne
  have hlt := lt_heap hb
  obtain ⟨n, hn⟩ : ∃ n, l.length = n := ⟨_, rfl⟩
  have HN := hideB hn
  rw [hn] at ev hlen
  subst ev
  clear hb hrow hne hn
  obtain ⟨i0, hi0, hz0, hs0, hy0⟩ := info_three info_byte
  go_wp2_with (at_builtin; refine wpList_append_own _ rfl _ _ 22 rfl B 5 i0 (.int .u8 0) 1 1 Tryz.underlying22 hi0 hz0 hs0 hy0 rfl (by decide) _ _ _ rfl (HR.out.alloc _) ⟨w1.heap.size, 0, none⟩ 1 1 [.int .u8 (x.toNat : Int)] rfl rfl (byte_new w1 x) ?c1 ?c2 ?c3 ?c4 ?_)
  case c1 => intro u hu; simp at hu; subst hu; rfl
  case c2 => rw [HN.out]; unfold maxLen; omega
  case c3 => rw [HN.out]; omega
  case c4 => simp; omega
  intro v' w2 hown hgrow _
  obtain ⟨av2, cv2, ev2⟩ : ∃ a c, v' = .slice a (l.length + 1) c := by
    rcases hown.2 with ⟨_, h0⟩ | ⟨g, cap, cur, hv, _⟩
    · omega
    · exact ⟨_, _, hv⟩
  have hr2 := row_end (by omega) HR.out hown hgrow
  have HK2 := hideB (((HK1.out.trans (Beside.alloc _ _ _)).trans (Beside.grown (HR.out.alloc _) hgrow)).trans (Beside.set b 1 _ v'))
  have hb2 : w2.heap[b]? = some (.cells (.pointer (some ⟨b, 0, none⟩) :: .slice av n cv :: rest).toArray T (0, 0)) := by
    rw [hgrow.block b (by simp; omega) (fun e => HNE.out e.symm), Below.heap_alloc _ _ _ hlt]
    exact HB.out
  have hne2 := row_ne hr2.1 hb2 hT.ne
  have d1 := cellAt hb2 (i := 1) (x := .slice av n cv) (by simp)
  have f1 : w2.frozen? ⟨b, 1, none⟩ = false := Lib.frozen_of_heap hb2 1
  rw [HN.out] at ev2
  subst ev2
  have HR2 := hideB hr2.1
  have HBL := hideB ((hb1.trans (hr2.2)).setCell (p := ⟨b, 1, none⟩) hB (.slice av2 (n + 1) cv2))
  have HB2 := hideB hb2
  have HNE2 := hideB hne2
  clear hown hgrow hr2 hb2 hne2
  go_wp2
  go_ret
  refine ⟨rfl, ⟨hB, _, _, .inr rfl, ?_, row_other HR2.out HNE2.out _, HNE2.out⟩, HBL.out, HK2.out⟩
  rw [set_heap HB2.out]
  simp

set_option maxRecDepth 100000 in
set_option maxHeartbeats 2000000 in
theorem fb_text {T : TypeId} {B b : Nat} {rest : List Value} {l : List UInt8} {w : World} (hT : FT T rest.length) (h : FB T B b rest l w) (s : ByteArray) (hlen : l.length + s.size ≤ 1000000000) (hBw : B ≤ w.heap.size) :
    Calls Tryz.prog 37 #[.pointer (some ⟨b, 0, none⟩), .string s] w fun e w' => e = .returned (.tuple #[.int .i64 s.size, .nilIface]) ∧ FB T B b rest (l ++ s.data.toList) w' ∧ Below B w w' ∧ Beside b w w' := by
  go_enter Tryz.func37, Tryz.ntmps37
  go_wp2_with (go_at_call 42; refine (fb_check hT h).mono ?_)
  rintro e w1 ⟨rfl, ⟨hB, v, hb, hrow, hne⟩, hb1, hk1⟩
  have HK1 := hideB hk1
  clear hk1
  have c1 := cellAt hb (i := 1) (x := v) (by simp)
  have z1 := hb1.size
  obtain ⟨av, cv, ev⟩ := hrow.slice
  have HR := hideB hrow
  have HB := hideB hb
  have HNE := hideB hne
  have hlt := lt_heap hb
  obtain ⟨n, hn⟩ : ∃ n, l.length = n := ⟨_, rfl⟩
  have HN := hideB hn
  rw [hn] at ev hlen
  subst ev
  clear hb hrow hne hn
  obtain ⟨i0, hi0, hz0, hs0, hy0⟩ := info_three info_byte
  go_wp2_with (at_builtin; refine Lib.wpList_append_own_string _ rfl _ _ 22 9 rfl B 5 i0 Tryz.underlying22 Tryz.underlying9 hi0 hz0 hs0 hy0 _ _ _ rfl HR.out s rfl ?c2 ?c3 ?c4 ?_)
  case c2 => rw [HN.out]; unfold maxLen; omega
  case c3 => rw [HN.out]; omega
  case c4 => omega
  intro v' w2 hown hgrow _
  obtain ⟨av2, cv2, m2, ev2⟩ : ∃ a c m, v' = .slice a m c := by
    rcases hown.2 with ⟨hv, h0⟩ | ⟨g, cap, cur, hv, _⟩
    · exact ⟨_, _, _, hv⟩
    · exact ⟨_, _, _, hv⟩
  have hr2 : RowB B w2 v' (l ++ s.data.toList) := by
    unfold RowB
    rw [byteCellsApp, ← strCellsB, List.length_append, len_is]
    exact hown
  have HK2 := hideB ((HK1.out.trans (Beside.grown HR.out hgrow)).trans (Beside.set b 1 _ v'))
  have hbl : Below B w1 w2 := (Below.refl _ _).grown hgrow (by omega) (fun k hk => (HR.out.lt k hk).1)
  have hb2 : w2.heap[b]? = some (.cells (.pointer (some ⟨b, 0, none⟩) :: .slice av n cv :: rest).toArray T (0, 0)) := by
    rw [hgrow.block b hlt (fun e => HNE.out e.symm)]
    exact HB.out
  have hne2 := row_ne hr2 hb2 hT.ne
  have d1 := cellAt hb2 (i := 1) (x := .slice av n cv) (by simp)
  have f1 : w2.frozen? ⟨b, 1, none⟩ = false := Lib.frozen_of_heap hb2 1
  subst ev2
  have HR2 := hideB hr2
  have HBL := hideB ((hb1.trans hbl).setCell (p := ⟨b, 1, none⟩) hB (.slice av2 m2 cv2))
  have HB2 := hideB hb2
  have HNE2 := hideB hne2
  clear hown hgrow hr2 hb2 hne2 hbl
  go_wp2
  go_ret2
  refine ⟨rfl, ⟨hB, _, _, .inr rfl, ?_, row_other HR2.out HNE2.out _, HNE2.out⟩, HBL.out, HK2.out⟩
  rw [set_heap HB2.out]
  simp

theorem cells_byte : Tryz.prog.cellsOf 5 = 1 := by kernel_rfl
set_option maxRecDepth 100000 in
set_option maxHeartbeats 2000000 in
theorem fb_string {T : TypeId} {B b : Nat} {rest : List Value} {l : List UInt8} {w : World} (h : FB T B b rest l w) (hl0 : l ≠ []) :
    Calls Tryz.prog 20 #[.pointer (some ⟨b, 0, none⟩)] w fun e w' => e = .returned (.string (txt l)) ∧ Below B w w' := by
  obtain ⟨hB, p, v, hp, hb, hrow, hne⟩ := h
  have hl : l.length ≠ 0 := by simpa using hl0
  have mixed : Tryz.prog.follows .mixedOrders = true := by kernel_rfl
  obtain ⟨g, cap, cur, rfl, hbg, hg, hnc, hcm, hcs, htake⟩ : ∃ g cap cur, v = .slice (some ⟨g, 0, none⟩) l.length cap ∧ B ≤ g ∧ w.heap[g]? = some (.cells cur 5 (0, 0)) ∧ l.length ≤ cap ∧ cap ≤ maxLen ∧ cur.size = cap * 1 ∧ cur.toList.take (l.length * 1) = Lib.byteCells l := by
    rcases hrow.2 with ⟨_, hz⟩ | ⟨g, cap, cur, hv, r⟩
    · exact absurd hz hl
    · exact ⟨g, cap, cur, hv, r⟩
  have hb' : w.drew.heap[b]? = some (.cells (p :: .slice (some ⟨g, 0, none⟩) l.length cap :: rest).toArray T (0, 0)) := hb
  have hg' : w.drew.heap[g]? = some (.cells cur 5 (0, 0)) := hg
  have c1 : w.drew.cell? ⟨b, 1, none⟩ = some (.slice (some ⟨g, 0, none⟩) l.length cap) := cellAt hb' (by simp)
  have hSD : (Builtin.unsafeSliceData_ #[22] 88 #[.slice (some ⟨g, 0, none⟩) l.length cap]).run Tryz.prog w.drew = .ok (.pointer (some ⟨g, 0, none⟩)) w.drew :=
    Lib.run_unsafeSliceData_row _ _ _ _ _ _ (by omega)
  have hUS : (Builtin.unsafeString_ #[88, 3] 9 #[.pointer (some ⟨g, 0, none⟩), .int .i64 l.length]).run Tryz.prog w.drew = .ok (.string ⟨l.toArray⟩) (w.drew.freeze ⟨g, 0, none⟩ l.length) := by
    refine Lib.run_unsafeString_row w.drew 88 3 9 5 Tryz.underlying88 cells_byte g cur.size (by simp [World.shape?, hg']) l hl0 (by omega) (by unfold maxLen at hcm; omega) ?_
    intro j x hx
    exact hrow.cells (g := g) rfl j (.int .u8 x.toNat) (by simp [Lib.byteCells, hx])
  have HE := hideB (show Below B w (w.drew.freeze ⟨g, 0, none⟩ l.length) from Lib.below_freeze (Below.drew (Below.refl B w)) (p := ⟨g, 0, none⟩) hbg _)
  clear hrow htake hcs hcm hb' hg'
  go_enter Tryz.func20, Tryz.ntmps20
  go_wp2
  go_region_o
  all_goals (go_wp2; go_ret; exact ⟨rfl, HE.out⟩)
end Go.Proofs.YtagcgnhpdmhegaaGreatDoor

/-
  A builder in a struct, kept while other memory is made.
-/
namespace Go.Proofs.YtagcgnhpdmhegaaGreatDoor
open Go.RowKit Go.Shelf
set_option linter.unusedSimpArgs false
set_option linter.unusedVariables false

theorem FB.grown {T : TypeId} {B b : Nat} {rest : List Value} {l : List UInt8} {X Y : World} {row : Option Nat} (h : FB T B b rest l X) (hg : X.grownBy Y row) (hr : ∀ r, row = some r → ∃ o : Obj, X.heap[r]? = some o ∧ o.isCells = false) : FB T B b rest l Y := by
  obtain ⟨hB, p, v, hp, hb, hrow, hne⟩ := h
  refine ⟨hB, p, v, hp, (grownBy_keeps_cells hg hr hb rfl).trans hb, ⟨hrow.1, ?_⟩, hne⟩
  rcases hrow.2 with h0 | ⟨g, cap, cur, hv, h1, h2, h3⟩
  · exact .inl h0
  · exact .inr ⟨g, cap, cur, hv, h1, (grownBy_keeps_cells hg hr h2 rfl).trans h2, h3⟩
theorem FB.lt {T : TypeId} {B b : Nat} {rest : List Value} {l : List UInt8} {w : World} (h : FB T B b rest l w) : b < w.heap.size := by
  obtain ⟨hB, p, v, hp, hb, _⟩ := h
  exact lt_heap hb
theorem FB.drew {T : TypeId} {B b : Nat} {rest : List Value} {l : List UInt8} {X : World} (h : FB T B b rest l X) : FB T B b rest l X.drew := h
theorem FB.alloc {T : TypeId} {B b : Nat} {rest : List Value} {l : List UInt8} {X : World} (h : FB T B b rest l X) (o : Obj) : FB T B b rest l (X.alloc o) := h.grown (World.grownBy_alloc X o none) (fun r e => by cases e)

theorem FB.keep {T : TypeId} {B b : Nat} {rest : List Value} {l : List UInt8} {X Y : World} (h : FB T B b rest l X) (hk : Below X.heap.size X Y) : FB T B b rest l Y := by
  obtain ⟨hB, p, v, hp, hb, hrow, hne⟩ := h
  refine ⟨hB, p, v, hp, (hk.block b (lt_heap hb)).trans hb, ⟨hrow.1, ?_⟩, hne⟩
  rcases hrow.2 with h0 | ⟨g, cap, cur, hv, h1, h2, h3⟩
  · exact .inl h0
  · exact .inr ⟨g, cap, cur, hv, h1, (hk.block g (lt_heap h2)).trans h2, h3⟩
end Go.Proofs.YtagcgnhpdmhegaaGreatDoor

/-
  The library's contracts of strings.Repeat, strconv.FormatBool and strconv.FormatInt at this program.
-/
namespace Go.Proofs
open Go.Shelf
def Tryz.fmtRen : Go.Shelf.Ren := ⟨fun | 99 => 109 | 105 => 94 | 121 => 38 | 129 => 103 | 165 => 110 | 166 => 37 | 169 => 20 | 170 => 111 | 173 => 39 | 206 => 121 | 212 => 108 | 214 => 72 | 240 => 42 | 241 => 122 | 246 => 73 | 263 => 119 | 264 => 120 | 276 => 77 | 277 => 126 | 283 => 89 | 284 => 90 | 285 => 91 | 286 => 92 | 317 => 102 | 318 => 104 | 319 => 105 | 320 => 106 | 337 => 117 | 338 => 118 | n => n, fun | 37 => 22 | 46 => 135 | 51 => 147 | 53 => 133 | 70 => 39 | 72 => 41 | 75 => 47 | 76 => 74 | 109 => 150 | 127 => 88 | 146 => 158 | 148 => 160 | 164 => 123 | 171 => 136 | 173 => 139 | 212 => 146 | 213 => 148 | 232 => 165 | 233 => 166 | 80 => 45 | n => n, fun | 17 => 0 | 18 => 2 | 19 => 3 | n => n⟩
theorem Tryz.fmtLays105 : Go.Proofs.Lays.n105 Tryz.prog Tryz.fmtRen := {
  mixed := by kernel_rfl
  f99 := Tryz.func109.trans (congrArg some (by kernel_rfl))
  f105 := Tryz.func94.trans (congrArg some (by kernel_rfl))
  f165 := Tryz.func110.trans (congrArg some (by kernel_rfl))
  f166 := Tryz.func37.trans (congrArg some (by kernel_rfl))
  f169 := Tryz.func20.trans (congrArg some (by kernel_rfl))
  f170 := Tryz.func111.trans (congrArg some (by kernel_rfl))
  f206 := Tryz.func121.trans (congrArg some (by kernel_rfl))
  f212 := Tryz.func108.trans (congrArg some (by kernel_rfl))
  f240 := Tryz.func42.trans (congrArg some (by kernel_rfl))
  f241 := Tryz.func122.trans (congrArg some (by kernel_rfl))
  f263 := Tryz.func119.trans (congrArg some (by kernel_rfl))
  f264 := Tryz.func120.trans (congrArg some (by kernel_rfl))
  f276 := Tryz.func77.trans (congrArg some (by kernel_rfl))
  f277 := Tryz.func126.trans (congrArg some (by kernel_rfl))
  t0 := Tryz.underlying0
  a0 := Tryz.isAgg0
  z0 := Tryz.sizeOf0
  v0 := Tryz.zeroValue0
  t3 := Tryz.underlying3
  a3 := Tryz.isAgg3
  z3 := Tryz.sizeOf3
  v3 := Tryz.zeroValue3
  t4 := Tryz.underlying4
  a4 := Tryz.isAgg4
  z4 := Tryz.sizeOf4
  v4 := Tryz.zeroValue4
  t5 := Tryz.underlying5
  a5 := Tryz.isAgg5
  z5 := Tryz.sizeOf5
  v5 := Tryz.zeroValue5
  t9 := Tryz.underlying9
  a9 := Tryz.isAgg9
  z9 := Tryz.sizeOf9
  v9 := Tryz.zeroValue9
  t20 := Tryz.underlying20
  a20 := Tryz.isAgg20
  z20 := Tryz.sizeOf20
  v20 := Tryz.zeroValue20
  t37 := Tryz.underlying22
  a37 := Tryz.isAgg22
  z37 := Tryz.sizeOf22
  v37 := Tryz.zeroValue22
  t46 := Tryz.underlying135
  a46 := Tryz.isAgg135
  z46 := Tryz.sizeOf135
  v46 := Tryz.zeroValue135
  t51 := Tryz.underlying147
  a51 := Tryz.isAgg147
  z51 := Tryz.sizeOf147
  v51 := Tryz.zeroValue147
  t53 := Tryz.underlying133
  a53 := Tryz.isAgg133
  z53 := Tryz.sizeOf133
  v53 := Tryz.zeroValue133
  t70 := Tryz.underlying39
  a70 := Tryz.isAgg39
  z70 := Tryz.sizeOf39
  v70 := Tryz.zeroValue39
  t72 := Tryz.underlying41
  a72 := Tryz.isAgg41
  z72 := Tryz.sizeOf41
  v72 := Tryz.zeroValue41
  t75 := Tryz.underlying47
  a75 := Tryz.isAgg47
  z75 := Tryz.sizeOf47
  v75 := Tryz.zeroValue47
  t76 := Tryz.underlying74
  a76 := Tryz.isAgg74
  z76 := Tryz.sizeOf74
  v76 := Tryz.zeroValue74
  t109 := Tryz.underlying150
  a109 := Tryz.isAgg150
  z109 := Tryz.sizeOf150
  v109 := Tryz.zeroValue150
  t127 := Tryz.underlying88
  a127 := Tryz.isAgg88
  z127 := Tryz.sizeOf88
  v127 := Tryz.zeroValue88
  t146 := Tryz.underlying158
  a146 := Tryz.isAgg158
  z146 := Tryz.sizeOf158
  v146 := Tryz.zeroValue158
  t148 := Tryz.underlying160
  a148 := Tryz.isAgg160
  z148 := Tryz.sizeOf160
  v148 := Tryz.zeroValue160
  t164 := Tryz.underlying123
  a164 := Tryz.isAgg123
  z164 := Tryz.sizeOf123
  v164 := Tryz.zeroValue123
}
theorem Tryz.fmtLays121 : Go.Proofs.Lays.n121 Tryz.prog Tryz.fmtRen := {
  mixed := by kernel_rfl
  f121 := Tryz.func38.trans (congrArg some (by kernel_rfl))
  f214 := Tryz.func72.trans (congrArg some (by kernel_rfl))
  t4 := Tryz.underlying4
  a4 := Tryz.isAgg4
  z4 := Tryz.sizeOf4
  v4 := Tryz.zeroValue4
  t9 := Tryz.underlying9
  a9 := Tryz.isAgg9
  z9 := Tryz.sizeOf9
  v9 := Tryz.zeroValue9
}
theorem Tryz.fmtLays173 : Go.Proofs.LaysM.n173 Tryz.prog Tryz.fmtRen := {
  mixed := by kernel_rfl
  f129 := Tryz.func103.trans (congrArg some (by kernel_rfl))
  f173 := Tryz.func39.trans (congrArg some (by kernel_rfl))
  f246 := Tryz.func73.trans (congrArg some (by kernel_rfl))
  f283 := Tryz.func89.trans (congrArg some (by kernel_rfl))
  f284 := Tryz.func90.trans (congrArg some (by kernel_rfl))
  f285 := Tryz.func91.trans (congrArg some (by kernel_rfl))
  f286 := Tryz.func92.trans (congrArg some (by kernel_rfl))
  f317 := Tryz.func102.trans (congrArg some (by kernel_rfl))
  f318 := Tryz.func104.trans (congrArg some (by kernel_rfl))
  f319 := Tryz.func105.trans (congrArg some (by kernel_rfl))
  f320 := Tryz.func106.trans (congrArg some (by kernel_rfl))
  f337 := Tryz.func117.trans (congrArg some (by kernel_rfl))
  f338 := Tryz.func118.trans (congrArg some (by kernel_rfl))
  t0 := Tryz.underlying0
  a0 := Tryz.isAgg0
  z0 := Tryz.sizeOf0
  v0 := Tryz.zeroValue0
  t2 := Tryz.underlying2
  a2 := Tryz.isAgg2
  z2 := Tryz.sizeOf2
  v2 := Tryz.zeroValue2
  t3 := Tryz.underlying3
  a3 := Tryz.isAgg3
  z3 := Tryz.sizeOf3
  v3 := Tryz.zeroValue3
  t4 := Tryz.underlying4
  a4 := Tryz.isAgg4
  z4 := Tryz.sizeOf4
  v4 := Tryz.zeroValue4
  t5 := Tryz.underlying5
  a5 := Tryz.isAgg5
  z5 := Tryz.sizeOf5
  v5 := Tryz.zeroValue5
  t9 := Tryz.underlying9
  a9 := Tryz.isAgg9
  z9 := Tryz.sizeOf9
  v9 := Tryz.zeroValue9
  t20 := Tryz.underlying20
  a20 := Tryz.isAgg20
  z20 := Tryz.sizeOf20
  v20 := Tryz.zeroValue20
  t37 := Tryz.underlying22
  a37 := Tryz.isAgg22
  z37 := Tryz.sizeOf22
  v37 := Tryz.zeroValue22
  t46 := Tryz.underlying135
  a46 := Tryz.isAgg135
  z46 := Tryz.sizeOf135
  v46 := Tryz.zeroValue135
  t51 := Tryz.underlying147
  a51 := Tryz.isAgg147
  z51 := Tryz.sizeOf147
  v51 := Tryz.zeroValue147
  t53 := Tryz.underlying133
  a53 := Tryz.isAgg133
  z53 := Tryz.sizeOf133
  v53 := Tryz.zeroValue133
  t171 := Tryz.underlying136
  a171 := Tryz.isAgg136
  z171 := Tryz.sizeOf136
  v171 := Tryz.zeroValue136
  t173 := Tryz.underlying139
  a173 := Tryz.isAgg139
  z173 := Tryz.sizeOf139
  v173 := Tryz.zeroValue139
  t212 := Tryz.underlying146
  a212 := Tryz.isAgg146
  z212 := Tryz.sizeOf146
  v212 := Tryz.zeroValue146
  t213 := Tryz.underlying148
  a213 := Tryz.isAgg148
  z213 := Tryz.sizeOf148
  t232 := Tryz.underlying165
  a232 := Tryz.isAgg165
  z232 := Tryz.sizeOf165
  v232 := Tryz.zeroValue165
  t233 := Tryz.underlying166
  a233 := Tryz.isAgg166
  z233 := Tryz.sizeOf166
  v233 := Tryz.zeroValue166
  g17 := by kernel_rfl
  g18 := by kernel_rfl
  g19 := by kernel_rfl
  i0 := by kernel_rfl
  i2 := by kernel_rfl
  i3 := by kernel_rfl
  i4 := by kernel_rfl
  i5 := by kernel_rfl
  i9 := by kernel_rfl
  i20 := by kernel_rfl
  i37 := by kernel_rfl
  i46 := by kernel_rfl
  i51 := by kernel_rfl
  i53 := by kernel_rfl
  i171 := by kernel_rfl
  i173 := by kernel_rfl
  i212 := by kernel_rfl
  i232 := by kernel_rfl
  i233 := by kernel_rfl
  m17 := by kernel_rfl
  m18 := by kernel_rfl
  m19 := by kernel_rfl
}
theorem Tryz.fmtExtra : Builder.Extra Tryz.prog Tryz.fmtRen := {
  sizeBuilder := by kernel_rfl
  liesBuilder := by kernel_rfl
  t5 := Tryz.underlying5
  a5 := Tryz.isAgg5
  z5 := Tryz.sizeOf5
  v5 := Tryz.zeroValue5
  infoByte := by kernel_rfl
  cellsByte := by kernel_rfl
  sizeByte := by kernel_rfl
  neB5 := by decide
}
end Go.Proofs
namespace Go.Proofs.YtagcgnhpdmhegaaGreatDoor
open Go.Shelf Go.RowKit
theorem repeat_any (s : ByteArray) (c : Nat) (w : World) (hlen : s.size * c ≤ 140737488355328) (hc : c ≤ 9223372036854775807) : Calls Tryz.prog 94 #[.string s, .int .i64 c] w fun e w' => e = .returned (.string ⟨(Lib.repeatL s.data.toList c).toArray⟩) ∧ Below w.heap.size w w' :=
  Any.strings_Repeat Tryz.fmtLays105 Tryz.fmtExtra s c w hc hlen
theorem formatBool_any (b : Bool) (w : World) : Calls Tryz.prog 38 #[.bool b] w fun e w' => e = .returned (.string ⟨(Lib.formatBool b).toArray⟩) ∧ w' = w :=
  Any.strconv_FormatBool Tryz.fmtLays121 b w
theorem formatInt_any (n : Int) (h0 : -9223372036854775808 ≤ n) (h1 : n ≤ 9223372036854775807) (w : World) (htab : Lib.TabIs Tryz.prog w "internal/strconv.uint64pow10" .u64 Lib.pow10Tab) :
    Calls Tryz.prog 39 #[.int .i64 n, .int .i64 10] w fun e w' => e = .returned (.string ⟨(Lib.itoa n).toArray⟩) ∧ Below w.heap.size w w' :=
  (Any.strconv_FormatInt_10 Tryz.fmtLays173 n h0 h1 w htab).mono fun e w' ⟨h, k, os, hw⟩ => ⟨h, hw ▸ ⟨rfl, rfl, rfl, by simp [Go.Sort.grow], fun b hb => by simp [Go.Sort.grow, Array.getElem?_append_left hb]⟩⟩
end Go.Proofs.YtagcgnhpdmhegaaGreatDoor

/-
  Which type lies behind the interface: all pairs, in the order of a type switch.
-/
namespace Go.Proofs.YtagcgnhpdmhegaaGreatDoor
open Go.RowKit
theorem tw_null_null (x : Value) (w : World) : (Instr.typeAssert (.iface 73 x) 36 73 true).run Tryz.prog w = .ok (.tuple #[x, .bool true]) w := by kernel_rfl
theorem tw_bool_null (x : Value) (w : World) : (Instr.typeAssert (.iface 77 x) 36 73 true).run Tryz.prog w = .ok (.tuple #[.agg #[], .bool false]) w := by kernel_rfl
theorem tw_bool_bool (x : Value) (w : World) : (Instr.typeAssert (.iface 77 x) 36 77 true).run Tryz.prog w = .ok (.tuple #[x, .bool true]) w := by kernel_rfl
theorem tw_int_null (x : Value) (w : World) : (Instr.typeAssert (.iface 79 x) 36 73 true).run Tryz.prog w = .ok (.tuple #[.agg #[], .bool false]) w := by kernel_rfl
theorem tw_int_bool (x : Value) (w : World) : (Instr.typeAssert (.iface 79 x) 36 77 true).run Tryz.prog w = .ok (.tuple #[.agg #[.int .i64 0], .bool false]) w := by kernel_rfl
theorem tw_int_int (x : Value) (w : World) : (Instr.typeAssert (.iface 79 x) 36 79 true).run Tryz.prog w = .ok (.tuple #[x, .bool true]) w := by kernel_rfl
theorem tw_text_null (x : Value) (w : World) : (Instr.typeAssert (.iface 82 x) 36 73 true).run Tryz.prog w = .ok (.tuple #[.agg #[], .bool false]) w := by kernel_rfl
theorem tw_text_bool (x : Value) (w : World) : (Instr.typeAssert (.iface 82 x) 36 77 true).run Tryz.prog w = .ok (.tuple #[.agg #[.int .i64 0], .bool false]) w := by kernel_rfl
theorem tw_text_int (x : Value) (w : World) : (Instr.typeAssert (.iface 82 x) 36 79 true).run Tryz.prog w = .ok (.tuple #[.agg #[.int .i64 0], .bool false]) w := by kernel_rfl
theorem tw_text_text (x : Value) (w : World) : (Instr.typeAssert (.iface 82 x) 36 82 true).run Tryz.prog w = .ok (.tuple #[x, .bool true]) w := by kernel_rfl
theorem tw_list_null (x : Value) (w : World) : (Instr.typeAssert (.iface 84 x) 36 73 true).run Tryz.prog w = .ok (.tuple #[.agg #[], .bool false]) w := by kernel_rfl
theorem tw_list_bool (x : Value) (w : World) : (Instr.typeAssert (.iface 84 x) 36 77 true).run Tryz.prog w = .ok (.tuple #[.agg #[.int .i64 0], .bool false]) w := by kernel_rfl
theorem tw_list_int (x : Value) (w : World) : (Instr.typeAssert (.iface 84 x) 36 79 true).run Tryz.prog w = .ok (.tuple #[.agg #[.int .i64 0], .bool false]) w := by kernel_rfl
theorem tw_list_text (x : Value) (w : World) : (Instr.typeAssert (.iface 84 x) 36 82 true).run Tryz.prog w = .ok (.tuple #[.agg #[.string ByteArray.empty], .bool false]) w := by kernel_rfl
theorem tw_list_list (x : Value) (w : World) : (Instr.typeAssert (.iface 84 x) 36 84 true).run Tryz.prog w = .ok (.tuple #[x, .bool true]) w := by kernel_rfl
theorem tw_map_null (x : Value) (w : World) : (Instr.typeAssert (.iface 87 x) 36 73 true).run Tryz.prog w = .ok (.tuple #[.agg #[], .bool false]) w := by kernel_rfl
theorem tw_map_bool (x : Value) (w : World) : (Instr.typeAssert (.iface 87 x) 36 77 true).run Tryz.prog w = .ok (.tuple #[.agg #[.int .i64 0], .bool false]) w := by kernel_rfl
theorem tw_map_int (x : Value) (w : World) : (Instr.typeAssert (.iface 87 x) 36 79 true).run Tryz.prog w = .ok (.tuple #[.agg #[.int .i64 0], .bool false]) w := by kernel_rfl
theorem tw_map_text (x : Value) (w : World) : (Instr.typeAssert (.iface 87 x) 36 82 true).run Tryz.prog w = .ok (.tuple #[.agg #[.string ByteArray.empty], .bool false]) w := by kernel_rfl
theorem tw_map_list (x : Value) (w : World) : (Instr.typeAssert (.iface 87 x) 36 84 true).run Tryz.prog w = .ok (.tuple #[.agg #[.slice none 0 0], .bool false]) w := by kernel_rfl
theorem tw_map_map (x : Value) (w : World) : (Instr.typeAssert (.iface 87 x) 36 87 true).run Tryz.prog w = .ok (.tuple #[x, .bool true]) w := by kernel_rfl
end Go.Proofs.YtagcgnhpdmhegaaGreatDoor

/-
  The program's jsonWriter: lines, keys, and what a number, a Boolean and a text are written as.
-/
namespace Go.Proofs.YtagcgnhpdmhegaaGreatDoor
open Go.RowKit
set_option linter.unusedSimpArgs false
set_option linter.unusedVariables false

/-- The table of powers of ten stands, whatever is made from block 'B' on. -/
def TabB (B : Nat) (w : World) : Prop := ∀ w', Below B w w' → Lib.TabIs Tryz.prog w' "internal/strconv.uint64pow10" .u64 Lib.pow10Tab
theorem TabB.next {B : Nat} {w w' : World} (h : TabB B w) (hb : Below B w w') : TabB B w' := fun w2 h2 => h w2 (hb.trans h2)
theorem TabB.wide {B C : Nat} {w : World} (h : TabB B w) (hBC : B ≤ C) : TabB C w := fun w2 h2 => h w2 (h2.mono hBC)
theorem FB.lines {T : TypeId} {B b : Nat} {x : Bool} {l : List UInt8} {w : World} (h : FB T B b [.bool x] l w) : w.cell? ⟨b, 2, none⟩ = some (.bool x) := by
  obtain ⟨_, p, v, _, hb, _⟩ := h
  exact cellAt hb rfl
theorem call_wstr (u v : Value) : ∀ w, (callFunc 37 #[u, v]).run Tryz.prog w = .ok (.enter 37 #[u, v]) w := fun w => by kernel_rfl
theorem call_rep (u v : Value) : ∀ w, (callFunc 94 #[u, v]).run Tryz.prog w = .ok (.enter 94 #[u, v]) w := fun w => by kernel_rfl
theorem call_quo (u : Value) : ∀ w, (callFunc 40 #[u]).run Tryz.prog w = .ok (.enter 40 #[u]) w := fun w => by kernel_rfl
theorem repeat_blanks (d : Nat) : Lib.repeatL [32, 32] d = List.replicate (2 * d) 32 := by
  induction d with
  | zero => rfl
  | succ d ih => rw [Lib.repeatL, ih, show 2 * (d + 1) = 2 * d + 1 + 1 by omega, List.replicate_succ, List.replicate_succ]; rfl

set_option maxRecDepth 100000 in
set_option maxHeartbeats 1600000 in
theorem beginLine_any {B b : Nat} {x : Bool} {l : List UInt8} {w : World} (hT : FT 43 1) (h : FB 43 B b [.bool x] l w) (d : Nat) (hd : d ≤ 1000) (hlen : l.length ≤ 100000000) (hBw : B ≤ w.heap.size) :
    Calls Tryz.prog 75 #[.pointer (some ⟨b, 0, none⟩), .int .i64 d] w fun e w' => e = .returned (.tuple #[]) ∧ FB 43 B b [.bool x] (l ++ lineJ x d) w' ∧ Below B w w' ∧ Beside b w w' := by
  have HF := hideB h
  have c2 := h.lines
  clear h
  cases x
  · have HE : Hid (l ++ lineJ false d = l) := by rw [Hid, lineJ]; simp
    rw [HE.out]
    go_enter Tryz.func75, Tryz.ntmps75
    go_wp2_with fail
    go_end0
    exact ⟨rfl, HF.out, Below.refl _ _, Beside.refl _ _⟩
  · have HE : Hid (l ++ lineJ true d = l ++ [10] ++ (ByteArray.mk (Lib.repeatL (ByteArray.mk #[32, 32]).data.toList d).toArray).data.toList) := by
      rw [Hid, lineJ, if_pos rfl, List.append_assoc]
      show l ++ 10 :: List.replicate (2 * d) 32 = l ++ ([10] ++ Lib.repeatL [32, 32] d)
      rw [repeat_blanks]; rfl
    have hsz : (ByteArray.mk (Lib.repeatL (ByteArray.mk #[32, 32]).data.toList d).toArray).size ≤ 2000 := by
      show (Lib.repeatL [32, 32] d).toArray.size ≤ 2000
      rw [repeat_blanks]; simp; omega
    rw [HE.out]
    obtain ⟨S, hS⟩ : ∃ S, ByteArray.mk (Lib.repeatL (ByteArray.mk #[32, 32]).data.toList d).toArray = S := ⟨_, rfl⟩
    have CR := hideB (fun w => repeat_any ⟨#[32, 32]⟩ d w (by show 2 * d ≤ _; omega) (by omega))
    rw [hS] at hsz ⊢
    rw [hS] at CR
    clear hS HE
    go_enter Tryz.func75, Tryz.ntmps75
    go_wp2_with (go_at_call 21; refine (fb_byte hT HF.out 10 (by omega) hBw).mono ?_; rintro e w1 ⟨rfl, f1, b1, k1⟩; have z1 := b1.size)
    have HF1 := hideB f1
    clear f1
    go_region_law (first
      | (refine step_call2 (by rfl) 94 _ _ _ _ (by rfl) (.string ⟨#[32, 32]⟩) (.int .i64 d) (by rfl) (by rfl) (call_rep _ _) (CR.out _) ?_; rintro e w2 ⟨rfl, b2⟩; have z2 : w1.heap.size ≤ w2.heap.size := b2.size; refine ⟨_, rfl, ?_⟩)
      | (refine step_call2 (by rfl) 37 _ _ _ _ (by rfl) (.pointer (some ⟨b, 0, none⟩)) (.string S) (by rfl) (by rfl) (call_wstr _ _) (fb_text hT (HF1.out.drew.keep b2) S (by rw [List.length_append]; simp; omega) (by omega)) ?_; rintro e w3 ⟨rfl, f3, b3, k3⟩; refine ⟨_, rfl, ?_⟩))
    all_goals (
      go_wp2_with fail
      go_end0
      exact ⟨rfl, f3, ((b1.drew).trans (b2.mono (show B ≤ w1.drew.heap.size from Nat.le_trans hBw z1))).trans b3, (k1.trans (Beside.below (w := w1.drew) b2)).trans k3⟩)

set_option maxRecDepth 100000 in
set_option maxHeartbeats 1600000 in
theorem writeKey_any {B b : Nat} {x : Bool} {l : List UInt8} {w : World} (hT : FT 43 1) (h : FB 43 B b [.bool x] l w) (key : ByteArray) (hk : key.size ≤ 60) (hlen : l.length ≤ 100000000) (hBw : B ≤ w.heap.size) :
    Calls Tryz.prog 76 #[.pointer (some ⟨b, 0, none⟩), .string key] w fun e w' => e = .returned (.tuple #[]) ∧ FB 43 B b [.bool x] (l ++ keyJ x key) w' ∧ Below B w w' ∧ Beside b w w' := by
  have HF := hideB h
  clear h
  have hql := (quoT_len key).2
  have CQ := hideB (fun w => iQuo_any key w (by omega))
  have HE : Hid (keyJ x key = quoT key ++ 58 :: (if x = true then [32] else [])) := rfl
  obtain ⟨Q, hQ⟩ : ∃ Q, quoT key = Q := ⟨_, rfl⟩
  rw [hQ] at hql CQ HE
  clear hQ
  have hqs : (txt Q).size ≤ 362 := by rw [txt_size]; omega
  have HQ : Hid ((txt Q).data.toList = Q) := bytes_txt Q
  go_enter Tryz.func76, Tryz.ntmps76
  go_wp2_with fail
  go_region_law (first
    | (refine step_call1 (by rfl) 40 _ _ (by rfl) (.string key) (by rfl) (call_quo _) (CQ.out _) ?_; rintro e w1 ⟨rfl, b1⟩; have z1 : w.heap.size ≤ w1.heap.size := b1.size; refine ⟨_, rfl, ?_⟩)
    | (refine step_call2 (by rfl) 37 _ _ _ _ (by rfl) (.pointer (some ⟨b, 0, none⟩)) (.string (txt Q)) (by rfl) (by rfl) (call_wstr _ _) (fb_text hT (HF.out.drew.keep b1) (txt Q) (by omega) (by omega)) ?_; rintro e w2 ⟨rfl, f2, b2, k2⟩; have z2 := b2.size; refine ⟨_, rfl, ?_⟩))
  all_goals (
    rw [HQ.out] at f2
    have HF2 := hideB f2
    have HB2 := hideB (((Below.drew (Below.refl B w)).trans (b1.mono (show B ≤ w.drew.heap.size from hBw))).trans b2)
    have HK2 := hideB ((Beside.below (b := b) (w := w.drew) b1).trans k2)
    clear f2 b1 b2 k2
    go_wp2_with fail
    refine (fb_byte hT HF2.out 58 (by rw [List.length_append]; omega) (by omega)).mono ?_
    rintro e w3 ⟨rfl, f3, b3, k3⟩
    have c2 := f3.lines
    have z3 := b3.size
    have HF3 := hideB f3
    clear f3
    cases x
    · go_wp2_with fail
      go_end0
      exact ⟨rfl, by rw [HE.out]; simpa using HF3.out, HB2.out.trans b3, HK2.out.trans k3⟩
    · go_wp2_with fail
      refine (fb_byte hT HF3.out 32 (by simp; omega) (by omega)).mono ?_
      rintro e w4 ⟨rfl, f4, b4, k4⟩
      go_wp2_with fail
      go_end0
      exact ⟨rfl, by rw [HE.out]; simpa using f4, (HB2.out.trans b3).trans b4, (HK2.out.trans k3).trans k4⟩)
end Go.Proofs.YtagcgnhpdmhegaaGreatDoor
