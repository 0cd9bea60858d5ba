/-
  A strings.Builder as the first field of a struct (the writers): WriteByte, WriteString, String, in terms of the bytes written.
-/
import Derived.Test.YtokhindolimchaaGreatIHigh
import Derived.Lib.AppendStr
import Derived.Lib.FrozenHead
import Derived.Lib.UnsafeStr
import Derived.Shelf.RegionOpenPlain
import Derived.RangeFuncOwn
namespace Go.Proofs.YtokhindolimchaaGreat
open Go.RowKit Go.Shelf
set_option linter.unusedSimpArgs false
set_option linter.unusedVariables false

/-- A type whose first field is a builder, with 'n' cells behind it. -/
structure FT (T : TypeId) (n : Nat) : Prop where
  lies : liesAt Tryz.prog Tryz.prog.depth T ((n + 2) / Tryz.prog.cellsOf T) 0 59 1 = true
  ne : T ≠ 5
/-- In block 'b' lies such a struct, its builder (memory from block 'B' on) has written 'l'; 'rest': its other cells. -/
def FB (T : TypeId) (B b : Nat) (rest : List Value) (l : List UInt8) (w : World) : Prop :=
  B ≤ b ∧ ∃ p v, (p = .pointer none ∨ p = .pointer (some ⟨b, 0, none⟩)) ∧ w.heap[b]? = some (.cells (p :: v :: rest).toArray T (0, 0)) ∧ RowB B w v l ∧ v.ownBlock ≠ some b

theorem cellAt {w : World} {b i : Nat} {cs : Array Value} {T : TypeId} {z : Nat × Nat} {x : Value} (h : w.heap[b]? = some (.cells cs T z)) (hx : cs[i]? = some x) : w.cell? ⟨b, i, none⟩ = some x := by
  rw [Lib.cell_of_heap h]; exact hx
theorem lt_heap {w : World} {b : Nat} {o : Obj} (h : w.heap[b]? = some o) : b < w.heap.size := by
  rcases Nat.lt_or_ge b w.heap.size with h' | h'
  · exact h'
  · rw [Array.getElem?_eq_none h'] at h; cases h
theorem set_heap {w : World} {b i : Nat} {cs : Array Value} {T : TypeId} {z : Nat × Nat} (h : w.heap[b]? = some (.cells cs T z)) (u : Value) : (w.setCell ⟨b, i, none⟩ u).heap[b]? = some (.cells (cs.setIfInBounds i u) T z) := by
  simp [World.setCell, Array.getElem?_modify, h]
theorem row_other {B b i : Nat} {w : World} {v : Value} {l : List UInt8} (h : RowB B w v l) (hne : v.ownBlock ≠ some b) (u : Value) : RowB B (w.setCell ⟨b, i, none⟩ u) v l :=
  World.ownsRow.kept (row := some b) h ⟨rfl, rfl, rfl, by simp [World.setCell], fun k _ hk => Below.heap_setCell _ _ _ _ (fun e => hk (by simp [e]))⟩ (Or.inr hne)
theorem row_ne {B b : Nat} {w : World} {v : Value} {l : List UInt8} {cs : Array Value} {T : TypeId} {z : Nat × Nat} (h : RowB B w v l) (hb : w.heap[b]? = some (.cells cs T z)) (hT : T ≠ 5) : v.ownBlock ≠ some b := by
  rcases h.2 with ⟨hv, _⟩ | ⟨g, cap, cur, hv, _, hg, _⟩
  · rw [hv]; simp [Value.ownBlock]
  · rw [hv]
    intro e
    simp [Value.ownBlock] at e
    subst e
    rw [hg] at hb
    injection hb with hb
    injection hb with _ h2
    exact hT h2.symm

/-- No block but 'b' and rows of bytes has turned. -/
def Beside (b : Nat) (w w' : World) : Prop := w.heap.size ≤ w'.heap.size ∧ ∀ c, c < w.heap.size → c ≠ b → (∀ cs z, w.heap[c]? ≠ some (.cells cs 5 z)) → w'.heap[c]? = w.heap[c]?
theorem Beside.refl (b : Nat) (w : World) : Beside b w w := ⟨Nat.le_refl _, fun _ _ _ _ => rfl⟩
theorem Beside.trans {b : Nat} {x y z : World} (h : Beside b x y) (k : Beside b y z) : Beside b x z :=
  ⟨Nat.le_trans h.1 k.1, fun c h1 h2 h3 => (k.2 c (Nat.lt_of_lt_of_le h1 h.1) h2 (fun cs z e => h3 cs z ((h.2 c h1 h2 h3) ▸ e))).trans (h.2 c h1 h2 h3)⟩
theorem Beside.set (b i : Nat) (w : World) (u : Value) : Beside b w (w.setCell ⟨b, i, none⟩ u) := ⟨by simp, fun c _ h2 _ => Below.heap_setCell _ _ _ _ h2⟩
theorem Beside.alloc (b : Nat) (w : World) (o : Obj) : Beside b w (w.alloc o) := ⟨by simp, fun c h1 _ _ => Below.heap_alloc _ _ _ h1⟩
theorem Beside.grown {b B : Nat} {w w' : World} {v : Value} {l : List UInt8} (hr : RowB B w v l) (hg : w.grownBy w' v.ownBlock) : Beside b w w' := by
  refine ⟨hg.size, fun c h1 _ h3 => hg.block c h1 (fun e => ?_)⟩
  rcases hr.2 with ⟨hv, _⟩ | ⟨g, cap, cur, hv, _, hgg, _⟩
  · rw [hv] at e; simp [Value.ownBlock] at e
  · rw [hv] at e
    simp [Value.ownBlock] at e
    subst e
    exact h3 _ _ hgg
theorem Beside.below {b : Nat} {w w' : World} (h : Below w.heap.size w w') : Beside b w w' := ⟨h.size, fun c h1 _ _ => h.block c h1⟩

/-- The same, when it has been written to. -/
def FU (T : TypeId) (B b : Nat) (rest : List Value) (l : List UInt8) (w : World) : Prop :=
  B ≤ b ∧ ∃ v, w.heap[b]? = some (.cells (.pointer (some ⟨b, 0, none⟩) :: v :: rest).toArray T (0, 0)) ∧ RowB B w v l ∧ v.ownBlock ≠ some b
theorem FU.fb {T : TypeId} {B b : Nat} {rest : List Value} {l : List UInt8} {w : World} (h : FU T B b rest l w) : FB T B b rest l w := by
  obtain ⟨h1, v, h2, h3⟩ := h
  exact ⟨h1, _, v, .inr rfl, h2, h3⟩

theorem info_builder : ∃ j, Tryz.prog.info? 59 = some j ∧ j.size = 2 := Option.map_eq_some_iff.1 (show (Tryz.prog.info? 59).map (·.size) = some 2 by kernel_rfl)

set_option maxRecDepth 100000 in
set_option maxHeartbeats 1600000 in
theorem fb_check {T : TypeId} {B b : Nat} {rest : List Value} {l : List UInt8} {w : World} (hT : FT T rest.length) (h : FB T B b rest l w) :
    Calls Tryz.prog 95 #[.pointer (some ⟨b, 0, none⟩)] w fun e w' => e = .returned (.tuple #[]) ∧ FU T B b rest l w' ∧ Below B w w' ∧ Beside b w w' := by
  obtain ⟨hB, p, v, hp, hb, hrow, hne⟩ := h
  obtain ⟨j, hj, hjs⟩ := info_builder
  have h0 := cellAt hb (i := 0) (x := p) (by simp)
  have hsh : w.shape? b = some (T, rest.length + 2) := by simp [World.shape?, hb]
  have hf : w.frozen? ⟨b, 0, none⟩ = false := Lib.frozen_of_heap hb 0
  rcases hp with rfl | rfl
  · go_enter Tryz.func95, Tryz.ntmps95
    go_wp2
    rw [Lib.run_to_unsafe w ⟨b, 0, none⟩ Tryz.underlying57 Tryz.underlying155 hj (by rw [hjs]; decide) hsh (by simp)]
    simp only [Result.andThen]
    rw [Oper.upon_value]
    go_wp2
    rw [run_callFunc_extern Tryz.func112 (by kernel_rfl) (by kernel_rfl) (by kernel_rfl) (e := Extern.AbiNoEscape.same) (by kernel_rfl)]
    rw [Lib.run_noEscape]
    simp only [Result.andThen]
    rw [Oper.upon_value]
    go_wp2
    rw [Lib.run_from_unsafe w ⟨b, 0, none⟩ Tryz.underlying155 Tryz.underlying57 hj hsh hT.lies]
    simp only [Result.andThen]
    rw [Oper.upon_value]
    go_wp2
    go_end0
    refine ⟨rfl, ⟨hB, v, ?_, row_other hrow hne _, hne⟩, (Below.refl _ _).setCell hB _, Beside.set _ _ _ _⟩
    rw [set_heap hb]
    simp
  · go_enter Tryz.func95, Tryz.ntmps95
    go_wp2
    rw [Lib.run_neq_ptr_same w _ Tryz.underlying57 hj]
    go_wp2
    go_end0
    exact ⟨rfl, ⟨hB, v, hb, hrow, hne⟩, Below.refl _ _, Beside.refl _ _⟩
theorem call_check (v : Value) (w : World) : (callFunc 95 #[v]).run Tryz.prog w = .ok (.enter 95 #[v]) w := by kernel_rfl
theorem byteCellsApp (l m : List UInt8) : Lib.byteCells (l ++ m) = Lib.byteCells l ++ Lib.byteCells m := by simp [Lib.byteCells]
theorem strCellsB (s : ByteArray) : Lib.strCells s = Lib.byteCells s.data.toList := by simp [Lib.strCells, Lib.byteCells]

set_option maxRecDepth 100000 in
set_option maxHeartbeats 2000000 in
theorem fb_byte {T : TypeId} {B b : Nat} {rest : List Value} {l : List UInt8} {w : World} (hT : FT T rest.length) (h : FB T B b rest l w) (x : UInt8) (hlen : l.length + 1 ≤ 1000000000) (hBw : B ≤ w.heap.size) :
    Calls Tryz.prog 68 #[.pointer (some ⟨b, 0, none⟩), .int .u8 (x.toNat : Int)] w fun e w' => e = .returned .nilIface ∧ FB T B b rest (l ++ [x]) w' ∧ Below B w w' ∧ Beside b w w' := by
  go_enter Tryz.func68, Tryz.ntmps68
  go_wp2_with (go_at_call 95; refine (fb_check hT h).mono ?_)
  rintro e w1 ⟨rfl, ⟨hB, v, hb, hrow, hne⟩, hb1, hk1⟩
  have HK1 := hideB hk1
  clear hk1
  have c1 := cellAt hb (i := 1) (x := v) (by simp)
  have z1 := hb1.size
  obtain ⟨av, cv, ev⟩ := hrow.slice
  have HR := hideB hrow
  have HB := hideB hb
  have HNE := hideB hne
  have hlt := lt_heap hb
  obtain ⟨n, hn⟩ : ∃ n, l.length = n := ⟨_, rfl⟩
  have HN := hideB hn
  rw [hn] at ev hlen
  subst ev
  clear hb hrow hne hn
  obtain ⟨i0, hi0, hz0, hs0, hy0⟩ := info_three info_byte
  go_wp2_with (at_builtin; refine wpList_append_own _ rfl _ _ 22 rfl B 5 i0 (.int .u8 0) 1 1 Tryz.underlying22 hi0 hz0 hs0 hy0 rfl (by decide) _ _ _ rfl (HR.out.alloc _) ⟨w1.heap.size, 0, none⟩ 1 1 [.int .u8 (x.toNat : Int)] rfl rfl (byte_new w1 x) ?c1 ?c2 ?c3 ?c4 ?_)
  case c1 => intro u hu; simp at hu; subst hu; rfl
  case c2 => rw [HN.out]; unfold maxLen; omega
  case c3 => rw [HN.out]; omega
  case c4 => simp; omega
  intro v' w2 hown hgrow _
  obtain ⟨av2, cv2, ev2⟩ : ∃ a c, v' = .slice a (l.length + 1) c := by
    rcases hown.2 with ⟨_, h0⟩ | ⟨g, cap, cur, hv, _⟩
    · omega
    · exact ⟨_, _, hv⟩
  have hr2 := row_end (by omega) HR.out hown hgrow
  have HK2 := hideB (((HK1.out.trans (Beside.alloc _ _ _)).trans (Beside.grown (HR.out.alloc _) hgrow)).trans (Beside.set b 1 _ v'))
  have hb2 : w2.heap[b]? = some (.cells (.pointer (some ⟨b, 0, none⟩) :: .slice av n cv :: rest).toArray T (0, 0)) := by
    rw [hgrow.block b (by simp; omega) (fun e => HNE.out e.symm), Below.heap_alloc _ _ _ hlt]
    exact HB.out
  have hne2 := row_ne hr2.1 hb2 hT.ne
  have d1 := cellAt hb2 (i := 1) (x := .slice av n cv) (by simp)
  have f1 : w2.frozen? ⟨b, 1, none⟩ = false := Lib.frozen_of_heap hb2 1
  rw [HN.out] at ev2
  subst ev2
  have HR2 := hideB hr2.1
  have HBL := hideB ((hb1.trans (hr2.2)).setCell (p := ⟨b, 1, none⟩) hB (.slice av2 (n + 1) cv2))
  have HB2 := hideB hb2
  have HNE2 := hideB hne2
  clear hown hgrow hr2 hb2 hne2
  go_wp2
  go_ret
  refine ⟨rfl, ⟨hB, _, _, .inr rfl, ?_, row_other HR2.out HNE2.out _, HNE2.out⟩, HBL.out, HK2.out⟩
  rw [set_heap HB2.out]
  simp

set_option maxRecDepth 100000 in
set_option maxHeartbeats 2000000 in
theorem fb_text {T : TypeId} {B b : Nat} {rest : List Value} {l : List UInt8} {w : World} (hT : FT T rest.length) (h : FB T B b rest l w) (s : ByteArray) (hlen : l.length + s.size ≤ 1000000000) (hBw : B ≤ w.heap.size) :
    Calls Tryz.prog 96 #[.pointer (some ⟨b, 0, none⟩), .string s] w fun e w' => e = .returned (.tuple #[.int .i64 s.size, .nilIface]) ∧ FB T B b rest (l ++ s.data.toList) w' ∧ Below B w w' ∧ Beside b w w' := by
  go_enter Tryz.func96, Tryz.ntmps96
  go_wp2_with (go_at_call 95; refine (fb_check hT h).mono ?_)
  rintro e w1 ⟨rfl, ⟨hB, v, hb, hrow, hne⟩, hb1, hk1⟩
  have HK1 := hideB hk1
  clear hk1
  have c1 := cellAt hb (i := 1) (x := v) (by simp)
  have z1 := hb1.size
  obtain ⟨av, cv, ev⟩ := hrow.slice
  have HR := hideB hrow
  have HB := hideB hb
  have HNE := hideB hne
  have hlt := lt_heap hb
  obtain ⟨n, hn⟩ : ∃ n, l.length = n := ⟨_, rfl⟩
  have HN := hideB hn
  rw [hn] at ev hlen
  subst ev
  clear hb hrow hne hn
  obtain ⟨i0, hi0, hz0, hs0, hy0⟩ := info_three info_byte
  go_wp2_with (at_builtin; refine Lib.wpList_append_own_string _ rfl _ _ 22 9 rfl B 5 i0 Tryz.underlying22 Tryz.underlying9 hi0 hz0 hs0 hy0 _ _ _ rfl HR.out s rfl ?c2 ?c3 ?c4 ?_)
  case c2 => rw [HN.out]; unfold maxLen; omega
  case c3 => rw [HN.out]; omega
  case c4 => omega
  intro v' w2 hown hgrow _
  obtain ⟨av2, cv2, m2, ev2⟩ : ∃ a c m, v' = .slice a m c := by
    rcases hown.2 with ⟨hv, h0⟩ | ⟨g, cap, cur, hv, _⟩
    · exact ⟨_, _, _, hv⟩
    · exact ⟨_, _, _, hv⟩
  have hr2 : RowB B w2 v' (l ++ s.data.toList) := by
    unfold RowB
    rw [byteCellsApp, ← strCellsB, List.length_append, len_is]
    exact hown
  have HK2 := hideB ((HK1.out.trans (Beside.grown HR.out hgrow)).trans (Beside.set b 1 _ v'))
  have hbl : Below B w1 w2 := (Below.refl _ _).grown hgrow (by omega) (fun k hk => (HR.out.lt k hk).1)
  have hb2 : w2.heap[b]? = some (.cells (.pointer (some ⟨b, 0, none⟩) :: .slice av n cv :: rest).toArray T (0, 0)) := by
    rw [hgrow.block b hlt (fun e => HNE.out e.symm)]
    exact HB.out
  have hne2 := row_ne hr2 hb2 hT.ne
  have d1 := cellAt hb2 (i := 1) (x := .slice av n cv) (by simp)
  have f1 : w2.frozen? ⟨b, 1, none⟩ = false := Lib.frozen_of_heap hb2 1
  subst ev2
  have HR2 := hideB hr2
  have HBL := hideB ((hb1.trans hbl).setCell (p := ⟨b, 1, none⟩) hB (.slice av2 m2 cv2))
  have HB2 := hideB hb2
  have HNE2 := hideB hne2
  clear hown hgrow hr2 hb2 hne2 hbl
  go_wp2
  go_ret2
  refine ⟨rfl, ⟨hB, _, _, .inr rfl, ?_, row_other HR2.out HNE2.out _, HNE2.out⟩, HBL.out, HK2.out⟩
  rw [set_heap HB2.out]
  simp

theorem cells_byte : Tryz.prog.cellsOf 5 = 1 := by kernel_rfl
set_option maxRecDepth 100000 in
set_option maxHeartbeats 2000000 in
theorem fb_string {T : TypeId} {B b : Nat} {rest : List Value} {l : List UInt8} {w : World} (h : FB T B b rest l w) (hl0 : l ≠ []) :
    Calls Tryz.prog 34 #[.pointer (some ⟨b, 0, none⟩)] w fun e w' => e = .returned (.string (txt l)) ∧ Below B w w' := by
  obtain ⟨hB, p, v, hp, hb, hrow, hne⟩ := h
  have hl : l.length ≠ 0 := by simpa using hl0
  have mixed : Tryz.prog.follows .mixedOrders = true := by kernel_rfl
  obtain ⟨g, cap, cur, rfl, hbg, hg, hnc, hcm, hcs, htake⟩ : ∃ g cap cur, v = .slice (some ⟨g, 0, none⟩) l.length cap ∧ B ≤ g ∧ w.heap[g]? = some (.cells cur 5 (0, 0)) ∧ l.length ≤ cap ∧ cap ≤ maxLen ∧ cur.size = cap * 1 ∧ cur.toList.take (l.length * 1) = Lib.byteCells l := by
    rcases hrow.2 with ⟨_, hz⟩ | ⟨g, cap, cur, hv, r⟩
    · exact absurd hz hl
    · exact ⟨g, cap, cur, hv, r⟩
  have hb' : w.drew.heap[b]? = some (.cells (p :: .slice (some ⟨g, 0, none⟩) l.length cap :: rest).toArray T (0, 0)) := hb
  have hg' : w.drew.heap[g]? = some (.cells cur 5 (0, 0)) := hg
  have c1 : w.drew.cell? ⟨b, 1, none⟩ = some (.slice (some ⟨g, 0, none⟩) l.length cap) := cellAt hb' (by simp)
  have hSD : (Builtin.unsafeSliceData_ #[22] 120 #[.slice (some ⟨g, 0, none⟩) l.length cap]).run Tryz.prog w.drew = .ok (.pointer (some ⟨g, 0, none⟩)) w.drew :=
    Lib.run_unsafeSliceData_row _ _ _ _ _ _ (by omega)
  have hUS : (Builtin.unsafeString_ #[120, 3] 9 #[.pointer (some ⟨g, 0, none⟩), .int .i64 l.length]).run Tryz.prog w.drew = .ok (.string ⟨l.toArray⟩) (w.drew.freeze ⟨g, 0, none⟩ l.length) := by
    refine Lib.run_unsafeString_row w.drew 120 3 9 5 Tryz.underlying120 cells_byte g cur.size (by simp [World.shape?, hg']) l hl0 (by omega) (by unfold maxLen at hcm; omega) ?_
    intro j x hx
    exact hrow.cells (g := g) rfl j (.int .u8 x.toNat) (by simp [Lib.byteCells, hx])
  have HE := hideB (show Below B w (w.drew.freeze ⟨g, 0, none⟩ l.length) from Lib.below_freeze (Below.drew (Below.refl B w)) (p := ⟨g, 0, none⟩) hbg _)
  clear hrow htake hcs hcm hb' hg'
  go_enter Tryz.func34, Tryz.ntmps34
  go_wp2
  go_region_o
  all_goals (go_wp2; go_ret; exact ⟨rfl, HE.out⟩)
end Go.Proofs.YtokhindolimchaaGreat

/-
  A builder in a struct, kept while other memory is made.
-/
namespace Go.Proofs.YtokhindolimchaaGreat
open Go.RowKit Go.Shelf
set_option linter.unusedSimpArgs false
set_option linter.unusedVariables false

theorem FB.grown {T : TypeId} {B b : Nat} {rest : List Value} {l : List UInt8} {X Y : World} {row : Option Nat} (h : FB T B b rest l X) (hg : X.grownBy Y row) (hr : ∀ r, row = some r → ∃ o : Obj, X.heap[r]? = some o ∧ o.isCells = false) : FB T B b rest l Y := by
  obtain ⟨hB, p, v, hp, hb, hrow, hne⟩ := h
  refine ⟨hB, p, v, hp, (grownBy_keeps_cells hg hr hb rfl).trans hb, ⟨hrow.1, ?_⟩, hne⟩
  rcases hrow.2 with h0 | ⟨g, cap, cur, hv, h1, h2, h3⟩
  · exact .inl h0
  · exact .inr ⟨g, cap, cur, hv, h1, (grownBy_keeps_cells hg hr h2 rfl).trans h2, h3⟩
theorem FB.lt {T : TypeId} {B b : Nat} {rest : List Value} {l : List UInt8} {w : World} (h : FB T B b rest l w) : b < w.heap.size := by
  obtain ⟨hB, p, v, hp, hb, _⟩ := h
  exact lt_heap hb
theorem FB.drew {T : TypeId} {B b : Nat} {rest : List Value} {l : List UInt8} {X : World} (h : FB T B b rest l X) : FB T B b rest l X.drew := h
theorem FB.alloc {T : TypeId} {B b : Nat} {rest : List Value} {l : List UInt8} {X : World} (h : FB T B b rest l X) (o : Obj) : FB T B b rest l (X.alloc o) := h.grown (World.grownBy_alloc X o none) (fun r e => by cases e)

theorem FB.keep {T : TypeId} {B b : Nat} {rest : List Value} {l : List UInt8} {X Y : World} (h : FB T B b rest l X) (hk : Below X.heap.size X Y) : FB T B b rest l Y := by
  obtain ⟨hB, p, v, hp, hb, hrow, hne⟩ := h
  refine ⟨hB, p, v, hp, (hk.block b (lt_heap hb)).trans hb, ⟨hrow.1, ?_⟩, hne⟩
  rcases hrow.2 with h0 | ⟨g, cap, cur, hv, h1, h2, h3⟩
  · exact .inl h0
  · exact .inr ⟨g, cap, cur, hv, h1, (hk.block g (lt_heap h2)).trans h2, h3⟩
theorem call_wbyte (u v : Value) : ∀ w, (callFunc 68 #[u, v]).run Tryz.prog w = .ok (.enter 68 #[u, v]) w := fun w => by kernel_rfl
end Go.Proofs.YtokhindolimchaaGreat

/-
  The program's writeBytes: a number's bytes, by a range over a function.
-/
namespace Go.Proofs.YtokhindolimchaaGreat
open Go.RowKit Go.Shelf
set_option linter.unusedSimpArgs false
set_option linter.unusedVariables false

attribute [local go_sem] Oper.semAt_some

theorem Beside.others {T : TypeId} {B b : Nat} {rest : List Value} {l : List UInt8} {w w' : World} (h : Beside b w w') (hf : FB T B b rest l w) : KeepsOthers w w' := by
  obtain ⟨hB, p, v, hp, hb, _⟩ := hf
  refine ⟨h.1, fun k o hk ho => ?_⟩
  rw [h.2 k (lt_heap hk) (fun e => by subst e; rw [hb] at hk; cases hk; cases ho) (fun cs z e => by rw [hk] at e; cases e; cases ho)]
  exact hk
theorem Beside.box {b c : Nat} {w w' : World} {t : TypeId} {v : Value} (h : Beside b w w') (hc : Boxed w c t v) (hne : c ≠ b) (ht : t ≠ 5) : Boxed w' c t v := by
  have hh : w.heap[c]? = some (.cells #[v] t (0, 0)) := hc
  have := h.2 c (lt_heap hh) hne (fun cs z e => by rw [hh] at e; injection e with e; injection e with _ e2; exact ht e2)
  exact this.trans hh
theorem Beside.far {b : Nat} {w X Y : World} {row : Option Nat} (h : Beside b w X) (hg : X.grownBy Y row) (hr : ∀ r, row = some r → w.heap.size ≤ r) : Beside b w Y :=
  ⟨Nat.le_trans h.1 hg.size, fun c h1 h2 h3 => (hg.block c (Nat.lt_of_lt_of_le h1 h.1) (fun e => by have := hr c e.symm; omega)).trans (h.2 c h1 h2 h3)⟩
set_option maxRecDepth 100000 in
set_option maxHeartbeats 4000000 in
theorem writeBytes_any {B b : Nat} {l : List UInt8} {w : World} (hT : FT 68 0) (h : FB 68 B b [] l w) (n : Int) (m : Nat) (hm : m ≤ 8) (h0n : 0 ≤ n) (h1n : n ≤ 18446744073709551615) (hlen : l.length + m ≤ 1000000000) (hBw : B ≤ w.heap.size) :
    Calls Tryz.prog 104 #[.pointer (some ⟨b, 0, none⟩), .int .u64 n, .int .i64 m] w fun e w' => e = .returned (.tuple #[]) ∧ FB 68 B b [] (l ++ bigB n m) w' ∧ Below B w w' ∧ Beside b w w' := by
  refine (callsIn_wide (n := 6)).1 ?_
  refine callsIn_of_wp_marks Tryz.func104 rfl trivial ?_ rfl
  simp only [Tryz.ntmps104, List.size_toArray, List.length_cons, List.length_nil, Nat.reduceAdd, Nat.reduceSub, Array.replicate_succ, Array.replicate_zero, List.push_toArray, List.append_toArray, List.nil_append, List.cons_append]
  gi_wp2_with (refine ⟨trivial, ?_⟩; gi_at_call 115; refine (high_in Fence.wide _ trivial rfl _ _ _).mono ?_; rintro e w' ⟨rfl, rfl⟩)
  have hlt := h.lt
  have F0 : FB 68 B b [] (l ++ []) (((w.alloc (.cells #[.pointer (some ⟨b, 0, none⟩)] 126)).alloc (.cells #[.int .u64 n] 136)).alloc (.cells #[.int .i64 m] 3)) := by rw [List.append_nil]; exact ((h.alloc _).alloc _).alloc _
  have x1 : Boxed (((w.alloc (.cells #[.pointer (some ⟨b, 0, none⟩)] 126)).alloc (.cells #[.int .u64 n] 136)).alloc (.cells #[.int .i64 m] 3)) w.heap.size 126 (.pointer (some ⟨b, 0, none⟩)) := ((Boxed.new w _ _).alloc _).alloc _
  have x2 : Boxed (((w.alloc (.cells #[.pointer (some ⟨b, 0, none⟩)] 126)).alloc (.cells #[.int .u64 n] 136)).alloc (.cells #[.int .i64 m] 3)) (w.heap.size + 1) 136 (.int .u64 n) := by
    have := (Boxed.new (w.alloc (.cells #[.pointer (some ⟨b, 0, none⟩)] 126)) 136 (.int .u64 n)).alloc (.cells #[.int .i64 m] 3)
    rw [World.size_alloc] at this
    exact this
  have x3 : Boxed (((w.alloc (.cells #[.pointer (some ⟨b, 0, none⟩)] 126)).alloc (.cells #[.int .u64 n] 136)).alloc (.cells #[.int .i64 m] 3)) (w.heap.size + 1 + 1) 3 (.int .i64 m) := by
    have := Boxed.new ((w.alloc (.cells #[.pointer (some ⟨b, 0, none⟩)] 126)).alloc (.cells #[.int .u64 n] 136)) 3 (.int .i64 m)
    rw [World.size_alloc, World.size_alloc] at this
    exact this
  have B0 : Below B w (((w.alloc (.cells #[.pointer (some ⟨b, 0, none⟩)] 126)).alloc (.cells #[.int .u64 n] 136)).alloc (.cells #[.int .i64 m] 3)) := (((Below.refl _ w).alloc hBw _).alloc (by simp; omega) _).alloc (by simp; omega) _
  have K0 : Beside b w (((w.alloc (.cells #[.pointer (some ⟨b, 0, none⟩)] 126)).alloc (.cells #[.int .u64 n] 136)).alloc (.cells #[.int .i64 m] 3)) := ((Beside.alloc _ _ _).trans (Beside.alloc _ _ _)).trans (Beside.alloc _ _ _)
  have sE : (((w.alloc (.cells #[.pointer (some ⟨b, 0, none⟩)] 126)).alloc (.cells #[.int .u64 n] 136)).alloc (.cells #[.int .i64 m] 3)).heap.size = w.heap.size + 1 + 1 + 1 := by simp
  generalize (((w.alloc (.cells #[.pointer (some ⟨b, 0, none⟩)] 126)).alloc (.cells #[.int .u64 n] 136)).alloc (.cells #[.int .i64 m] 3)) = W2 at *
  refine wpIn_rangeFunc_ownG (F := Fence.wide) (n := 6) rfl (by decide) (gf := 120) (lb := #[.pointer (some ⟨w.heap.size + 1 + 1, 0, none⟩), .pointer (some ⟨w.heap.size + 1, 0, none⟩)]) rfl trivial (enters_of Tryz.func120 (by kernel_rfl) rfl)
    (high_stops Fence.wide (6 - 1) trivial rfl (by decide) (w.heap.size + 1 + 1) (w.heap.size + 1) n m hm h0n h1n W2 (by omega) (by omega) x3.cell x2.cell) KpH.trans ?hKb (Below.refl _ _) (fun _ => rfl)
    (fun pre W => (FB 68 B b [] (l ++ pre) W ∧ Boxed W w.heap.size 126 (.pointer (some ⟨b, 0, none⟩)) ∧ Boxed W (w.heap.size + 1) 136 (.int .u64 n) ∧ Boxed W (w.heap.size + 1 + 1) 3 (.int .i64 m)) ∧ (Below B w W ∧ Beside b w W))
    (fun _ _ _ => False) ?hI (fun _ _ _ _ _ hs _ _ => hs) ⟨⟨F0, x1, x2, x3⟩, B0, K0⟩
    (fun x => { tmps := #[.pointer (some ⟨b, 0, none⟩), .int .u64 n, .int .i64 m, .pointer (some ⟨w.heap.size, 0, none⟩), undef, undef, .int .u8 (x.toNat : Int), .int .u64 n, .int .i64 m, .func (.func 120) #[] #[.pointer (some ⟨w.heap.size + 1 + 1, 0, none⟩), .pointer (some ⟨w.heap.size + 1, 0, none⟩)], .int .u8 (x.toNat : Int), undef, undef, undef, undef, undef], defers := [] }) ?assign ?body ?done ?stop
  case hKb =>
    intro X k o o' hk ho _ _
    constructor
    · unfold World.cell?
      rw [show (X.putObj k o').heap[(⟨w.heap.size + 1 + 1, 0, none⟩ : Addr).block]? = X.heap[(⟨w.heap.size + 1 + 1, 0, none⟩ : Addr).block]? from World.putObj_heap_other (by simp; omega)]
    · unfold World.cell?
      rw [show (X.putObj k o').heap[(⟨w.heap.size + 1, 0, none⟩ : Addr).block]? = X.heap[(⟨w.heap.size + 1, 0, none⟩ : Addr).block]? from World.putObj_heap_other (by simp; omega)]
  case hI =>
    refine OwnFrom.and (Own.from ?_ _) (OwnFrom.and (ownFrom_below hBw (by omega)) (fun _ X Y row hs hg hr => hs.far hg (fun r e => by have := (hr r e).1; omega)))
    rintro s X Y row ⟨h1, h2, h3, h4⟩ hg hr
    exact ⟨h1.grown hg hr, boxed_own _ _ (fun _ => _) s X Y row h2 hg hr, boxed_own _ _ (fun _ => _) s X Y row h3 hg hr, boxed_own _ _ (fun _ => _) s X Y row h4 hg hr⟩
  case assign =>
    intro k x X K' hK'
    unfold encB
    gi_wp2
    exact hK'
  case body =>
    rintro k pre x X ⟨⟨h1, h2, h3, h4⟩, h5, h6⟩ hpl
    have c2 := h2.cell
    have zX := h5.size
    gi_wp2_with (refine ⟨trivial, ?_⟩; gi_at_call 68; refine (CallsIn.inRound k (callsIn_wide.2 (fb_byte hT h1 x (by simp; omega) (by omega)))).mono ?_; rintro e w3 ⟨rfl, f3, b3, k3⟩)
    have y2 := k3.box h2 (by omega) (by decide)
    have y3 := k3.box h3 (by omega) (by decide)
    have y4 := k3.box h4 (by omega) (by decide)
    exact ⟨(k3.others h1).from _, ⟨y4.cell.trans h4.cell.symm, y3.cell.trans h3.cell.symm⟩, ⟨by rw [← List.append_assoc]; exact f3, y2, y3, y4⟩, h5.trans b3, h6.trans k3⟩
  case done =>
    rintro D ys X hD rfl ⟨⟨h1, h2, h3, h4⟩, h5, h6⟩ hK
    gi_wp2
    refine ⟨by simp, .inl ⟨_, _, rfl, run_takeDeferred hK, ?_⟩⟩
    exact ⟨_, results_none rfl _ _ _, rfl, h1.grown (grownBy_putObj' X D (.deferred none)) (fun r e => by cases e; exact ⟨_, hK, rfl⟩), h5.grown (grownBy_putObj' X D (.deferred none)) (Nat.le_trans hBw h5.size) (fun r e => by cases e; omega), h6.far (grownBy_putObj' X D (.deferred none)) (fun r e => by cases e; omega)⟩
  case stop =>
    rintro D c pre X _ _ h _
    exact h.elim
end Go.Proofs.YtokhindolimchaaGreat

/-
  The specification's l4Int and l4Word: numbers and texts.
-/
namespace Go.Proofs.YtokhindolimchaaGreat
open Go.RowKit Go.WideShapes
set_option linter.unusedSimpArgs false
set_option linter.unusedVariables false

theorem one_byteT (x : UInt8) (w : World) : (convert 22 9 (.slice (some ⟨w.heap.size, 0, none⟩) 1 1)).run Tryz.prog (w.alloc (.cells #[.int .u8 (x.toNat : Int)] 5)) = .ok (.string (txt [x])) (w.alloc (.cells #[.int .u8 (x.toNat : Int)] 5)) := by
  have := run_convert_bytes_back (P := Tryz.prog) (w.alloc (.cells #[.int .u8 (x.toNat : Int)] 5)) 22 9 5 ⟨w.heap.size, 0, none⟩ 1 [x] Tryz.underlying22 Tryz.underlying5 Tryz.underlying9 (fun j hj => by
    obtain rfl : j = 0 := by simpa using hj
    rw [add_plain, Nat.zero_add]
    simp)
  exact this
theorem one_int {n : Int} (h0 : 0 ≤ n) (h1 : n < 256) (w : World) : (convert 22 9 (.slice (some ⟨w.heap.size, 0, none⟩) 1 1)).run Tryz.prog (w.alloc (.cells #[.int .u8 n] 5)) = .ok (.string (txt [byI n])) (w.alloc (.cells #[.int .u8 n] 5)) := by
  have := one_byteT (byI n) w
  rw [byI_int, Int.emod_eq_of_lt h0 h1] at this
  exact this
theorem one_int1 {n : Int} (h0 : 0 ≤ n) (h1 : n < 256) (w : World) (A : Obj) : (convert 22 9 (.slice (some ⟨w.heap.size + 1, 0, none⟩) 1 1)).run Tryz.prog ((w.alloc A).alloc (.cells #[.int .u8 n] 5)) = .ok (.string (txt [byI n])) ((w.alloc A).alloc (.cells #[.int .u8 n] 5)) := by
  have := one_int h0 h1 (w.alloc A)
  rw [World.size_alloc] at this
  exact this
theorem txt_pre (x : UInt8) (l : List UInt8) : (⟨#[x]⟩ : ByteArray) ++ txt l = txt (x :: l) := txt_app [x] l
theorem packI_alone {n : Int} (h : -32 ≤ n ∧ n ≤ 127) : packI n = [byI n] := by unfold packI; rw [if_pos h]
theorem packI_up {n : Int} (h : 127 < n) {k : Nat} (hk : stepI n = k) {c : UInt8} (hc : c = byI (204 + k)) : packI n = c :: bigB n (2 ^ k) := by
  unfold packI; rw [if_neg (by omega), if_pos (by omega), hk, hc]
theorem packI_dn {n : Int} (h : n < -32) {k : Nat} (hk : stepI (2 * (-1 - n)) = k) {c : UInt8} (hc : c = byI (208 + k)) : packI n = c :: bigB n (2 ^ k) := by
  unfold packI; rw [if_neg (by omega), if_neg (by omega), hk, hc]
theorem step0 {m : Int} (h : m < 256) : stepI m = 0 := by unfold stepI; rw [if_pos h]
theorem step1 {m : Int} (h0 : ¬ m < 256) (h : m < 65536) : stepI m = 1 := by unfold stepI; rw [if_neg h0, if_pos h]
theorem step2 {m : Int} (h0 : ¬ m < 65536) (h : m < 4294967296) : stepI m = 2 := by unfold stepI; rw [if_neg (by omega), if_neg h0, if_pos h]
theorem step3 {m : Int} (h : ¬ m < 4294967296) : stepI m = 3 := by unfold stepI; rw [if_neg (by omega), if_neg (by omega), if_neg h]

set_option maxRecDepth 100000 in
set_option maxHeartbeats 3200000 in
theorem l4Int_any (n : Int) (w : World) (h0 : -9223372036854775808 ≤ n) (h1 : n ≤ 9223372036854775807) : Calls Tryz.prog 105 #[.int .i64 n] w fun e w' => e = .returned (.string (txt (packI n))) ∧ Below w.heap.size w w' := by
  have hc := one_byteT
  have hby : n % 256 = ((byI n).toNat : Int) := (byI_int n).symm
  have hz : ∀ (m : Nat), (txt (bigB n m)).size = m := fun m => by rw [txt_size, bigB_len]
  by_cases a1 : 0 ≤ n
  · by_cases a2 : n < 128
    · have HE := hideB (packI_alone (n := n) (by omega))
      have hc1 := one_int (n := n) a1 (by omega)
      go_enter Tryz.func105, Tryz.ntmps105
      go_wp2_with fail
      go_ret
      exact ⟨by rw [HE.out]; rfl, (Below.refl _ _).alloc (Nat.le_refl _) _⟩
    have a2' : ¬ n < 0 := by omega
    by_cases a3 : n < 256
    · have HE := hideB (packI_up (n := n) (by omega) (step0 (by omega)) (c := 204) rfl)
      go_enter Tryz.func105, Tryz.ntmps105
      go_wp2_with (go_at_call 107; refine (l3Big_any n 1 _ h0 h1 (by omega)).mono ?_; rintro e w1 ⟨rfl, hb1⟩)
      go_ret
      exact ⟨by rw [HE.out]; exact ret_str (txt_pre _ _), hb1⟩
    by_cases a4 : n < 65536
    · have HE := hideB (packI_up (n := n) (by omega) (step1 (by omega) (by omega)) (c := 205) rfl)
      go_enter Tryz.func105, Tryz.ntmps105
      go_wp2_with (go_at_call 107; refine (l3Big_any n 2 _ h0 h1 (by omega)).mono ?_; rintro e w1 ⟨rfl, hb1⟩)
      go_ret
      exact ⟨by rw [HE.out]; exact ret_str (txt_pre _ _), hb1⟩
    by_cases a5 : n < 4294967296
    · have HE := hideB (packI_up (n := n) (by omega) (step2 (by omega) (by omega)) (c := 206) rfl)
      go_enter Tryz.func105, Tryz.ntmps105
      go_wp2_with (go_at_call 107; refine (l3Big_any n 4 _ h0 h1 (by omega)).mono ?_; rintro e w1 ⟨rfl, hb1⟩)
      go_ret
      exact ⟨by rw [HE.out]; exact ret_str (txt_pre _ _), hb1⟩
    · have HE := hideB (packI_up (n := n) (by omega) (step3 (by omega)) (c := 207) rfl)
      go_enter Tryz.func105, Tryz.ntmps105
      go_wp2_with (go_at_call 107; refine (l3Big_any n 8 _ h0 h1 (by omega)).mono ?_; rintro e w1 ⟨rfl, hb1⟩)
      go_ret
      exact ⟨by rw [HE.out]; exact ret_str (txt_pre _ _), hb1⟩
  · have a1' : n < 0 := by omega
    by_cases a2 : -32 ≤ n
    · have HE := hideB (packI_alone (n := n) (by omega))
      go_enter Tryz.func105, Tryz.ntmps105
      go_wp2_with fail
      go_ret
      exact ⟨by rw [HE.out]; rfl, (Below.refl _ _).alloc (Nat.le_refl _) _⟩
    by_cases a3 : -128 ≤ n
    · have HE := hideB (packI_dn (n := n) (by omega) (step0 (by omega)) (c := 208) rfl)
      go_enter Tryz.func105, Tryz.ntmps105
      go_wp2_with (go_at_call 107; refine (l3Big_any n 1 _ h0 h1 (by omega)).mono ?_; rintro e w1 ⟨rfl, hb1⟩)
      go_ret
      exact ⟨by rw [HE.out]; exact ret_str (txt_pre _ _), hb1⟩
    by_cases a4 : -32768 ≤ n
    · have HE := hideB (packI_dn (n := n) (by omega) (step1 (by omega) (by omega)) (c := 209) rfl)
      go_enter Tryz.func105, Tryz.ntmps105
      go_wp2_with (go_at_call 107; refine (l3Big_any n 2 _ h0 h1 (by omega)).mono ?_; rintro e w1 ⟨rfl, hb1⟩)
      go_ret
      exact ⟨by rw [HE.out]; exact ret_str (txt_pre _ _), hb1⟩
    by_cases a5 : -2147483648 ≤ n
    · have HE := hideB (packI_dn (n := n) (by omega) (step2 (by omega) (by omega)) (c := 210) rfl)
      go_enter Tryz.func105, Tryz.ntmps105
      go_wp2_with (go_at_call 107; refine (l3Big_any n 4 _ h0 h1 (by omega)).mono ?_; rintro e w1 ⟨rfl, hb1⟩)
      go_ret
      exact ⟨by rw [HE.out]; exact ret_str (txt_pre _ _), hb1⟩
    · have HE := hideB (packI_dn (n := n) (by omega) (step3 (by omega)) (c := 211) rfl)
      go_enter Tryz.func105, Tryz.ntmps105
      go_wp2_with (go_at_call 107; refine (l3Big_any n 8 _ h0 h1 (by omega)).mono ?_; rintro e w1 ⟨rfl, hb1⟩)
      go_ret
      exact ⟨by rw [HE.out]; exact ret_str (txt_pre _ _), hb1⟩

set_option maxRecDepth 100000 in
set_option maxHeartbeats 3200000 in
theorem l4Word_any (s : ByteArray) (w : World) (hs : s.size ≤ 1000000) : Calls Tryz.prog 106 #[.string s] w fun e w' => e = .returned (.string (txt (packW s))) ∧ Below w.heap.size w w' := by
  have hc := one_byteT
  have hz1 : ∀ x, (txt [x]).size = 1 := fun x => txt_size [x]
  by_cases a : s.size < 32
  · have a' : (s.size : Int) < 32 := by omega
    have hc1 := one_int (n := 160 + (s.size : Int)) (by omega) (by omega)
    have HE := hideB (show packW s = byI (160 + s.size) :: s.data.toList by unfold packW; rw [if_pos a])
    go_enter Tryz.func106, Tryz.ntmps106
    go_wp2_with fail
    go_ret
    exact ⟨by rw [HE.out]; exact ret_str (app_txt _ _), (Below.refl _ _).alloc (Nat.le_refl _) _⟩
  · have a' : ¬ (s.size : Int) < 32 := by omega
    have HE := hideB (show packW s = 217 :: (bigB s.size 1 ++ s.data.toList) by unfold packW; rw [if_neg a])
    have hz : (txt (bigB (s.size : Int) 1)).size = 1 := by rw [txt_size, bigB_len]
    go_enter Tryz.func106, Tryz.ntmps106
    go_wp2_with (go_at_call 107; refine (l3Big_any _ 1 _ (by omega) (by omega) (by omega)).mono ?_; rintro e w1 ⟨rfl, hb1⟩)
    go_ret
    exact ⟨by rw [HE.out]; exact ret_str (by rw [txt_pre, app_txt]; rfl), hb1⟩
end Go.Proofs.YtokhindolimchaaGreat
