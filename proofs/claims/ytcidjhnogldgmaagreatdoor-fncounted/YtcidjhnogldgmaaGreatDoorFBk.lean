import Derived.Test.YtcidjhnogldgmaaGreatDoorRowB
import Derived.Lib.AppendStr
import Derived.Lib.FrozenHead
import Derived.Lib.UnsafeStr
import Derived.Shelf.RegionOpenPlain
import Derived.RangeFuncOwn
namespace Go.Proofs.YtcidjhnogldgmaaGreatDoor
open Go.RowKit Go.Shelf
set_option linter.unusedSimpArgs false
set_option linter.unusedVariables false
structure FT (T : TypeId) (n : Nat) : Prop where
  lies : liesAt Tryz.prog Tryz.prog.depth T ((n + 2) / Tryz.prog.cellsOf T) 0 215 1 = true
  ne : T ≠ 5
def FB (T : TypeId) (B b : Nat) (rest : List Value) (l : List UInt8) (w : World) : Prop :=
  B ≤ b ∧ ∃ p v, (p = .pointer none ∨ p = .pointer (some ⟨b, 0, none⟩)) ∧ w.heap[b]? = some (.cells (p :: v :: rest).toArray T (0, 0)) ∧ RowB B w v l ∧ v.ownBlock ≠ some b
theorem cellAt {w : World} {b i : Nat} {cs : Array Value} {T : TypeId} {z : Nat × Nat} {x : Value} (h : w.heap[b]? = some (.cells cs T z)) (hx : cs[i]? = some x) : w.cell? ⟨b, i, none⟩ = some x := by
  rw [Lib.cell_of_heap h]; exact hx
theorem lt_heap {w : World} {b : Nat} {o : Obj} (h : w.heap[b]? = some o) : b < w.heap.size := by
  rcases Nat.lt_or_ge b w.heap.size with h' | h'
  · exact h'
  · rw [Array.getElem?_eq_none h'] at h; cases h
theorem set_heap {w : World} {b i : Nat} {cs : Array Value} {T : TypeId} {z : Nat × Nat} (h : w.heap[b]? = some (.cells cs T z)) (u : Value) : (w.setCell ⟨b, i, none⟩ u).heap[b]? = some (.cells (cs.setIfInBounds i u) T z) := by
  simp [World.setCell, Array.getElem?_modify, h]
theorem row_other {B b i : Nat} {w : World} {v : Value} {l : List UInt8} (h : RowB B w v l) (hne : v.ownBlock ≠ some b) (u : Value) : RowB B (w.setCell ⟨b, i, none⟩ u) v l :=
  World.ownsRow.kept (row := some b) h ⟨rfl, rfl, rfl, by simp [World.setCell], fun k _ hk => Below.heap_setCell _ _ _ _ (fun e => hk (by simp [e]))⟩ (Or.inr hne)
theorem row_ne {B b : Nat} {w : World} {v : Value} {l : List UInt8} {cs : Array Value} {T : TypeId} {z : Nat × Nat} (h : RowB B w v l) (hb : w.heap[b]? = some (.cells cs T z)) (hT : T ≠ 5) : v.ownBlock ≠ some b := by
  rcases h.2 with ⟨hv, _⟩ | ⟨g, cap, cur, hv, _, hg, _⟩
  · rw [hv]; simp [Value.ownBlock]
  · rw [hv]
    intro e
    simp [Value.ownBlock] at e
    subst e
    rw [hg] at hb
    injection hb with hb
    injection hb with _ h2
    exact hT h2.symm
def Beside (b : Nat) (w w' : World) : Prop := w.heap.size ≤ w'.heap.size ∧ ∀ c, c < w.heap.size → c ≠ b → (∀ cs z, w.heap[c]? ≠ some (.cells cs 5 z)) → w'.heap[c]? = w.heap[c]?
theorem Beside.refl (b : Nat) (w : World) : Beside b w w := ⟨Nat.le_refl _, fun _ _ _ _ => rfl⟩
theorem Beside.trans {b : Nat} {x y z : World} (h : Beside b x y) (k : Beside b y z) : Beside b x z :=
  ⟨Nat.le_trans h.1 k.1, fun c h1 h2 h3 => (k.2 c (Nat.lt_of_lt_of_le h1 h.1) h2 (fun cs z e => h3 cs z ((h.2 c h1 h2 h3) ▸ e))).trans (h.2 c h1 h2 h3)⟩
theorem Beside.set (b i : Nat) (w : World) (u : Value) : Beside b w (w.setCell ⟨b, i, none⟩ u) := ⟨by simp, fun c _ h2 _ => Below.heap_setCell _ _ _ _ h2⟩
theorem Beside.alloc (b : Nat) (w : World) (o : Obj) : Beside b w (w.alloc o) := ⟨by simp, fun c h1 _ _ => Below.heap_alloc _ _ _ h1⟩
theorem Beside.grown {b B : Nat} {w w' : World} {v : Value} {l : List UInt8} (hr : RowB B w v l) (hg : w.grownBy w' v.ownBlock) : Beside b w w' := by
  refine ⟨hg.size, fun c h1 _ h3 => hg.block c h1 (fun e => ?_)⟩
  rcases hr.2 with ⟨hv, _⟩ | ⟨g, cap, cur, hv, _, hgg, _⟩
  · rw [hv] at e; simp [Value.ownBlock] at e
  · rw [hv] at e
    simp [Value.ownBlock] at e
    subst e
    exact h3 _ _ hgg
def FU (T : TypeId) (B b : Nat) (rest : List Value) (l : List UInt8) (w : World) : Prop :=
  B ≤ b ∧ ∃ v, w.heap[b]? = some (.cells (.pointer (some ⟨b, 0, none⟩) :: v :: rest).toArray T (0, 0)) ∧ RowB B w v l ∧ v.ownBlock ≠ some b
theorem info_builder : ∃ j, Tryz.prog.info? 215 = some j ∧ j.size = 2 := Option.map_eq_some_iff.1 (show (Tryz.prog.info? 215).map (·.size) = some 2 by kernel_rfl)
set_option maxRecDepth 100000 in
set_option maxHeartbeats 1600000 in
theorem fb_check {T : TypeId} {B b : Nat} {rest : List Value} {l : List UInt8} {w : World} (hT : FT T rest.length) (h : FB T B b rest l w) :
    Calls Tryz.prog 161 #[.pointer (some ⟨b, 0, none⟩)] w fun e w' => e = .returned (.tuple #[]) ∧ FU T B b rest l w' ∧ Below B w w' ∧ Beside b w w' := by
  obtain ⟨hB, p, v, hp, hb, hrow, hne⟩ := h
  obtain ⟨j, hj, hjs⟩ := info_builder
  have h0 := cellAt hb (i := 0) (x := p) (by simp)
  have hsh : w.shape? b = some (T, rest.length + 2) := by simp [World.shape?, hb]
  have hf : w.frozen? ⟨b, 0, none⟩ = false := Lib.frozen_of_heap hb 0
  rcases hp with rfl | rfl
  · go_enter Tryz.func161, Tryz.ntmps161
    go_wp2
    rw [Lib.run_to_unsafe w ⟨b, 0, none⟩ Tryz.underlying213 Tryz.underlying138 hj (by rw [hjs]; decide) hsh (by simp)]
    simp only [Result.andThen]
    rw [Oper.upon_value]
    go_wp2
    rw [run_callFunc_extern Tryz.func174 (by kernel_rfl) (by kernel_rfl) (by kernel_rfl) (e := Extern.AbiNoEscape.same) (by kernel_rfl)]
    rw [Lib.run_noEscape]
    simp only [Result.andThen]
    rw [Oper.upon_value]
    go_wp2
    rw [Lib.run_from_unsafe w ⟨b, 0, none⟩ Tryz.underlying138 Tryz.underlying213 hj hsh hT.lies]
    simp only [Result.andThen]
    rw [Oper.upon_value]
    go_wp2
    go_end0
    refine ⟨rfl, ⟨hB, v, ?_, row_other hrow hne _, hne⟩, (Below.refl _ _).setCell hB _, Beside.set _ _ _ _⟩
    rw [set_heap hb]
    simp
  · go_enter Tryz.func161, Tryz.ntmps161
    go_wp2
    rw [Lib.run_neq_ptr_same w _ Tryz.underlying213 hj]
    go_wp2
    go_end0
    exact ⟨rfl, ⟨hB, v, hb, hrow, hne⟩, Below.refl _ _, Beside.refl _ _⟩
set_option maxRecDepth 100000 in
set_option maxHeartbeats 2000000 in
theorem fb_byte {T : TypeId} {B b : Nat} {rest : List Value} {l : List UInt8} {w : World} (hT : FT T rest.length) (h : FB T B b rest l w) (x : UInt8) (hlen : l.length + 1 ≤ 1000000000) (hBw : B ≤ w.heap.size) :
    Calls Tryz.prog 145 #[.pointer (some ⟨b, 0, none⟩), .int .u8 (x.toNat : Int)] w fun e w' => e = .returned .nilIface ∧ FB T B b rest (l ++ [x]) w' ∧ Below B w w' ∧ Beside b w w' := by
  go_enter Tryz.func145, Tryz.ntmps145
  go_wp2_with (go_at_call 161; refine (fb_check hT h).mono ?_)
  rintro e w1 ⟨rfl, ⟨hB, v, hb, hrow, hne⟩, hb1, hk1⟩
  have HK1 := hideB hk1
  clear hk1
  have c1 := cellAt hb (i := 1) (x := v) (by simp)
  have z1 := hb1.size
  obtain ⟨av, cv, ev⟩ := hrow.slice
  have HR := hideB hrow
  have HB := hideB hb
  have HNE := hideB hne
  have hlt := lt_heap hb
  obtain ⟨n, hn⟩ : ∃ n, l.length = n := ⟨_, rfl⟩
  have HN := hideB hn
  rw [hn] at ev hlen
  subst ev
  clear hb hrow hne hn
  obtain ⟨i0, hi0, hz0, hs0, hy0⟩ := info_three info_byte
  go_wp2_with (at_builtin; refine wpList_append_own _ rfl _ _ 22 rfl B 5 i0 (.int .u8 0) 1 1 Tryz.underlying22 hi0 hz0 hs0 hy0 rfl (by decide) _ _ _ rfl (HR.out.alloc _) ⟨w1.heap.size, 0, none⟩ 1 1 [.int .u8 (x.toNat : Int)] rfl rfl (byte_new w1 x) ?c1 ?c2 ?c3 ?c4 ?_)
  case c1 => intro u hu; simp at hu; subst hu; rfl
  case c2 => rw [HN.out]; unfold maxLen; omega
  case c3 => rw [HN.out]; omega
  case c4 => simp; omega
  intro v' w2 hown hgrow _
  obtain ⟨av2, cv2, ev2⟩ : ∃ a c, v' = .slice a (l.length + 1) c := by
    rcases hown.2 with ⟨_, h0⟩ | ⟨g, cap, cur, hv, _⟩
    · omega
    · exact ⟨_, _, hv⟩
  have hr2 := row_end (by omega) HR.out hown hgrow
  have HK2 := hideB (((HK1.out.trans (Beside.alloc _ _ _)).trans (Beside.grown (HR.out.alloc _) hgrow)).trans (Beside.set b 1 _ v'))
  have hb2 : w2.heap[b]? = some (.cells (.pointer (some ⟨b, 0, none⟩) :: .slice av n cv :: rest).toArray T (0, 0)) := by
    rw [hgrow.block b (by simp; omega) (fun e => HNE.out e.symm), Below.heap_alloc _ _ _ hlt]
    exact HB.out
  have hne2 := row_ne hr2.1 hb2 hT.ne
  have d1 := cellAt hb2 (i := 1) (x := .slice av n cv) (by simp)
  have f1 : w2.frozen? ⟨b, 1, none⟩ = false := Lib.frozen_of_heap hb2 1
  rw [HN.out] at ev2
  subst ev2
  have HR2 := hideB hr2.1
  have HBL := hideB ((hb1.trans (hr2.2)).setCell (p := ⟨b, 1, none⟩) hB (.slice av2 (n + 1) cv2))
  have HB2 := hideB hb2
  have HNE2 := hideB hne2
  clear hown hgrow hr2 hb2 hne2
  go_wp2
  go_ret
  refine ⟨rfl, ⟨hB, _, _, .inr rfl, ?_, row_other HR2.out HNE2.out _, HNE2.out⟩, HBL.out, HK2.out⟩
  rw [set_heap HB2.out]
  simp
theorem cells_byte : Tryz.prog.cellsOf 5 = 1 := by kernel_rfl
set_option maxRecDepth 100000 in
set_option maxHeartbeats 2000000 in
theorem fb_string {T : TypeId} {B b : Nat} {rest : List Value} {l : List UInt8} {w : World} (h : FB T B b rest l w) (hl0 : l ≠ []) :
    Calls Tryz.prog 143 #[.pointer (some ⟨b, 0, none⟩)] w fun e w' => e = .returned (.string (txt l)) ∧ Below B w w' := by
  obtain ⟨hB, p, v, hp, hb, hrow, hne⟩ := h
  have hl : l.length ≠ 0 := by simpa using hl0
  have mixed : Tryz.prog.follows .mixedOrders = true := by kernel_rfl
  obtain ⟨g, cap, cur, rfl, hbg, hg, hnc, hcm, hcs, htake⟩ : ∃ g cap cur, v = .slice (some ⟨g, 0, none⟩) l.length cap ∧ B ≤ g ∧ w.heap[g]? = some (.cells cur 5 (0, 0)) ∧ l.length ≤ cap ∧ cap ≤ maxLen ∧ cur.size = cap * 1 ∧ cur.toList.take (l.length * 1) = Lib.byteCells l := by
    rcases hrow.2 with ⟨_, hz⟩ | ⟨g, cap, cur, hv, r⟩
    · exact absurd hz hl
    · exact ⟨g, cap, cur, hv, r⟩
  have hb' : w.drew.heap[b]? = some (.cells (p :: .slice (some ⟨g, 0, none⟩) l.length cap :: rest).toArray T (0, 0)) := hb
  have hg' : w.drew.heap[g]? = some (.cells cur 5 (0, 0)) := hg
  have c1 : w.drew.cell? ⟨b, 1, none⟩ = some (.slice (some ⟨g, 0, none⟩) l.length cap) := cellAt hb' (by simp)
  have hSD : (Builtin.unsafeSliceData_ #[22] 232 #[.slice (some ⟨g, 0, none⟩) l.length cap]).run Tryz.prog w.drew = .ok (.pointer (some ⟨g, 0, none⟩)) w.drew :=
    Lib.run_unsafeSliceData_row _ _ _ _ _ _ (by omega)
  have hUS : (Builtin.unsafeString_ #[232, 3] 9 #[.pointer (some ⟨g, 0, none⟩), .int .i64 l.length]).run Tryz.prog w.drew = .ok (.string ⟨l.toArray⟩) (w.drew.freeze ⟨g, 0, none⟩ l.length) := by
    refine Lib.run_unsafeString_row w.drew 232 3 9 5 Tryz.underlying232 cells_byte g cur.size (by simp [World.shape?, hg']) l hl0 (by omega) (by unfold maxLen at hcm; omega) ?_
    intro j x hx
    exact hrow.cells (g := g) rfl j (.int .u8 x.toNat) (by simp [Lib.byteCells, hx])
  have HE := hideB (show Below B w (w.drew.freeze ⟨g, 0, none⟩ l.length) from Lib.below_freeze (Below.drew (Below.refl B w)) (p := ⟨g, 0, none⟩) hbg _)
  clear hrow htake hcs hcm hb' hg'
  go_enter Tryz.func143, Tryz.ntmps143
  go_wp2
  go_region_o
  all_goals (go_wp2; go_ret; exact ⟨rfl, HE.out⟩)
end Go.Proofs.YtcidjhnogldgmaaGreatDoor

namespace Go.Proofs.YtcidjhnogldgmaaGreatDoor
open Go.RowKit Go.Shelf
set_option linter.unusedSimpArgs false
set_option linter.unusedVariables false
end Go.Proofs.YtcidjhnogldgmaaGreatDoor
