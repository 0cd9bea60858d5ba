/-
  What the arguments read as: slices of nodes of the laws' own type.
-/
import Derived.Test.YtgmnihofkpjboaaGreatDoorStepC
import Derived.Test.YtgmnihofkpjboaaGreatDoorProg
import Derived.Deep.Slices
import Derived.Deep.Strs
import Derived.KernelRfl
import Derived.OpenShut
namespace Go.Proofs.YtgmnihofkpjboaaGreatDoor
open Go.RowKit Go.Deep Go.ChangeShapes Go.WideShapes
set_option linter.unusedSimpArgs false
set_option linter.unusedVariables false
set_option linter.unusedSectionVars false

theorem wf64 {n : Int} (h : (Lit.int .i64 n).wf = true) : -9223372036854775808 ≤ n ∧ n ≤ 9223372036854775807 := by
  simp [Lit.wf, IntKind.min, IntKind.max, IntKind.signed, IntKind.bits] at h
  omega

theorem cells1i : Tryz.prog.cellsOf 2 = 1 := by kernel_rfl
theorem cells1s : Tryz.prog.cellsOf 9 = 1 := by kernel_rfl
theorem cells1ks : Tryz.prog.cellsOf 32 = 1 := by kernel_rfl
theorem cells1ki : Tryz.prog.cellsOf 33 = 1 := by kernel_rfl
theorem cells5 : Tryz.prog.cellsOf 35 = 5 := by kernel_rfl

theorem lt_cell {w : World} {b o : Nat} {v : Value} (h : w.cell? ⟨b, o, none⟩ = some v) : b < w.heap.size := by
  unfold World.cell? at h
  cases hb : w.heap[b]? with
  | none => simp [hb] at h
  | some x => exact (Array.getElem?_eq_some_iff.1 hb).1

section
variable {H : Type} {enc : TypeId × Value → H} {W : World} {base : Nat} {spare : Nat → Bool} {held : Bool}

theorem raw_ints {fuel : Nat} {v : Value} {x : DataW H × List MemPlace} (h : DataW.trod enc Tryz.prog W base spare held fuel 33 [v] = some x) : ∃ l, RawInts W.heap.size W v l := by
  rcases open_ints Tryz.underlying33 Tryz.underlying2 cells1i h with ⟨hcs, _⟩ | ⟨a, len, cap, zs, hcs, _, hl, hm, hz, _, hcell, hwz⟩
  · refine ⟨[], by simp, fun i hi => absurd hi (by simp), none, 0, by simpa using hcs, fun hl => absurd hl (by simp)⟩
  · have hlen : len ≤ zs.length := by rw [hz]; split <;> omega
    have hlt : (zs.take len).length = len := by rw [List.length_take]; omega
    have hat : ∀ i, i < len → intAt (zs.take len) i = zs.getD i 0 := fun i hi => by simp [intAt, hi]
    have hm' : len ≤ 9223372036854775807 := by unfold maxLen at hm; omega
    refine ⟨zs.take len, by omega, fun i hi => ?_, some a, cap, by rw [hlt]; simpa using hcs, fun hl0 => ?_⟩
    · rw [hat i (by omega)]
      refine wf64 (hwz _ ?_)
      rw [List.getD_eq_getElem?_getD, List.getElem?_eq_getElem (by omega)]
      exact List.getElem_mem _
    · obtain ⟨b, o, spot⟩ := a
      have hc0 := hcell 0 (by omega)
      have hspot : spot = none := by simpa [Addr.add] using World.cell?_spot hc0
      subst hspot
      have hc' : ∀ i, i < len → W.cell? ⟨b, o + i, none⟩ = some (.int .i64 (zs.getD i 0)) := fun i hi => by
        have := hcell i (by omega)
        by_cases e : i = 0
        · subst e; simpa [Addr.add] using this
        · simpa [Addr.add, e] using this
      refine ⟨b, o, rfl, lt_cell (hc' 0 (by omega)), fun i hi => ?_⟩
      rw [hat i (by omega)]
      exact hc' i (by omega)

theorem raw_strs {fuel : Nat} {v : Value} {x : DataW H × List MemPlace} (h : DataW.trod enc Tryz.prog W base spare held fuel 32 [v] = some x) : ∃ l, RawStrs W.heap.size W v l := by
  rcases open_strs Tryz.underlying32 Tryz.underlying9 cells1s h with ⟨hcs, _⟩ | ⟨a, len, cap, m, Sx, hcs, _, hl, hm, hmm, _, hcell⟩
  · refine ⟨[], by simp, fun i hi => absurd hi (by simp), none, 0, by simpa using hcs, fun hl => absurd hl (by simp)⟩
  · have hlen : len ≤ m := by rw [hmm]; split <;> omega
    have hlt : ((List.range len).map Sx).length = len := by simp
    have hat : ∀ i, i < len → keyAt ((List.range len).map Sx) i = Sx i := fun i hi => by simp [keyAt, hi]
    have hm' : len ≤ 9223372036854775807 := by unfold maxLen at hm; omega
    refine ⟨(List.range len).map Sx, by omega, fun i hi => ?_, some a, cap, by rw [hlt]; simpa using hcs, fun hl0 => ?_⟩
    · rw [hat i (by omega)]
      have := (hcell i (by omega)).2
      unfold maxLen at this
      omega
    · obtain ⟨b, o, spot⟩ := a
      have hc0 := (hcell 0 (by omega)).1
      have hspot : spot = none := by simpa [Addr.add] using World.cell?_spot hc0
      subst hspot
      have hc' : ∀ i, i < len → W.cell? ⟨b, o + i, none⟩ = some (.string (Sx i)) := fun i hi => by
        have := (hcell i (by omega)).1
        by_cases e : i = 0
        · subst e; simpa [Addr.add] using this
        · simpa [Addr.add, e] using this
      refine ⟨b, o, rfl, lt_cell (hc' 0 (by omega)), fun i hi => ?_⟩
      rw [hat i (by omega)]
      exact hc' i (by omega)

set_option maxRecDepth 100000 in
theorem raw_node {fuel : Nat} {cs : List Value} {x : DataW H × List MemPlace} (h : DataW.trod enc Tryz.prog W base spare held fuel 35 cs = some x) :
    ∃ (y : VN) (ka ki : Value), cs = [.int .i64 y.kind, .int .i64 y.n, .string y.s, ka, ki] ∧ RawIn W.heap.size W y ka ki := by
  obtain ⟨xs, n, _, _, hl, hlen, hf⟩ := DataW.trod_struct Tryz.underlying35 h
  rw [cells5] at hl
  match cs, hl with
  | [v0, v1, v2, v3, v4], _ =>
    have f0 := hf 0 _ rfl
    have f1 := hf 1 _ rfl
    have f2 := hf 2 _ rfl
    have f3 := hf 3 _ rfl
    have f4 := hf 4 _ rfl
    match xs, hlen with
    | [y0, y1, y2, y3, y4], _ =>
      simp [cells1i, cells1s, cells1ks, cells1ki] at f0 f1 f2 f3 f4
      obtain ⟨k, e0, _, w0⟩ := DataW.trod_int Tryz.underlying2 f0
      obtain ⟨n', e1, _, w1⟩ := DataW.trod_int Tryz.underlying2 f1
      obtain ⟨s, e2, _, w2⟩ := DataW.trod_string Tryz.underlying9 f2
      obtain ⟨ks, r3⟩ := raw_strs f3
      obtain ⟨is, r4⟩ := raw_ints f4
      simp only [List.cons.injEq, and_true] at e0 e1 e2
      subst e0 e1 e2
      unfold maxLen at w2
      exact ⟨⟨k, n', s, ks, is⟩, v3, v4, rfl, r3, r4, by simp only; omega, (wf64 w0).1, (wf64 w0).2, (wf64 w1).1, (wf64 w1).2⟩

theorem raw_nodes {fuel : Nat} {v : Value} {x : DataW H × List MemPlace} (h : DataW.trod enc Tryz.prog W base spare held fuel 22 [v] = some x) : ∃ vs, RawNodes W.heap.size W v vs := by
  rcases open_slice Tryz.underlying22 h with ⟨hcs, _⟩ | ⟨a, len, cap, m, n, D, Pl, hcs, _, hl, hm, hmm, _, hx⟩
  · refine ⟨[], by simp, none, 0, by simpa using hcs, fun hl => absurd hl (by simp)⟩
  · have hlen : len ≤ m := by rw [hmm]; split <;> omega
    have hm' : len ≤ 9223372036854775807 := by unfold maxLen at hm; omega
    rw [cells5] at hx
    obtain ⟨f, hfx⟩ := @choose_lt (VN × Value × Value) ⟨(VN.zero, undef, undef)⟩ m (fun i q => RawIn W.heap.size W q.1 q.2.1 q.2.2 ∧ ∀ j, j < 5 → W.cell? ((a.add (i * 5)).add j) = [Value.int .i64 q.1.kind, .int .i64 q.1.n, .string q.1.s, q.2.1, q.2.2][j]?) (fun i hi => by
      obtain ⟨cs', h1, h2⟩ := hx i hi
      obtain ⟨y, ka, ki, e, hy⟩ := raw_node h2
      subst e
      exact ⟨(y, ka, ki), hy, (World.cells?_some h1).2.2⟩)
    have hat : ∀ i, i < len → nodeAt ((List.range len).map fun i => (f i).1) i = (f i).1 := fun i hi => by simp [nodeAt, hi]
    refine ⟨(List.range len).map fun i => (f i).1, by simp; omega, some a, cap, by simpa using hcs, fun hl0 => ?_⟩
    simp only [List.length_map, List.length_range] at hl0
    obtain ⟨b, o, spot⟩ := a
    have hspot : spot = none := by
      have h0 := (hfx 0 (by omega)).2 0 (by omega)
      have h0' : W.cell? ⟨b, o, spot⟩ = some (.int .i64 (f 0).1.kind) := by simpa [Addr.add] using h0
      exact World.cell?_spot h0'
    subst hspot
    have hadd : ∀ i j, (Addr.add (Addr.add ⟨b, o, none⟩ (i * 5)) j) = ⟨b, o + i * 5 + j, none⟩ := fun i j => by
      rw [add_add]
      by_cases e : i * 5 + j = 0
      · unfold Addr.add
        rw [if_pos e]
        congr 1
        omega
      · unfold Addr.add
        rw [if_neg e]
        congr 1
        show o + (i * 5 + j) = o + i * 5 + j
        omega
    have hc' : ∀ i, i < len → ∀ j, j < 5 → W.cell? ⟨b, o + i * 5 + j, none⟩ = [Value.int .i64 (f i).1.kind, .int .i64 (f i).1.n, .string (f i).1.s, (f i).2.1, (f i).2.2][j]? := fun i hi j hj => by
      rw [← hadd]; exact (hfx i (by omega)).2 j hj
    refine ⟨b, o, rfl, lt_cell (b := b) (o := o + 0 * 5 + 0) (hc' 0 (by omega) 0 (by omega)), fun i hi => ?_⟩
    simp only [List.length_map, List.length_range] at hi
    rw [hat i hi]
    exact ⟨(f i).2.1, (f i).2.2, hc' i hi 0 (by omega), hc' i hi 1 (by omega), hc' i hi 2 (by omega), hc' i hi 3 (by omega), hc' i hi 4 (by omega), (hfx i (by omega)).1⟩
end
end Go.Proofs.YtgmnihofkpjboaaGreatDoor
