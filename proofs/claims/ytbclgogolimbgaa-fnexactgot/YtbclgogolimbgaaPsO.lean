/-
  What a path reads as that came in: a slice of steps of the laws' own type.
-/
import Derived.Test.YtbclgogolimbgaaPsZ
import Derived.Deep.Slices
import Derived.Deep.Strs
import Derived.KernelRfl
import Derived.OpenShut
namespace Go.Proofs.Ytbclgogolimbgaa
open Go.RowKit Go.Deep Go.ChangeShapes Go.WideShapes
set_option linter.unusedSimpArgs false
set_option linter.unusedVariables false
set_option linter.unusedSectionVars false

theorem wf64p {n : Int} (h : (Lit.int .i64 n).wf = true) : -9223372036854775808 ≤ n ∧ n ≤ 9223372036854775807 := by
  simp [Lit.wf, IntKind.min, IntKind.max, IntKind.signed, IntKind.bits] at h
  omega

theorem cells1bp : Try.prog.cellsOf 4 = 1 := by kernel_rfl
theorem cells1ip : Try.prog.cellsOf 2 = 1 := by kernel_rfl
theorem cells1sp : Try.prog.cellsOf 9 = 1 := by kernel_rfl
theorem cells3p : Try.prog.cellsOf 88 = 3 := by kernel_rfl

theorem lt_cellp {w : World} {b o : Nat} {v : Value} (h : w.cell? ⟨b, o, none⟩ = some v) : b < w.heap.size := by
  unfold World.cell? at h
  cases hb : w.heap[b]? with
  | none => simp [hb] at h
  | some x => exact (Array.getElem?_eq_some_iff.1 hb).1

section
variable {H : Type} {enc : TypeId × Value → H} {W : World} {base : Nat} {spare : Nat → Bool} {held : Bool}

set_option maxRecDepth 100000 in
theorem raw_step {fuel : Nat} {cs : List Value} {x : DataW H × List MemPlace} (h : DataW.trod enc Try.prog W base spare held fuel 88 cs = some x) :
    ∃ (y : PS), cs = [.bool y.named, .string y.key, .int .i64 y.pl] ∧ y.key.size ≤ 9223372036854775807 ∧ -9223372036854775808 ≤ y.pl ∧ y.pl ≤ 9223372036854775807 := by
  obtain ⟨xs, n, _, _, hl, hlen, hf⟩ := DataW.trod_struct Try.underlying88 h
  rw [cells3p] at hl
  match cs, hl with
  | [v0, v1, v2], _ =>
    have f0 := hf 0 _ rfl
    have f1 := hf 1 _ rfl
    have f2 := hf 2 _ rfl
    match xs, hlen with
    | [y0, y1, y2], _ =>
      simp [cells1ip, cells1sp, cells1bp] at f0 f1 f2
      obtain ⟨k, e0, _⟩ := DataW.trod_bool Try.underlying4 f0
      obtain ⟨s, e1, _, w1⟩ := DataW.trod_string Try.underlying9 f1
      obtain ⟨n', e2, _, w2⟩ := DataW.trod_int Try.underlying2 f2
      simp only [List.cons.injEq, and_true] at e0 e1 e2
      subst e0 e1 e2
      unfold maxLen at w1
      exact ⟨⟨k, s, n'⟩, rfl, by simp only; omega, (wf64p w2).1, (wf64p w2).2⟩

theorem raw_steps {fuel : Nat} {v : Value} {x : DataW H × List MemPlace} (h : DataW.trod enc Try.prog W base spare held fuel 36 [v] = some x) : ∃ ps, RawSteps W.heap.size W v ps := by
  rcases open_slice Try.underlying36 h with ⟨hcs, _⟩ | ⟨a, len, cap, m, n, D, Pl, hcs, _, hl, hm, hmm, _, hx⟩
  · refine ⟨[], by simp, fun i hi => absurd hi (by simp), none, 0, by simpa using hcs, fun hl => absurd hl (by simp)⟩
  · have hlen : len ≤ m := by rw [hmm]; split <;> omega
    have hm' : len ≤ 9223372036854775807 := by unfold maxLen at hm; omega
    rw [cells3p] at hx
    obtain ⟨f, hfx⟩ := @choose_lt PS ⟨PS.zero⟩ m (fun i q => (q.key.size ≤ 9223372036854775807 ∧ -9223372036854775808 ≤ q.pl ∧ q.pl ≤ 9223372036854775807) ∧ ∀ j, j < 3 → W.cell? ((a.add (i * 3)).add j) = [Value.bool q.named, .string q.key, .int .i64 q.pl][j]?) (fun i hi => by
      obtain ⟨cs', h1, h2⟩ := hx i hi
      obtain ⟨y, e, hy⟩ := raw_step h2
      subst e
      exact ⟨y, hy, (World.cells?_some h1).2.2⟩)
    have hat : ∀ i, i < len → stepAt ((List.range len).map f) i = f i := fun i hi => by simp [stepAt, hi]
    refine ⟨(List.range len).map f, by simp; omega, fun i hi => ?_, some a, cap, by simpa using hcs, fun hl0 => ?_⟩
    · simp only [List.length_map, List.length_range] at hi
      rw [hat i hi]
      exact (hfx i (by omega)).1
    simp only [List.length_map, List.length_range] at hl0
    obtain ⟨b, o, spot⟩ := a
    have hspot : spot = none := by
      have h0 := (hfx 0 (by omega)).2 0 (by omega)
      have h0' : W.cell? ⟨b, o, spot⟩ = some (.bool (f 0).named) := by simpa [Addr.add] using h0
      exact World.cell?_spot h0'
    subst hspot
    have hadd : ∀ i j, (Addr.add (Addr.add ⟨b, o, none⟩ (i * 3)) j) = ⟨b, o + i * 3 + j, none⟩ := fun i j => by
      rw [add_add]
      by_cases e : i * 3 + j = 0
      · unfold Addr.add
        rw [if_pos e]
        congr 1
        omega
      · unfold Addr.add
        rw [if_neg e]
        congr 1
        show o + (i * 3 + j) = o + i * 3 + j
        omega
    have hc' : ∀ i, i < len → ∀ j, j < 3 → W.cell? ⟨b, o + i * 3 + j, none⟩ = [Value.bool (f i).named, .string (f i).key, .int .i64 (f i).pl][j]? := fun i hi j hj => by
      rw [← hadd]; exact (hfx i (by omega)).2 j hj
    refine ⟨b, o, rfl, lt_cellp (b := b) (o := o + 0 * 3 + 0) (hc' 0 (by omega) 0 (by omega)), fun i hi => ?_⟩
    simp only [List.length_map, List.length_range] at hi
    rw [hat i hi]
    exact ⟨hc' i hi 0 (by omega), hc' i hi 1 (by omega), hc' i hi 2 (by omega)⟩
end
end Go.Proofs.Ytbclgogolimbgaa
