/-
  What rows of rows of nodes read as that came in.
-/
import Derived.Test.YtpfnkpkcjefelaaOpen
import Derived.Test.YtpfnkpkcjefelaaSz2
namespace Go.Proofs.Ytpfnkpkcjefelaa
open Go.RowKit Go.Deep Go.ChangeShapes Go.WideShapes
set_option linter.unusedSimpArgs false
set_option linter.unusedVariables false
set_option linter.unusedSectionVars false

theorem cells1ns : Try.prog.cellsOf 51 = 1 := by kernel_rfl

section
variable {H : Type} {enc : TypeId × Value → H} {W : World} {base : Nat} {spare : Nat → Bool} {held : Bool}

theorem raw_rows {fuel : Nat} {v : Value} {x : DataW H × List MemPlace} (h : DataW.trod enc Try.prog W base spare held fuel 58 [v] = some x) : ∃ m L, RawRows W.heap.size W v m L := by
  rcases open_slice Try.underlying58 h with ⟨hcs, _⟩ | ⟨a, len, cap, m, n, D, Pl, hcs, _, hl, hm, hmm, _, hx⟩
  · exact ⟨0, fun _ => [], by simp, none, 0, by simpa using hcs, fun hl => absurd hl (by simp)⟩
  · have hlen : len ≤ m := by rw [hmm]; split <;> omega
    have hm' : len ≤ 9223372036854775807 := by unfold maxLen at hm; omega
    rw [cells1ns] at hx
    obtain ⟨f, hfx⟩ := @choose_lt (Value × List VN) ⟨(undef, [])⟩ m (fun i q => RawNodes W.heap.size W q.1 q.2 ∧ W.cell? (a.add (i * 1)) = some q.1) (fun i hi => by
      obtain ⟨cs', h1, h2⟩ := hx i hi
      have h3 := World.cells?_some h1
      match cs', h3.1 with
      | [u], _ =>
        obtain ⟨vs, hv⟩ := raw_nodes h2
        refine ⟨(u, vs), hv, ?_⟩
        have := h3.2.2 0 (by omega)
        simpa [Addr.add] using this)
    refine ⟨len, fun i => (f i).2, hm', some a, cap, by simpa using hcs, fun hl0 => ?_⟩
    obtain ⟨b, o, spot⟩ := a
    have hspot : spot = none := by
      have h0 := (hfx 0 (by omega)).2
      have h0' : W.cell? ⟨b, o, spot⟩ = some (f 0).1 := by simpa [Addr.add] using h0
      exact World.cell?_spot h0'
    subst hspot
    have hc' : ∀ i, i < len → W.cell? ⟨b, o + i, none⟩ = some (f i).1 := fun i hi => by
      have := (hfx i (by omega)).2
      by_cases e : i = 0
      · subst e; simpa [Addr.add] using this
      · simpa [Addr.add, e] using this
    exact ⟨b, o, rfl, lt_cell (hc' 0 (by omega)), fun i hi => ⟨(f i).1, hc' i hi, (hfx i (by omega)).1⟩⟩
end
end Go.Proofs.Ytpfnkpkcjefelaa
