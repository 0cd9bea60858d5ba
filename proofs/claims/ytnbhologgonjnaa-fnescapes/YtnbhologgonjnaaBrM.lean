/-
  The program's byteReader: its place in memory, the next byte, giving up, and what turns giving up into false.
-/
import Derived.Test.YtnbhologgonjnaaProg
import Derived.Test.YtnbhologgonjnaaTxt
import Derived.Below
import Derived.BigQuiet
import Derived.Deep.QuietTactic
import Derived.Defers
import Derived.Recover
import Derived.WalkLawsBesides
namespace Go.Proofs.Ytnbhologgonjnaa
open Go.RowKit
set_option linter.unusedSimpArgs false
set_option linter.unusedVariables false

/-- Giving up. -/
def gup : Ending := .panicked [{ v := .iface 58 (.agg #[]), recovered := false }]
/-- A reader of the text 's' in block 'rb', behind 'p' bytes. -/
structure BrAt (w : World) (rb : Nat) (s : ByteArray) (p : Nat) : Prop where
  lt : rb < w.heap.size
  src : w.cell? ⟨rb, 0, none⟩ = some (.string s)
  place : w.cell? ⟨rb, 1, none⟩ = some (.int .i64 p)
  free : w.frozen? ⟨rb, 1, none⟩ = false
  le : p ≤ s.size
/-- No block but 'rb' has turned. -/
structure But (rb : Nat) (w w' : World) : Prop where
  os : w'.os = w.os
  tape : w'.tape = w.tape
  output : w'.output = w.output
  size : w.heap.size ≤ w'.heap.size
  block : ∀ c, c < w.heap.size → c ≠ rb → w'.heap[c]? = w.heap[c]?
theorem But.refl (rb : Nat) (w : World) : But rb w w := ⟨rfl, rfl, rfl, Nat.le_refl _, fun _ _ _ => rfl⟩
theorem But.trans {rb : Nat} {a b c : World} (h : But rb a b) (k : But rb b c) : But rb a c :=
  ⟨k.os.trans h.os, k.tape.trans h.tape, k.output.trans h.output, Nat.le_trans h.size k.size, fun x hx hn => (k.block x (Nat.lt_of_lt_of_le hx h.size) hn).trans (h.block x hx hn)⟩
theorem But.of_below {rb : Nat} {a b : World} (h : Below a.heap.size a b) : But rb a b := ⟨h.os, h.tape, h.output, h.size, fun x hx _ => h.block x hx⟩
theorem But.of_set {rb : Nat} {a : World} (o : Nat) (u : Value) : But rb a (a.setCell ⟨rb, o, none⟩ u) :=
  ⟨rfl, rfl, rfl, by simp, fun x _ hn => Below.heap_setCell _ _ _ _ hn⟩
theorem But.below {rb : Nat} {a b : World} (h : But rb a b) (hr : rb ≤ a.heap.size) : Below rb a b := ⟨h.os, h.tape, h.output, h.size, fun x hx => h.block x (by omega) (by omega)⟩
theorem But.next {rb : Nat} {a b c : World} (h : But rb a b) (k : Below a.heap.size b c) : But rb a c :=
  ⟨k.os.trans h.os, k.tape.trans h.tape, k.output.trans h.output, Nat.le_trans h.size k.size, fun x hx hn => (k.block x hx).trans (h.block x hx hn)⟩
theorem cellOf {w w' : World} {b o : Nat} (h : w'.heap[b]? = w.heap[b]?) : w'.cell? ⟨b, o, none⟩ = w.cell? ⟨b, o, none⟩ := World.cell?_of_block (w := w) (a := ⟨b, o, none⟩) h
theorem frozenOf {w w' : World} {b o : Nat} (h : w'.heap[b]? = w.heap[b]?) : w'.frozen? ⟨b, o, none⟩ = w.frozen? ⟨b, o, none⟩ := World.frozen?_of_block (w := w) (a := ⟨b, o, none⟩) h
theorem BrAt.keep {w w' : World} {rb p : Nat} {s : ByteArray} (h : BrAt w rb s p) (hb : w'.heap[rb]? = w.heap[rb]?) (hz : w.heap.size ≤ w'.heap.size) : BrAt w' rb s p :=
  ⟨Nat.lt_of_lt_of_le h.lt hz, (cellOf hb).trans h.src, (cellOf hb).trans h.place, (frozenOf hb).trans h.free, h.le⟩
theorem BrAt.below {w w' : World} {rb p : Nat} {s : ByteArray} (h : BrAt w rb s p) (hb : Below w.heap.size w w') : BrAt w' rb s p := h.keep (hb.block rb h.lt) hb.size
theorem BrAt.step {w : World} {rb p : Nat} {s : ByteArray} (h : BrAt w rb s p) (hp : p < s.size) : BrAt (w.setCell ⟨rb, 1, none⟩ (.int .i64 ((p + 1 : Nat) : Int))) rb s (p + 1) :=
  ⟨by simpa using h.lt, by rw [World.cell?_setCell_other (h := by simp)]; exact h.src, World.cell?_setCell_same _ _ _ h.place, by rw [World.frozen?_setCell]; exact h.free, by omega⟩

theorem below_drewB {w : World} (n : Nat) : Below w.heap.size w (w.drewN n) := ⟨rfl, rfl, rfl, Nat.le_refl _, fun _ _ => rfl⟩

set_option maxRecDepth 100000 in
set_option maxHeartbeats 1600000 in
theorem next_yes {rb p : Nat} {s : ByteArray} {w : World} (h : BrAt w rb s p) (hp : p < s.size) (hs : s.size ≤ 1048576) :
    Calls Try.prog 27 #[.pointer (some ⟨rb, 0, none⟩)] w fun e w' => e = .returned (.int .u8 (s[p].toNat : Int)) ∧ BrAt w' rb s (p + 1) ∧ But rb w w' := by
  have H := hideB h
  have h1 := h.src
  have h2 := h.place
  have h3 := h.free
  have h4 := h.lt
  clear h
  have hne : ((p : Int) == (s.size : Int)) = false := by simp; omega
  go_enter Try.func27, Try.ntmps27
  go_wp2_with fail
  go_quiet (fail)
  have HD1 := hideB (below_drewB (w := w) nq)
  have HR1 := hideB (H.out.below HD1.out)
  have k1 := HR1.out.src
  have k2 := HR1.out.place
  have k3 := HR1.out.free
  generalize w.drewN nq = W1 at HR1 HD1 k1 k2 k3 ⊢
  clear nq h1 h2 h3
  go_wp2_with fail
  go_quiet (fail)
  have HD2 := hideB (below_drewB (w := W1) nq)
  have HR2 := hideB (HR1.out.below HD2.out)
  have l1 := HR2.out.src
  have l2 := HR2.out.place
  have l3 := HR2.out.free
  generalize W1.drewN nq = W2 at HR2 HD2 l1 l2 l3 ⊢
  clear nq k1 k2 k3
  go_wp2_with fail
  go_ret
  refine ⟨rfl, HR2.out.step hp, ?_⟩
  exact ((But.of_below HD1.out).trans (But.of_below HD2.out)).trans (But.of_set _ _)

set_option maxRecDepth 100000 in
set_option maxHeartbeats 1600000 in
theorem next_no {rb : Nat} {s : ByteArray} {w : World} (h : BrAt w rb s s.size) (hs : s.size ≤ 1048576) :
    Calls Try.prog 27 #[.pointer (some ⟨rb, 0, none⟩)] w fun e w' => e = gup ∧ BrAt w' rb s s.size ∧ But rb w w' := by
  have H := hideB h
  have h1 := h.src
  have h2 := h.place
  have h3 := h.free
  have h4 := h.lt
  clear h
  go_enter Try.func27, Try.ntmps27
  go_wp2_with fail
  go_quiet (fail)
  have HD1 := hideB (below_drewB (w := w) nq)
  go_wp2_with fail
  exact ⟨rfl, rfl, H.out.below HD1.out, But.of_below HD1.out⟩
end Go.Proofs.Ytnbhologgonjnaa
