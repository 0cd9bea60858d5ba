/-
  The laws' marks: texts of numbers.
-/
import Derived.Test.YtnnofahlmlikcaaTo
import Derived.Laws.Concat
import Derived.Laws.IdiomStrings
import Derived.Deep.QuietTactic
import Derived.BigQuiet
import Derived.WalkSmall
import Derived.Deep.RegionWith
namespace Go.Proofs.Ytnnofahlmlikcaa
open Go.RowKit
set_option linter.unusedSimpArgs false
set_option linter.unusedVariables false

def digB (c : Nat) : ByteArray := ⟨#[UInt8.ofNat (48 + c % 10)]⟩
theorem digB_size (c : Nat) : (digB c).size = 1 := rfl

def mloop : Nat → Nat → ByteArray → ByteArray
  | 0, _, out => out
  | f + 1, c, out => if 0 < c then mloop f (c / 10) (digB c ++ out) else out

theorem mloop_zero (f : Nat) (out : ByteArray) : mloop f 0 out = out := by cases f <;> simp [mloop]

def markOf (k : Nat) : ByteArray := ⟨#[109]⟩ ++ mloop 20 k ⟨#[]⟩

theorem digitText (c : Nat) (w : World) : (convert 42 9 (.slice (some ⟨w.heap.size, 0, none⟩) 1 1)).run Try.prog (w.alloc (.cells #[.int .u8 (48 + (c : Int) % 10)] 5)) = .ok (.string (digB c)) (w.alloc (.cells #[.int .u8 (48 + (c : Int) % 10)] 5)) := by
  refine run_convert_bytes_back (P := Try.prog) _ 42 9 5 ⟨w.heap.size, 0, none⟩ 1 [UInt8.ofNat (48 + c % 10)] (by kernel_rfl) (by kernel_rfl) (by kernel_rfl) ?_
  intro j hj
  obtain rfl : j = 0 := by simpa using hj
  have e : ((UInt8.ofNat (48 + c % 10)).toNat : Int) = 48 + (c : Int) % 10 := by
    rw [UInt8.toNat_ofNat']; omega
  show _ = some (Value.int .u8 ((UInt8.ofNat (48 + c % 10)).toNat : Int))
  rw [e]
  simp [Addr.add]

/-- The cells of a row can be written. -/
def WRow (w : World) (b n : Nat) : Prop := ∀ j, j < n → (∃ v, w.cell? ⟨b, j, none⟩ = some v) ∧ w.frozen? ⟨b, j, none⟩ = false

theorem WRow.set {w : World} {b n : Nat} (h : WRow w b n) (a : Addr) (v : Value) : WRow (w.setCell a v) b n := by
  intro j hj
  obtain ⟨⟨u, hu⟩, hf⟩ := h j hj
  refine ⟨?_, by rw [World.frozen?_setCell]; exact hf⟩
  by_cases e : a = ⟨b, j, none⟩
  · subst e; exact ⟨v, World.cell?_setCell_same _ _ _ hu⟩
  · exact ⟨u, by rw [World.cell?_setCell_other (h := e)]; exact hu⟩

theorem WRow.below {w w' : World} {b n B : Nat} (h : WRow w b n) (hb : Below B w w') (hB : b < B) : WRow w' b n := by
  intro j hj
  obtain ⟨⟨u, hu⟩, hf⟩ := h j hj
  refine ⟨⟨u, (below_cell hb hB).trans hu⟩, ?_⟩
  unfold World.frozen? at hf ⊢
  rw [show w'.heap[(⟨b, j, none⟩ : Addr).block]? = w.heap[(⟨b, j, none⟩ : Addr).block]? from hb.block b hB]
  exact hf

/-- Only blocks of P were written, of those that were there. -/
def Only (P : Nat → Prop) (w w' : World) : Prop := w.heap.size ≤ w'.heap.size ∧ ∀ c, c < w.heap.size → ¬ P c → w'.heap[c]? = w.heap[c]?

theorem Only.refl (P : Nat → Prop) (w : World) : Only P w w := ⟨Nat.le_refl _, fun _ _ _ => rfl⟩
theorem Only.trans {P : Nat → Prop} {a b c : World} (h : Only P a b) (k : Only P b c) : Only P a c := ⟨Nat.le_trans h.1 k.1, fun i h1 h2 => (k.2 i (by have := h.1; omega) h2).trans (h.2 i h1 h2)⟩
theorem Only.imp {P Q : Nat → Prop} {a b : World} (h : Only P a b) (hi : ∀ c, P c → Q c) : Only Q a b := ⟨h.1, fun c h1 h2 => h.2 c h1 fun h => h2 (hi c h)⟩
theorem Only.set {P : Nat → Prop} (w : World) {b o : Nat} (hP : P b) (v : Value) : Only P w (w.setCell ⟨b, o, none⟩ v) := ⟨by simp, fun c _ hc => Below.heap_setCell w _ v c (fun e => hc (by rw [e]; exact hP))⟩
theorem Only.of_below {P : Nat → Prop} {w w' : World} (h : Below w.heap.size w w') : Only P w w' := ⟨h.size, fun c hc _ => h.block c hc⟩
theorem Only.cell {P : Nat → Prop} {w w' : World} (h : Only P w w') {b o : Nat} (hb : b < w.heap.size) (hP : ¬ P b) : w'.cell? ⟨b, o, none⟩ = w.cell? ⟨b, o, none⟩ := by
  unfold World.cell?
  rw [show w'.heap[(⟨b, o, none⟩ : Addr).block]? = w.heap[(⟨b, o, none⟩ : Addr).block]? from h.2 b hb hP]

end Go.Proofs.Ytnnofahlmlikcaa
