import Derived.Test.YtehihemfepbmfaaGreatDoorLeaf
import Derived.Laws.Closers25b
import Derived.Laws.DeepStrings4
namespace Go.Proofs.YtehihemfepbmfaaGreatDoor
set_option linter.unusedSectionVars false
set_option maxHeartbeats 800000
open Go.RowKit
set_option linter.unusedSimpArgs false
set_option linter.unusedVariables false
def Xc2 (A : Array Value) (m : Nat) : Bool := (List.range m).all fun i => match A[i]? with | some (.string s) => decide (s.size ≤ 60) | _ => false
theorem Kn {A : Array Value} {m : Nat} (h : Xc2 A m = true) {i : Nat} (hi : i < m) : ∃ s, A[i]? = some (.string s) ∧ s.size ≤ 60 := by
 have := List.all_eq_true.1 h i (List.mem_range.2 hi)
 split at this
 ·rename_i s e; exact ⟨s, e, by simpa using this⟩
 ·cases this
theorem Jo {w : World} {A : Array Value} {T i : Nat} {v : Value} (h : A[i]? = some v) : (w.alloc (.cells A T)).cell? ⟨w.heap.size, i, none⟩ = some v := by
 simp [h]
theorem Xzk {rb n m : Nat} {w : World} {o : Obj} (h : ∃ p, RdAt w rb n p) (hm : 1 ≤ m) (hM : m ≤ 1048577) :
  Calls Tryz.prog 41 #[.pointer (some ⟨rb, 0, none⟩), .int .i64 m] (w.alloc o) fun e w' => (∃ y : Nat, y < m ∧ e = .returned (.int .i64 y) ∧ w'.cell? ⟨w.heap.size, y, none⟩ = (w.alloc o).cell? ⟨w.heap.size, y, none⟩) ∧ Drawn rb n w w' := by
 obtain ⟨p, hp⟩ := h
 have hd := (Drawn.refl hp).next ((Below.refl _ _).alloc (Nat.le_refl _) o)
 refine (Yv rb n m _ hd.rd hm hM).mono ?_
 rintro e w2 ⟨⟨y, hy, rfl⟩, hd2⟩
 exact ⟨⟨y, hy, rfl, hd2.only.cell (by simp) (fun e => by have := hp.lt; omega)⟩, hd.trans hd2⟩
theorem Ge (rb n m : Nat) (A : Array Value) (T : TypeId) (w : World) (h : ∃ p, RdAt w rb n p) (hm : 1 ≤ m) (hM : m ≤ 1048577) (hA : Xc2 A m = true) :
  Calls Tryz.prog 41 #[.pointer (some ⟨rb, 0, none⟩), .int .i64 m] (w.alloc (.cells A T)) fun e w' => (∃ (y : Nat) (s : ByteArray), y < m ∧ e = .returned (.int .i64 y) ∧ s.size ≤ 60 ∧ w'.cell? ⟨w.heap.size, y, none⟩ = some (.string s)) ∧ Drawn rb n w w' := by
 refine (Xzk h hm hM).mono ?_
 rintro e w2 ⟨⟨y, hy, rfl, hc⟩, hd⟩
 obtain ⟨s, h1, h2⟩ := Kn hA hy
 exact ⟨⟨y, s, hy, rfl, h2, hc.trans (Jo h1)⟩, hd⟩

def Xj0 (B : Nat) (w : World) (v : Value) (n : Nat) : Prop :=
 n ≤ 1048576 ∧ ∃ a cap, v = .slice a n cap ∧ (0 < n → ∃ b o, a = some ⟨b, o, none⟩ ∧ b < B ∧ ∀ i, i < n → ∃ x : Nat, x < 256 ∧ w.cell? ⟨b, o + i, none⟩ = some (.int .u8 x))
theorem Xoc (B : Nat) (v : Value) (n : Nat) (w : World) (h : Xj0 B w v n) (hB : B ≤ w.heap.size) :
  Calls Tryz.prog 38 #[v] w fun e w' => e = .returned (.pointer (some ⟨w.heap.size, 0, none⟩)) ∧ RdAt w' w.heap.size n 0 ∧ Below w.heap.size w w' := by
 obtain ⟨hn, a, cap, rfl, hc⟩ := h
 have HC := Xb hc
 clear hc
 go_enter Tryz.func38, Tryz.ntmps38
 go_wp2_with fail
 go_ret
 have hb : Below w.heap.size w (w.alloc (.cells #[.slice a n cap, .int .i64 0] 115)) := (Below.refl _ _).alloc (Nat.le_refl _) _
 refine ⟨rfl, ⟨by simp, ⟨a, cap, by simp, fun hp => ?_⟩, by simp, by omega, hn, frozen_of_row _ _ 1 _ _ (heap_alloc_new w _)⟩, hb⟩
 obtain ⟨b, o, e, hlt, hx⟩ := HC.out hp
 exact ⟨b, o, e, by omega, fun i hi => by obtain ⟨x, h3, h4⟩ := hx i hi; exact ⟨x, h3, (Xi hb (by omega)).trans h4⟩⟩
end Go.Proofs.YtehihemfepbmfaaGreatDoor
