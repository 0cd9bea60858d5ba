import Derived.Test.YtehihemfepbmfaaGreatDoorProg
import Derived.Test.YtehihemfepbmfaaGreatDoorUneP
import Derived.WideShapes
import Derived.Below
import Derived.Lib.FrozenHead
namespace Go.Proofs.YtehihemfepbmfaaGreatDoor
set_option linter.unusedSectionVars false
open Go.RowKit Go.WideShapes
set_option linter.unusedSimpArgs false
set_option linter.unusedVariables false
def RowB (base : Nat) (w : World) (v : Value) (l : List UInt8) : Prop := w.ownsRow base 5 1 v l.length (Lib.byteCells l)
theorem RowB.slice {base : Nat} {w : World} {v : Value} {l : List UInt8} (h : RowB base w v l) : ∃ a c, v = .slice a l.length c := by
 rcases h.2 with ⟨rfl, h0⟩ | ⟨g, cap, cur, rfl, _⟩
 ·rw [h0]; exact ⟨_, _, rfl⟩
 ·exact ⟨_, _, rfl⟩
theorem Xse (w : World) : RowB w.heap.size (w.alloc (.cells #[] 5)) (.slice (some ⟨w.heap.size, 0, none⟩) 0 0) [] := by
 have := World.ownsRow_lit (base := w.heap.size) (e := 5) (size := 1) w #[] 0 (Nat.le_refl _) (by simp [maxLen]) rfl
 simpa [RowB, Lib.byteCells] using this
theorem Wa : (Tryz.prog.info? 5).map (fun i => (i.zero, i.size, i.bytes)) = some (some (.int .u8 0), 1, 1) := by kernel_rfl
theorem Uc {P : Program} {t : TypeId} {z : Option Value} {s b : Nat} (h : (P.info? t).map (fun i => (i.zero, i.size, i.bytes)) = some (z, s, b)) : ∃ i, P.info? t = some i ∧ i.zero = z ∧ i.size = s ∧ i.bytes = b := by
 cases hi : P.info? t with
 | none => simp [hi] at h
 | some i => simp [hi] at h; exact ⟨i, rfl, h.1, h.2.1, h.2.2⟩
theorem Xd4 (w : World) (c : UInt8) : ∀ j u, [Value.int .u8 (c.toNat : Int)][j]? = some u → (w.alloc (.cells #[.int .u8 (c.toNat : Int)] 5)).cell? ((⟨w.heap.size, 0, none⟩ : Addr).add j) = some u := by
 intro j u hj
 match j, hj with
 | 0, hj => simp at hj; subst hj; simp [Addr.add]
theorem Xfw {base : Nat} {w w' : World} {v v' : Value} {l : List UInt8} {c : UInt8} (hbase : base ≤ w.heap.size) (hrow : RowB base w v l)
  (hown : w'.ownsRow base 5 1 v' (l.length + 1) (Lib.byteCells l ++ [.int .u8 (c.toNat : Int)])) (hgrow : (w.alloc (.cells #[.int .u8 (c.toNat : Int)] 5)).grownBy w' v.ownBlock) : RowB base w' v' (l ++ [c]) ∧ Below base w w' := by
 refine ⟨?_, ?_⟩
 ·unfold RowB
  have e : Lib.byteCells (l ++ [c]) = Lib.byteCells l ++ [.int .u8 (c.toNat : Int)] := by simp [Lib.byteCells]
  rw [e, List.length_append]
  exact hown
 ·exact ((Below.refl base w).alloc hbase _).grown hgrow (by simp; omega) (fun k hk => (hrow.lt k hk).1)
theorem Xkh {ops : Array Oper} {rest : List Oper} {o : Oper} {a : Act} {Q : Exit → Act → World → Prop} {w : World} (hgd : o.guard = none) (s x : Operand)
  (ho : o.op = .call { callee := .builtin .append, args := #[s, x], argTypes := #[22, 22] }) (base : Nat) (l : List UInt8) (v : Value) (hs : a.eval s = v) (hrow : RowB base w v l) (c : UInt8)
  (hx : a.eval x = .slice (some ⟨w.heap.size, 0, none⟩) 1 1) (hlen : l.length + 1 ≤ 70368744177664) (hbase : base ≤ w.heap.size)
  (h : ∀ v' w', RowB base w' v' (l ++ [c]) → Below base w w' → wpList Tryz.prog ops Q rest (a.put o.dst v') w') : wpList Tryz.prog ops Q (o :: rest) a (w.alloc (.cells #[.int .u8 (c.toNat : Int)] 5)) := by
 obtain ⟨i0, hi0, hz0, hs0, hy0⟩ := Uc Wa
 refine wpList_append_own _ hgd s x 22 ho base 5 i0 (.int .u8 0) 1 1 Tryz.underlying22 hi0 hz0 hs0 hy0 rfl (by decide) v l.length (Lib.byteCells l) hs (hrow.alloc _) ⟨w.heap.size, 0, none⟩ 1 1 [.int .u8 (c.toNat : Int)] hx rfl (Xd4 w c) (by intro u hu; simp at hu; subst hu; rfl) (by unfold maxLen; omega) (by omega) (by simp; omega) ?_
 intro v' w' hown hgrow _
 have := Xfw hbase hrow hown hgrow
 exact h v' w' this.1 this.2
theorem RowB.text {base : Nat} {w : World} {a : Option Addr} {cap : Nat} {l : List UInt8} {n : Nat} (hn : l.length = n) (h : RowB base w (.slice a n cap) l) :
  (convert 22 9 (.slice a n cap)).run Tryz.prog w = .ok (.string (txt l)) w := by
 subst hn
 rcases h.2 with ⟨hv, h0⟩ | ⟨g, cap', cur, hv, _⟩
 ·obtain rfl : l = [] := List.eq_nil_of_length_eq_zero h0
  cases hv
  kernel_rfl
 ·cases hv
  exact run_convert_bytes_back (P := Tryz.prog) w 22 9 5 ⟨g, 0, none⟩ cap l Tryz.underlying22 Tryz.underlying5 Tryz.underlying9 (fun j hj => h.cells rfl j _ (by simp [Lib.byteCells, hj]))
end Go.Proofs.YtehihemfepbmfaaGreatDoor
