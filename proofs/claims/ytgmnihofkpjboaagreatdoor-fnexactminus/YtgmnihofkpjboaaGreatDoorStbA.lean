/-
  One node alone, in new memory.
-/
import Derived.Test.YtgmnihofkpjboaaGreatDoorNest
import Derived.Maps.AppendAt
import Derived.Laws.OwnMore
import Derived.Test.YtgmnihofkpjboaaGreatDoorMarkM
import Derived.Test.YtgmnihofkpjboaaGreatDoorStepC
import Derived.Test.YtgmnihofkpjboaaGreatDoorMarkN
import Derived.Test.YtgmnihofkpjboaaGreatDoorProg
import Derived.BigQuiet
import Derived.BigRegion
import Derived.Test.YtgmnihofkpjboaaGreatDoorStepN
import Derived.Deep.QuietTactic
import Derived.Test.YtgmnihofkpjboaaGreatDoorStbB
namespace Go.Proofs.YtgmnihofkpjboaaGreatDoor
open Go.RowKit
set_option linter.unusedSimpArgs false
set_option linter.unusedVariables false

def leafN (kind n : Int) (s : ByteArray) : List VN := [{ kind := kind, n := n, s := s, keys := [], kids := [] }]

theorem leaf_nest (w : World) (kind n : Int) (s : ByteArray) : Nest w.heap.size (w.alloc (.cells #[.int .i64 kind, .int .i64 n, .string s, .slice none 0 0, .slice none 0 0] 37)) (.slice (some ⟨w.heap.size, 0, none⟩) 1 1) (leafN kind n s) (fun _ => .slice none 0 0) (fun _ => .slice none 0 0) := by
  refine ⟨?_, fun i hi => ?_, fun i hi => ?_, fun i j hi hj hne => ?_, fun i j hi hj hne => ?_⟩
  · have := World.ownsRow_lit (base := w.heap.size) (e := 37) (size := 5) w #[.int .i64 kind, .int .i64 n, .string s, .slice none 0 0, .slice none 0 0] 1 (Nat.le_refl _) (by simp [maxLen]) rfl
    have eu : upd (fun _ => Value.slice none 0 0) 0 (.slice none 0 0) = fun _ => .slice none 0 0 := by funext i; unfold upd; split <;> rfl
    have e : nestCells (leafN kind n s) (fun _ => .slice none 0 0) (fun _ => .slice none 0 0) = [.int .i64 kind, .int .i64 n, .string s, .slice none 0 0, .slice none 0 0] := by
      have h := nestCells_snoc [] { kind := kind, n := n, s := s, keys := [], kids := [] } (fun _ => .slice none 0 0) (fun _ => .slice none 0 0) (.slice none 0 0) (.slice none 0 0)
      simp only [List.length_nil, eu, List.nil_append] at h
      exact h
    rw [e]
    exact this
  · obtain rfl : i = 0 := by simp [leafN] at hi; omega
    exact World.ownsRow_nil _ _ _ _
  · obtain rfl : i = 0 := by simp [leafN] at hi; omega
    exact World.ownsRow_nil _ _ _ _
  · simp [leafN] at hi hj; omega
  · simp [leafN] at hi hj; omega
end Go.Proofs.YtgmnihofkpjboaaGreatDoor

/-
  append of a slice that came in, nil or not, onto a row of one's own: what the row is then, and where it lies.
-/
namespace Go.Proofs.YtgmnihofkpjboaaGreatDoor
open Go.RowKit
set_option linter.unusedSimpArgs false
set_option linter.unusedVariables false

theorem run_append_none_any {P : Program} {w : World} (base : Nat) (t ty e : TypeId) (i : TypeInfo) (size c : Nat) (ht : P.underlying t = some (.slice e)) (hi : P.info? e = some i)
    (v : Value) (n : Nat) (xs : List Value) (hown : w.ownsRow base e size v n xs) :
    (Builtin.append_ #[t, t] ty #[v, .slice none 0 c]).run P w = .ok v w := by
  rcases hown.2 with ⟨rfl, rfl⟩ | ⟨g, cap, cur, rfl, _, _, hnc, _⟩
  · simp [Builtin.append_, run_underlying ht, sizeOf, typeInfo, hi, Builtin.lenOf, Builtin.firstCells]
  · simp [Builtin.append_, run_underlying ht, sizeOf, typeInfo, hi, Builtin.lenOf, Builtin.firstCells, hnc, storeCells]

theorem wpList_append_src {P : Program} {w : World} {ops : Array Oper} {rest : List Oper} {o : Oper} {a : Act} {Q : Exit → Act → World → Prop} (hgd : o.guard = none) (s x : Operand) (t : TypeId)
    (ho : o.op = .call { callee := .builtin .append, args := #[s, x], argTypes := #[t, t] })
    (base : Nat) (e : TypeId) (i : TypeInfo) (z : Value) (size bytes : Nat) (ht : P.underlying t = some (.slice e)) (hi : P.info? e = some i) (hz : i.zero = some z)
    (hsize : i.size = size) (hby : i.bytes = bytes) (hzs : z.cells.size = size) (hsz : 0 < size)
    (v : Value) (n : Nat) (xs : List Value) (hs : a.eval s = v) (hown : w.ownsRow base e size v n xs)
    (ax : Option Addr) (m c : Nat) (news : List Value) (hx : a.eval x = .slice ax m c) (hl : news.length = m * size) (hsrc : 0 < m → ∃ ad, ax = some ad ∧ ∀ j u, news[j]? = some u → w.cell? (ad.add j) = some u) (h1 : ∀ u ∈ news, u.oneCell' = true)
    (h63 : n + m ≤ maxLen) (hbytes : (n + m) * bytes ≤ 140737488355328) (hbase : base ≤ w.heap.size)
    (h : ∀ v' w', w'.ownsRow base e size v' (n + m) (xs ++ news) → w.grownBy w' v.ownBlock → (v'.ownBlock = v.ownBlock ∨ v'.ownBlock = some w.heap.size) → wpList P ops Q rest (a.put o.dst v') w') : wpList P ops Q (o :: rest) a w := by
  rcases Nat.eq_zero_or_pos m with e0 | e0
  · subst e0
    obtain rfl : news = [] := List.eq_nil_of_length_eq_zero (by simpa using hl)
    cases ax with
    | none =>
      refine wpList_plain hgd fun K hK => ?_
      have hrun := run_append_none_any (P := P) (w := w) base t o.type e i size c ht hi v n xs hown
      unfold Oper.wp
      simp [execOp, ho, resolve, invoke, builtin, hs, hx, hrun, Result.andThen]
      exact hK _ _ (h v w (by simpa using hown) ⟨rfl, rfl, rfl, Nat.le_refl _, fun _ _ _ => rfl⟩ (Or.inl rfl))
    | some ad =>
      exact wpList_append_own_at w hgd s x t ho base e i z size bytes ht hi hz hsize hby hzs hsz v n xs hs hown ad 0 c [] hx hl (fun j u hj => by simp at hj) h1 h63 hbytes hbase (fun v' w' h2 h3 _ h5 => h v' w' h2 h3 h5)
  · obtain ⟨ad, rfl, hc⟩ := hsrc e0
    exact wpList_append_own_at w hgd s x t ho base e i z size bytes ht hi hz hsize hby hzs hsz v n xs hs hown ad m c news hx hl hc h1 h63 hbytes hbase (fun v' w' h2 h3 _ h5 => h v' w' h2 h3 h5)
end Go.Proofs.YtgmnihofkpjboaaGreatDoor

/-
  All blocks from one on are kept. No walk.
-/
namespace Go.Proofs.YtgmnihofkpjboaaGreatDoor
open Go.RowKit
set_option linter.unusedSimpArgs false
set_option linter.unusedVariables false

/-- All blocks from base on are as they were. -/
def From (base : Nat) (w w' : World) : Prop := w.heap.size ≤ w'.heap.size ∧ ∀ c, base ≤ c → c < w.heap.size → w'.heap[c]? = w.heap[c]?
theorem From.below {base : Nat} {a w w' : World} (h : From base a w) (hb : Below w.heap.size w w') : From base a w' :=
  ⟨Nat.le_trans h.1 hb.size, fun c h1 h2 => (hb.block c (by have := h.1; omega)).trans (h.2 c h1 h2)⟩
theorem From.refl (base : Nat) (w : World) : From base w w := ⟨Nat.le_refl _, fun _ _ _ => rfl⟩
theorem From.mono {base base' : Nat} {w w' : World} (h : From base w w') (hb : base ≤ base') : From base' w w' := ⟨h.1, fun c h1 h2 => h.2 c (by omega) h2⟩

theorem own_from {w w' : World} {base e s n : Nat} {v : Value} {xs : List Value} (h : w.ownsRow base e s v n xs) (hf : From base w w') : w'.ownsRow base e s v n xs := by
  refine ⟨h.1, ?_⟩
  rcases h.2 with hn | ⟨g, cap, cur, rfl, hg, hgg, rest⟩
  · exact .inl hn
  · exact .inr ⟨g, cap, cur, rfl, hg, (hf.2 g hg (h.lt g rfl).2).trans hgg, rest⟩

end Go.Proofs.YtgmnihofkpjboaaGreatDoor

/-
  Copies that the laws make have memory of their own: they can be marked.
-/
namespace Go.Proofs.YtgmnihofkpjboaaGreatDoor
open Go.RowKit
set_option linter.unusedSimpArgs false
set_option linter.unusedVariables false

theorem rowW {w : World} {b t n : Nat} {f : Nat → Value} (h : w.rowIs b t n f) : WRow w b n := fun j hj => ⟨⟨_, h.cell hj⟩, h.frozen j⟩

theorem OwnAt.marky {w : World} {b : Nat} {vs : List VN} {KB KI : Nat → Nat} (h : OwnAt w b vs KB KI) (hn : vs.length ≤ 1048576) (hk : ∀ i, i < vs.length → (nodeAt vs i).keys.length ≤ 1048576 ∧ (nodeAt vs i).kids.length ≤ 1048576) :
    Marky b w b vs.length (fun i => (nodeAt vs i).keys.length) (fun i => (nodeAt vs i).kids.length) KB KI := by
  have mono : ∀ i j, i < vs.length → j < vs.length → i ≠ j → KI i < KB j ∨ KI j < KB i := by
    intro i j hi hj e
    rcases Nat.lt_or_gt_of_ne e with e | e
    · exact Or.inl (h.to.mono i j e hj)
    · exact Or.inr (h.to.mono j i e hi)
  refine ⟨Nat.le_refl _, h.row.lt, hn, rowW h.row, hk, fun i hi => ?_, fun i hi => ?_, fun i hi => ?_, fun i j hi hj e _ _ => ?_, fun i j hi hj _ _ => ?_, fun i j hi hj e _ _ => ?_⟩
  · refine ⟨_, _, by rw [h.row.cell (by omega), nodeCell3], fun _ => ⟨rfl, ?_, (h.to.rk i hi).lt, rowW (h.to.rk i hi)⟩⟩
    have := h.to.lo i hi
    omega
  · refine ⟨_, _, by rw [h.row.cell (by omega), nodeCell4], fun _ => ⟨rfl, ?_, (h.to.ri i hi).lt, rowW (h.to.ri i hi)⟩⟩
    have := h.to.lo i hi
    omega
  · have := h.to.lo i hi
    exact ⟨fun _ => by omega, fun _ => by omega⟩
  · have := h.to.lo i hi
    have := h.to.lo j hj
    have := mono i j hi hj e
    omega
  · have := h.to.lo i hi
    have := h.to.lo j hj
    by_cases e : i = j
    · subst e; omega
    · have := mono i j hi hj e
      omega
  · have := h.to.lo i hi
    have := h.to.lo j hj
    have := mono i j hi hj e
    omega

/-- The blocks that the marks of such a copy write: from its row on, and below its end. -/
theorem OwnAt.marked {w : World} {b x : Nat} {vs : List VN} {KB KI : Nat → Nat} (h : OwnAt w b vs KB KI) (hx : Marked b vs.length (fun i => (nodeAt vs i).keys.length) (fun i => (nodeAt vs i).kids.length) KB KI x) : b ≤ x ∧ x < w.heap.size := by
  obtain ⟨_, rfl | ⟨i, hi, ⟨_, rfl⟩ | ⟨_, rfl⟩⟩⟩ := hx
  · exact ⟨Nat.le_refl _, h.row.lt⟩
  · have := h.to.lo i hi
    exact ⟨by omega, (h.to.rk i hi).lt⟩
  · have := h.to.lo i hi
    exact ⟨by omega, (h.to.ri i hi).lt⟩
end Go.Proofs.YtgmnihofkpjboaaGreatDoor

/-
  slices' swapRange and rotate at rows of numbers: what stands where behind them.
-/
namespace Go.Proofs.YtgmnihofkpjboaaGreatDoor
open Go.RowKit
set_option linter.unusedSimpArgs false
set_option linter.unusedVariables false

def nums (f : Nat → Int) (j : Nat) : Value := .int .i64 (f j)

theorem nums_set2 {w : World} {g t N : Nat} {f : Nat → Int} (h : w.rowIs g t N (nums f)) (x y : Nat) (u v : Int) : ((w.setCell ⟨g, x, none⟩ (.int .i64 u)).setCell ⟨g, y, none⟩ (.int .i64 v)).rowIs g t N (nums (fun p => if p = y then v else if p = x then u else f p)) := by
  refine ((h.set x _).set y _).congr fun p _ => ?_
  unfold nums
  by_cases e1 : p = y
  · simp [e1]
  · by_cases e2 : p = x
    · subst e2; simp [e1]
    · simp [e1, e2]

/-- Nothing but block g has turned; there may be more blocks. -/
def Sw (g : Nat) (w w' : World) : Prop := w'.os = w.os ∧ w'.tape = w.tape ∧ w'.output = w.output ∧ Only (· = g) w w'

theorem Sw.refl (g : Nat) (w : World) : Sw g w w := ⟨rfl, rfl, rfl, Only.refl _ _⟩
theorem Sw.trans {g : Nat} {a b c : World} (h : Sw g a b) (k : Sw g b c) : Sw g a c := ⟨k.1.trans h.1, k.2.1.trans h.2.1, k.2.2.1.trans h.2.2.1, h.2.2.2.trans k.2.2.2⟩
theorem Sw.set {g : Nat} {a b : World} (h : Sw g a b) (o : Nat) (v : Value) : Sw g a (b.setCell ⟨g, o, none⟩ v) := by
  have hb : Below g b (b.setCell ⟨g, o, none⟩ v) := (Below.refl _ _).setCell (p := ⟨g, o, none⟩) (Nat.le_refl _) v
  exact h.trans ⟨hb.os, hb.tape, hb.output, Only.set (P := (· = g)) b rfl v⟩
theorem Sw.drew {g : Nat} {a b : World} (h : Sw g a b) : Sw g a b.drew := ⟨h.1, h.2.1, h.2.2.1, h.2.2.2⟩
theorem Sw.drewN {g : Nat} {a b : World} (h : Sw g a b) (n : Nat) : Sw g a (b.drewN n) := ⟨h.1, h.2.1, h.2.2.1, h.2.2.2⟩
theorem Sw.below {g B : Nat} {a b : World} (h : Sw g a b) (hB : B ≤ g) (hs : B ≤ a.heap.size) : Below B a b := ⟨h.1, h.2.1, h.2.2.1, h.2.2.2.1, fun k hk => h.2.2.2.2 k (by omega) (by omega)⟩

end Go.Proofs.YtgmnihofkpjboaaGreatDoor

/-
  slices' symMerge at rows of numbers, with the closure of sortedPlaces: two rows that rise become one.
-/
namespace Go.Proofs.YtgmnihofkpjboaaGreatDoor
open Go.RowKit
set_option linter.unusedSimpArgs false
set_option linter.unusedVariables false

def NumsIn (f : Nat → Int) (N : Nat) : Prop := ∀ p, p < N → 0 ≤ f p ∧ f p < N

theorem Merged.vals {R : Int → Int → Prop} {f f' : Nat → Int} {a b N : Nat} (h : Merged R f f' a b) (hv : NumsIn f N) (hb : b ≤ N) : NumsIn f' N := fun p hp => by
  by_cases c : a ≤ p ∧ p < b
  · obtain ⟨q, q1, q2, q3⟩ := h.inn p c.1 c.2
    rw [q3]; exact hv q (by omega)
  · rw [h.out p (by omega)]; exact hv p hp

theorem rot_vals {s m e N : Nat} {f : Nat → Int} (hv : NumsIn f N) (h1 : s ≤ m) (h2 : m ≤ e) (h3 : e ≤ N) : NumsIn (rot s m e f) N := fun p hp => by
  obtain ⟨q, q1, q2, q3⟩ := rot_inn (f := f) h1 h2 (Nat.zero_le s) h3 p (Nat.zero_le _) hp
  rw [q3]; exact hv q q2

end Go.Proofs.YtgmnihofkpjboaaGreatDoor

/-
  slices' symMerge where the second row is of one cell.
-/
namespace Go.Proofs.YtgmnihofkpjboaaGreatDoor
open Go.RowKit
set_option linter.unusedSimpArgs false
set_option linter.unusedVariables false

end Go.Proofs.YtgmnihofkpjboaaGreatDoor

/-
  slices' symMerge: two rows that rise become one that rises.
-/
namespace Go.Proofs.YtgmnihofkpjboaaGreatDoor
open Go.RowKit
set_option linter.unusedSimpArgs false
set_option linter.unusedVariables false

end Go.Proofs.YtgmnihofkpjboaaGreatDoor

/-
  slices' insertionSort at rows of numbers, with the closure of sortedPlaces.
-/
namespace Go.Proofs.YtgmnihofkpjboaaGreatDoor
open Go.RowKit
set_option linter.unusedSimpArgs false
set_option linter.unusedVariables false

/-- One more has been put into its place. -/
theorem ins_step {R : Int → Int → Prop} (hR : Tot R) {f fk : Nat → Int} {a i j : Nat} (h1 : a ≤ j) (h2 : j ≤ i) (hm : Merged R f fk a i) (hfi : ∀ p, i ≤ p → fk p = f p)
    (hbig : ∀ p, j ≤ p → p < i → R (f i) (fk p)) (hlow : a < j → R (fk (j - 1)) (f i)) : Merged R f (rot j i (i + 1) fk) a (i + 1) := by
  have hl : ∀ p, a ≤ p → p < j → R (fk p) (f i) := fun p hp hpj => by
    have := hlow (by omega)
    by_cases e : p = j - 1
    · rw [e]; exact this
    · exact hR.tr _ _ _ (hm.ris p (j - 1) hp (by omega) (by omega)) this
  have m2 : Merged R fk (rot j i (i + 1) fk) a (i + 1) := merged_2 h1 h2 (by omega) hm.ris (fun p q h1 h2 h3 => by omega) (fun p q h3 h4 h5 h6 => by
      obtain rfl : q = i := by omega
      rw [hfi q (Nat.le_refl _)]; exact hl p h3 h4) (fun p q h3 h4 h5 h6 => by
      obtain rfl : q = i := by omega
      rw [hfi q (Nat.le_refl _)]; exact hbig p h3 h4)
  refine ⟨fun p hp => ?_, fun p h3 h4 => ?_, m2.ris⟩
  · rw [m2.out p hp]
    rcases hp with c | c
    · exact hm.out p (Or.inl c)
    · exact hfi p (by omega)
  · obtain ⟨q, q1, q2, q3⟩ := m2.inn p h3 h4
    by_cases c : q < i
    · obtain ⟨r, r1, r2, r3⟩ := hm.inn q q1 c
      exact ⟨r, r1, by omega, by rw [q3, r3]⟩
    · exact ⟨q, q1, q2, by rw [q3, hfi q (by omega)]⟩

end Go.Proofs.YtgmnihofkpjboaaGreatDoor

/-
  slices' stable sort at rows of numbers that rise, with the closure of sortedPlaces.
-/
namespace Go.Proofs.YtgmnihofkpjboaaGreatDoor
open Go.RowKit
set_option linter.unusedSimpArgs false
set_option linter.unusedVariables false

/-- Between two blocks: ahead of a all blocks are done, from a on nothing is. -/
theorem ins_block {R : Int → Int → Prop} {f fk fk' : Nat → Int} {a b : Nat} (he : ∀ p, a ≤ p → fk p = f p) (hm : Merged R fk fk' a b) : Blk R f fk' a b := by
  refine ⟨fun p h1 h2 => ?_, hm.ris⟩
  obtain ⟨q, q1, q2, q3⟩ := hm.inn p h1 h2
  exact ⟨q, q1, q2, by rw [q3, he q q1]⟩

theorem vals_of {R : Int → Int → Prop} {f fk : Nat → Int} {N : Nat} (hv : NumsIn f N) (h : ∀ p, p < N → ∃ q, q < N ∧ fk p = f q) : NumsIn fk N := fun p hp => by
  obtain ⟨q, q1, q2⟩ := h p hp
  rw [q2]; exact hv q q1

end Go.Proofs.YtgmnihofkpjboaaGreatDoor
