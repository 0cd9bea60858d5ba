/-
  Keys with their places put in order, one behind the other. Plain mathematics, and slices of a row.
-/
import Derived.Test.YtpakfgonemiebaaGotP
import Derived.Test.YtpakfgonemiebaaSS
import Derived.Test.YtpakfgonemiebaaStbP
import Derived.Test.YtpakfgonemiebaaMarkN
import Derived.Test.YtpakfgonemiebaaProg
import Derived.BigQuiet
import Derived.BigRegion
import Derived.Test.YtpakfgonemiebaaPhase
import Derived.Deep.QuietTactic
namespace Go.Proofs.Ytpakfgonemiebaa
open Go.RowKit
set_option linter.unusedSimpArgs false
set_option linter.unusedVariables false

/-- The first i keys in order with their places; none: two are the same. -/
def sortIn (ks : List ByteArray) : Nat → Option (List ByteArray × List Nat)
  | 0 => some ([], [])
  | i + 1 => match sortIn ks i with
    | none => none
    | some (ns, ps) => if hasK ns (keyAt ks i) = true then none else some (ns.take (posK ns (keyAt ks i)) ++ [keyAt ks i] ++ ns.drop (posK ns (keyAt ks i)), ps.take (posK ns (keyAt ks i)) ++ [i] ++ ps.drop (posK ns (keyAt ks i)))

theorem sortIn_len {ks : List ByteArray} : ∀ {i : Nat} {ns : List ByteArray} {ps : List Nat}, sortIn ks i = some (ns, ps) → ns.length = i ∧ ps.length = i := by
  intro i
  induction i with
  | zero => intro ns ps h; simp [sortIn] at h; obtain ⟨rfl, rfl⟩ := h; exact ⟨rfl, rfl⟩
  | succ i ih =>
    intro ns ps h
    rw [sortIn] at h
    split at h
    · cases h
    · rename_i ns0 ps0 h0
      obtain ⟨h1, h2⟩ := ih h0
      split at h
      · cases h
      · injection h with h
        injection h with e1 e2
        subst e1 e2
        have := (posK_spec (l := ns0) (keyAt ks i)).1
        simp
        omega

theorem sortIn_mem {ks : List ByteArray} : ∀ {i : Nat} {ns : List ByteArray} {ps : List Nat}, sortIn ks i = some (ns, ps) → ∀ x ∈ ps, x < i := by
  intro i
  induction i with
  | zero => intro ns ps h; simp [sortIn] at h; obtain ⟨rfl, rfl⟩ := h; simp
  | succ i ih =>
    intro ns ps h
    rw [sortIn] at h
    split at h
    · cases h
    · rename_i ns0 ps0 h0
      split at h
      · cases h
      · injection h with h
        injection h with e1 e2
        subst e1 e2
        intro x hx
        simp only [List.mem_append, List.mem_singleton] at hx
        rcases hx with (hx | hx) | hx
        · have := ih h0 x (List.mem_of_mem_take hx); omega
        · omega
        · have := ih h0 x (List.mem_of_mem_drop hx); omega

theorem sortIn_none {ks : List ByteArray} {i j : Nat} (h : sortIn ks i = none) (hij : i ≤ j) : sortIn ks j = none := by
  obtain ⟨d, rfl⟩ : ∃ d, j = i + d := ⟨j - i, by omega⟩
  clear hij
  induction d with
  | zero => exact h
  | succ d ih => rw [← Nat.add_assoc, sortIn, ih]

theorem sortIn_put {ks : List ByteArray} {i j : Nat} {ns : List ByteArray} {ps : List Nat} (h : sortIn ks i = some (ns, ps)) (hj : posK ns (keyAt ks i) = j) (hn : hasK ns (keyAt ks i) = false) : sortIn ks (i + 1) = some (ns.take j ++ [keyAt ks i] ++ ns.drop j, ps.take j ++ [i] ++ ps.drop j) := by
  rw [sortIn, h]
  simp only [hn, hj]
  rfl

theorem sortIn_twice {ks : List ByteArray} {i : Nat} {ns : List ByteArray} {ps : List Nat} (h : sortIn ks i = some (ns, ps)) (hn : hasK ns (keyAt ks i) = true) : sortIn ks (i + 1) = none := by
  rw [sortIn, h]
  simp only [hn]
  rfl

theorem hasK_at {l : List ByteArray} {key : ByteArray} {j : Nat} (hj : posK l key = j) : hasK l key = (decide (j < l.length) && decide ((keyAt l j).toList = key.toList)) := by unfold hasK; rw [hj]

theorem keyAt_mapGet {l : List ByteArray} {j : Nat} (hj : j < l.length) : (l.map Value.string)[j]? = some (.string (keyAt l j)) := by
  rw [List.getElem?_map, List.getElem?_eq_getElem hj]
  simp [keyAt, hj]

/-- A row of rows, by its cells alone. -/
def CellsAt (B : Nat) (w : World) (v : Value) (m : Nat) (cs : Nat → Value) : Prop :=
  ∃ a cap, v = .slice a m cap ∧ (∀ i, i < m → ∃ a n c, cs i = .slice a n c) ∧ (0 < m → ∃ b o, a = some ⟨b, o, none⟩ ∧ b < B ∧ ∀ i, i < m → w.cell? ⟨b, o + i, none⟩ = some (cs i))

theorem own_some {w : World} {base e s n x : Nat} {v : Value} {xs : List Value} (h : w.ownsRow base e s v n xs) (hx : v.ownBlock = some x) : ∃ cap, v = .slice (some ⟨x, 0, none⟩) n cap ∧ n ≤ cap := by
  rcases h.2 with ⟨rfl, _⟩ | ⟨g, cap, cur, rfl, _, _, hnc, _⟩
  · simp [Value.ownBlock] at hx
  · simp [Value.ownBlock] at hx
    subst hx
    exact ⟨cap, rfl, hnc⟩

theorem elemStr : Try.prog.elem 75 = 9 := by kernel_rfl
theorem elemRow : Try.prog.elem 40 = 24 := by kernel_rfl
theorem sizeStr (w : World) : (sizeOf 9).run Try.prog w = .ok 1 w := by
  obtain ⟨i, hi, hz, hs, hy⟩ := info_parts infoStr
  simp [sizeOf, typeInfo, hi, hs]
theorem infoRowV : (Try.prog.info? 24).map (fun i => (i.zero, i.size, i.bytes)) = some (some (.slice none 0 0), 1, 24) := by kernel_rfl
theorem sizeRow (w : World) : (sizeOf 24).run Try.prog w = .ok 1 w := by
  obtain ⟨i, hi, hz, hs, hy⟩ := info_parts infoRowV
  simp [sizeOf, typeInfo, hi, hs]

theorem sliced_to (g j cap : Nat) : sliced (some ⟨g, 0, none⟩) 0 j cap 1 = .slice (some ⟨g, 0, none⟩) j cap := by
  unfold sliced
  split
  · rename_i h; subst h; simp
  · simp [Addr.add]
theorem sliced_from (g j n cap : Nat) : ∃ ad, sliced (some ⟨g, 0, none⟩) j n cap 1 = .slice (some ad) (n - j) (cap - j) ∧ (j < n → n ≤ cap → ad = ⟨g, j, none⟩) := by
  unfold sliced
  split
  · rename_i h; subst h; exact ⟨_, rfl, fun h1 h2 => by omega⟩
  · exact ⟨_, rfl, fun _ _ => by simp [Addr.add]; intro h; exact h.symm⟩

theorem strs_to (g n cap j : Nat) (hj : j ≤ cap) (w : World) : (Instr.slice 75 (.slice (some ⟨g, 0, none⟩) n cap) none (some (.int .i64 (j : Int))) none).run Try.prog w = .ok (.slice (some ⟨g, 0, none⟩) j cap) w := by
  rw [run_slice_h (P := Try.prog) (w := w) 75 (some ⟨g, 0, none⟩) n cap (by rw [elemStr]; exact Try.underlying75) .i64 j (by omega) (by omega), elemStr, sizeStr]
  simp only [Result.andThen, Int.toNat_natCast, sliced_to]
theorem rows_to (g n cap j : Nat) (hj : j ≤ cap) (w : World) : (Instr.slice 40 (.slice (some ⟨g, 0, none⟩) n cap) none (some (.int .i64 (j : Int))) none).run Try.prog w = .ok (.slice (some ⟨g, 0, none⟩) j cap) w := by
  rw [run_slice_h (P := Try.prog) (w := w) 40 (some ⟨g, 0, none⟩) n cap (by rw [elemRow]; exact Try.underlying40) .i64 j (by omega) (by omega), elemRow, sizeRow]
  simp only [Result.andThen, Int.toNat_natCast, sliced_to]
theorem strs_from (g n cap j : Nat) (hj : j ≤ n) : ∃ ad, (∀ w, (Instr.slice 75 (.slice (some ⟨g, 0, none⟩) n cap) (some (.int .i64 (j : Int))) none none).run Try.prog w = .ok (.slice (some ad) (n - j) (cap - j)) w) ∧ (j < n → n ≤ cap → ad = ⟨g, j, none⟩) := by
  obtain ⟨ad, h1, h2⟩ := sliced_from g j n cap
  refine ⟨ad, fun w => ?_, h2⟩
  rw [run_slice_l (P := Try.prog) (w := w) 75 (some ⟨g, 0, none⟩) n cap (by rw [elemStr]; exact Try.underlying75) .i64 j (by omega) (by omega), elemStr, sizeStr]
  simp only [Result.andThen, Int.toNat_natCast, h1]
theorem rows_from (g n cap j : Nat) (hj : j ≤ n) : ∃ ad, (∀ w, (Instr.slice 40 (.slice (some ⟨g, 0, none⟩) n cap) (some (.int .i64 (j : Int))) none none).run Try.prog w = .ok (.slice (some ad) (n - j) (cap - j)) w) ∧ (j < n → n ≤ cap → ad = ⟨g, j, none⟩) := by
  obtain ⟨ad, h1, h2⟩ := sliced_from g j n cap
  refine ⟨ad, fun w => ?_, h2⟩
  rw [run_slice_l (P := Try.prog) (w := w) 40 (some ⟨g, 0, none⟩) n cap (by rw [elemRow]; exact Try.underlying40) .i64 j (by omega) (by omega), elemRow, sizeRow]
  simp only [Result.andThen, Int.toNat_natCast, h1]
end Go.Proofs.Ytpakfgonemiebaa

/-
  slices' swapRange and rotate at rows of numbers: what stands where behind them.
-/
namespace Go.Proofs.Ytpakfgonemiebaa
open Go.RowKit
set_option linter.unusedSimpArgs false
set_option linter.unusedVariables false

def nums (f : Nat → Int) (j : Nat) : Value := .int .i64 (f j)

theorem nums_set2 {w : World} {g t N : Nat} {f : Nat → Int} (h : w.rowIs g t N (nums f)) (x y : Nat) (u v : Int) : ((w.setCell ⟨g, x, none⟩ (.int .i64 u)).setCell ⟨g, y, none⟩ (.int .i64 v)).rowIs g t N (nums (fun p => if p = y then v else if p = x then u else f p)) := by
  refine ((h.set x _).set y _).congr fun p _ => ?_
  unfold nums
  by_cases e1 : p = y
  · simp [e1]
  · by_cases e2 : p = x
    · subst e2; simp [e1]
    · simp [e1, e2]

/-- Nothing but block g has turned; there may be more blocks. -/
def Sw (g : Nat) (w w' : World) : Prop := w'.os = w.os ∧ w'.tape = w.tape ∧ w'.output = w.output ∧ Only (· = g) w w'

theorem Sw.refl (g : Nat) (w : World) : Sw g w w := ⟨rfl, rfl, rfl, Only.refl _ _⟩
theorem Sw.trans {g : Nat} {a b c : World} (h : Sw g a b) (k : Sw g b c) : Sw g a c := ⟨k.1.trans h.1, k.2.1.trans h.2.1, k.2.2.1.trans h.2.2.1, h.2.2.2.trans k.2.2.2⟩
theorem Sw.set {g : Nat} {a b : World} (h : Sw g a b) (o : Nat) (v : Value) : Sw g a (b.setCell ⟨g, o, none⟩ v) := by
  have hb : Below g b (b.setCell ⟨g, o, none⟩ v) := (Below.refl _ _).setCell (p := ⟨g, o, none⟩) (Nat.le_refl _) v
  exact h.trans ⟨hb.os, hb.tape, hb.output, Only.set (P := (· = g)) b rfl v⟩
theorem Sw.drew {g : Nat} {a b : World} (h : Sw g a b) : Sw g a b.drew := ⟨h.1, h.2.1, h.2.2.1, h.2.2.2⟩
theorem Sw.drewN {g : Nat} {a b : World} (h : Sw g a b) (n : Nat) : Sw g a (b.drewN n) := ⟨h.1, h.2.1, h.2.2.1, h.2.2.2⟩
theorem Sw.below {g B : Nat} {a b : World} (h : Sw g a b) (hB : B ≤ g) (hs : B ≤ a.heap.size) : Below B a b := ⟨h.1, h.2.1, h.2.2.1, h.2.2.2.1, fun k hk => h.2.2.2.2 k (by omega) (by omega)⟩

end Go.Proofs.Ytpakfgonemiebaa

/-
  slices' symMerge at rows of numbers, with the closure of sortedPlaces: two rows that rise become one.
-/
namespace Go.Proofs.Ytpakfgonemiebaa
open Go.RowKit
set_option linter.unusedSimpArgs false
set_option linter.unusedVariables false

def NumsIn (f : Nat → Int) (N : Nat) : Prop := ∀ p, p < N → 0 ≤ f p ∧ f p < N

theorem Merged.vals {R : Int → Int → Prop} {f f' : Nat → Int} {a b N : Nat} (h : Merged R f f' a b) (hv : NumsIn f N) (hb : b ≤ N) : NumsIn f' N := fun p hp => by
  by_cases c : a ≤ p ∧ p < b
  · obtain ⟨q, q1, q2, q3⟩ := h.inn p c.1 c.2
    rw [q3]; exact hv q (by omega)
  · rw [h.out p (by omega)]; exact hv p hp

theorem rot_vals {s m e N : Nat} {f : Nat → Int} (hv : NumsIn f N) (h1 : s ≤ m) (h2 : m ≤ e) (h3 : e ≤ N) : NumsIn (rot s m e f) N := fun p hp => by
  obtain ⟨q, q1, q2, q3⟩ := rot_inn (f := f) h1 h2 (Nat.zero_le s) h3 p (Nat.zero_le _) hp
  rw [q3]; exact hv q q2

end Go.Proofs.Ytpakfgonemiebaa

/-
  slices' symMerge where the second row is of one cell.
-/
namespace Go.Proofs.Ytpakfgonemiebaa
open Go.RowKit
set_option linter.unusedSimpArgs false
set_option linter.unusedVariables false

end Go.Proofs.Ytpakfgonemiebaa

/-
  slices' symMerge: two rows that rise become one that rises.
-/
namespace Go.Proofs.Ytpakfgonemiebaa
open Go.RowKit
set_option linter.unusedSimpArgs false
set_option linter.unusedVariables false

end Go.Proofs.Ytpakfgonemiebaa

/-
  slices' insertionSort at rows of numbers, with the closure of sortedPlaces.
-/
namespace Go.Proofs.Ytpakfgonemiebaa
open Go.RowKit
set_option linter.unusedSimpArgs false
set_option linter.unusedVariables false

/-- One more has been put into its place. -/
theorem ins_step {R : Int → Int → Prop} (hR : Tot R) {f fk : Nat → Int} {a i j : Nat} (h1 : a ≤ j) (h2 : j ≤ i) (hm : Merged R f fk a i) (hfi : ∀ p, i ≤ p → fk p = f p)
    (hbig : ∀ p, j ≤ p → p < i → R (f i) (fk p)) (hlow : a < j → R (fk (j - 1)) (f i)) : Merged R f (rot j i (i + 1) fk) a (i + 1) := by
  have hl : ∀ p, a ≤ p → p < j → R (fk p) (f i) := fun p hp hpj => by
    have := hlow (by omega)
    by_cases e : p = j - 1
    · rw [e]; exact this
    · exact hR.tr _ _ _ (hm.ris p (j - 1) hp (by omega) (by omega)) this
  have m2 : Merged R fk (rot j i (i + 1) fk) a (i + 1) := merged_2 h1 h2 (by omega) hm.ris (fun p q h1 h2 h3 => by omega) (fun p q h3 h4 h5 h6 => by
      obtain rfl : q = i := by omega
      rw [hfi q (Nat.le_refl _)]; exact hl p h3 h4) (fun p q h3 h4 h5 h6 => by
      obtain rfl : q = i := by omega
      rw [hfi q (Nat.le_refl _)]; exact hbig p h3 h4)
  refine ⟨fun p hp => ?_, fun p h3 h4 => ?_, m2.ris⟩
  · rw [m2.out p hp]
    rcases hp with c | c
    · exact hm.out p (Or.inl c)
    · exact hfi p (by omega)
  · obtain ⟨q, q1, q2, q3⟩ := m2.inn p h3 h4
    by_cases c : q < i
    · obtain ⟨r, r1, r2, r3⟩ := hm.inn q q1 c
      exact ⟨r, r1, by omega, by rw [q3, r3]⟩
    · exact ⟨q, q1, q2, by rw [q3, hfi q (by omega)]⟩

end Go.Proofs.Ytpakfgonemiebaa

/-
  slices' stable sort at rows of numbers that rise, with the closure of sortedPlaces.
-/
namespace Go.Proofs.Ytpakfgonemiebaa
open Go.RowKit
set_option linter.unusedSimpArgs false
set_option linter.unusedVariables false

/-- Between two blocks: ahead of a all blocks are done, from a on nothing is. -/
theorem ins_block {R : Int → Int → Prop} {f fk fk' : Nat → Int} {a b : Nat} (he : ∀ p, a ≤ p → fk p = f p) (hm : Merged R fk fk' a b) : Blk R f fk' a b := by
  refine ⟨fun p h1 h2 => ?_, hm.ris⟩
  obtain ⟨q, q1, q2, q3⟩ := hm.inn p h1 h2
  exact ⟨q, q1, q2, by rw [q3, he q q1]⟩

theorem vals_of {R : Int → Int → Prop} {f fk : Nat → Int} {N : Nat} (hv : NumsIn f N) (h : ∀ p, p < N → ∃ q, q < N ∧ fk p = f q) : NumsIn fk N := fun p hp => by
  obtain ⟨q, q1, q2⟩ := h p hp
  rw [q2]; exact hv q q1

end Go.Proofs.Ytpakfgonemiebaa
