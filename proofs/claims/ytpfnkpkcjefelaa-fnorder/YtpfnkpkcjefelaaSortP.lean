/-
  Keys with their places put in order, one behind the other. Plain mathematics, and slices of a row.
-/
import Derived.Test.YtpfnkpkcjefelaaGotP
import Derived.Test.YtpfnkpkcjefelaaSS
namespace Go.Proofs.Ytpfnkpkcjefelaa
open Go.RowKit
set_option linter.unusedSimpArgs false
set_option linter.unusedVariables false

/-- The first i keys in order with their places; none: two are the same. -/
def sortIn (ks : List ByteArray) : Nat → Option (List ByteArray × List Nat)
  | 0 => some ([], [])
  | i + 1 => match sortIn ks i with
    | none => none
    | some (ns, ps) => if hasK ns (keyAt ks i) = true then none else some (ns.take (posK ns (keyAt ks i)) ++ [keyAt ks i] ++ ns.drop (posK ns (keyAt ks i)), ps.take (posK ns (keyAt ks i)) ++ [i] ++ ps.drop (posK ns (keyAt ks i)))

theorem sortIn_len {ks : List ByteArray} : ∀ {i : Nat} {ns : List ByteArray} {ps : List Nat}, sortIn ks i = some (ns, ps) → ns.length = i ∧ ps.length = i := by
  intro i
  induction i with
  | zero => intro ns ps h; simp [sortIn] at h; obtain ⟨rfl, rfl⟩ := h; exact ⟨rfl, rfl⟩
  | succ i ih =>
    intro ns ps h
    rw [sortIn] at h
    split at h
    · cases h
    · rename_i ns0 ps0 h0
      obtain ⟨h1, h2⟩ := ih h0
      split at h
      · cases h
      · injection h with h
        injection h with e1 e2
        subst e1 e2
        have := (posK_spec (l := ns0) (keyAt ks i)).1
        simp
        omega

theorem sortIn_mem {ks : List ByteArray} : ∀ {i : Nat} {ns : List ByteArray} {ps : List Nat}, sortIn ks i = some (ns, ps) → ∀ x ∈ ps, x < i := by
  intro i
  induction i with
  | zero => intro ns ps h; simp [sortIn] at h; obtain ⟨rfl, rfl⟩ := h; simp
  | succ i ih =>
    intro ns ps h
    rw [sortIn] at h
    split at h
    · cases h
    · rename_i ns0 ps0 h0
      split at h
      · cases h
      · injection h with h
        injection h with e1 e2
        subst e1 e2
        intro x hx
        simp only [List.mem_append, List.mem_singleton] at hx
        rcases hx with (hx | hx) | hx
        · have := ih h0 x (List.mem_of_mem_take hx); omega
        · omega
        · have := ih h0 x (List.mem_of_mem_drop hx); omega

theorem sortIn_none {ks : List ByteArray} {i j : Nat} (h : sortIn ks i = none) (hij : i ≤ j) : sortIn ks j = none := by
  obtain ⟨d, rfl⟩ : ∃ d, j = i + d := ⟨j - i, by omega⟩
  clear hij
  induction d with
  | zero => exact h
  | succ d ih => rw [← Nat.add_assoc, sortIn, ih]

theorem sortIn_put {ks : List ByteArray} {i j : Nat} {ns : List ByteArray} {ps : List Nat} (h : sortIn ks i = some (ns, ps)) (hj : posK ns (keyAt ks i) = j) (hn : hasK ns (keyAt ks i) = false) : sortIn ks (i + 1) = some (ns.take j ++ [keyAt ks i] ++ ns.drop j, ps.take j ++ [i] ++ ps.drop j) := by
  rw [sortIn, h]
  simp only [hn, hj]
  rfl

theorem sortIn_twice {ks : List ByteArray} {i : Nat} {ns : List ByteArray} {ps : List Nat} (h : sortIn ks i = some (ns, ps)) (hn : hasK ns (keyAt ks i) = true) : sortIn ks (i + 1) = none := by
  rw [sortIn, h]
  simp only [hn]
  rfl

theorem hasK_at {l : List ByteArray} {key : ByteArray} {j : Nat} (hj : posK l key = j) : hasK l key = (decide (j < l.length) && decide ((keyAt l j).toList = key.toList)) := by unfold hasK; rw [hj]

theorem keyAt_mapGet {l : List ByteArray} {j : Nat} (hj : j < l.length) : (l.map Value.string)[j]? = some (.string (keyAt l j)) := by
  rw [List.getElem?_map, List.getElem?_eq_getElem hj]
  simp [keyAt, hj]

/-- A row of rows, by its cells alone. -/
def CellsAt (B : Nat) (w : World) (v : Value) (m : Nat) (cs : Nat → Value) : Prop :=
  ∃ a cap, v = .slice a m cap ∧ (∀ i, i < m → ∃ a n c, cs i = .slice a n c) ∧ (0 < m → ∃ b o, a = some ⟨b, o, none⟩ ∧ b < B ∧ ∀ i, i < m → w.cell? ⟨b, o + i, none⟩ = some (cs i))

theorem own_some {w : World} {base e s n x : Nat} {v : Value} {xs : List Value} (h : w.ownsRow base e s v n xs) (hx : v.ownBlock = some x) : ∃ cap, v = .slice (some ⟨x, 0, none⟩) n cap ∧ n ≤ cap := by
  rcases h.2 with ⟨rfl, _⟩ | ⟨g, cap, cur, rfl, _, _, hnc, _⟩
  · simp [Value.ownBlock] at hx
  · simp [Value.ownBlock] at hx
    subst hx
    exact ⟨cap, rfl, hnc⟩

theorem elemStr : Try.prog.elem 38 = 9 := by kernel_rfl
theorem elemRow : Try.prog.elem 35 = 24 := by kernel_rfl
theorem sizeStr (w : World) : (sizeOf 9).run Try.prog w = .ok 1 w := by
  obtain ⟨i, hi, hz, hs, hy⟩ := info_parts infoStr
  simp [sizeOf, typeInfo, hi, hs]
theorem infoRowV : (Try.prog.info? 24).map (fun i => (i.zero, i.size, i.bytes)) = some (some (.slice none 0 0), 1, 24) := by kernel_rfl
theorem sizeRow (w : World) : (sizeOf 24).run Try.prog w = .ok 1 w := by
  obtain ⟨i, hi, hz, hs, hy⟩ := info_parts infoRowV
  simp [sizeOf, typeInfo, hi, hs]

theorem sliced_to (g j cap : Nat) : sliced (some ⟨g, 0, none⟩) 0 j cap 1 = .slice (some ⟨g, 0, none⟩) j cap := by
  unfold sliced
  split
  · rename_i h; subst h; simp
  · simp [Addr.add]
theorem sliced_from (g j n cap : Nat) : ∃ ad, sliced (some ⟨g, 0, none⟩) j n cap 1 = .slice (some ad) (n - j) (cap - j) ∧ (j < n → n ≤ cap → ad = ⟨g, j, none⟩) := by
  unfold sliced
  split
  · rename_i h; subst h; exact ⟨_, rfl, fun h1 h2 => by omega⟩
  · exact ⟨_, rfl, fun _ _ => by simp [Addr.add]; intro h; exact h.symm⟩

theorem strs_to (g n cap j : Nat) (hj : j ≤ cap) (w : World) : (Instr.slice 38 (.slice (some ⟨g, 0, none⟩) n cap) none (some (.int .i64 (j : Int))) none).run Try.prog w = .ok (.slice (some ⟨g, 0, none⟩) j cap) w := by
  rw [run_slice_h (P := Try.prog) (w := w) 38 (some ⟨g, 0, none⟩) n cap (by rw [elemStr]; exact Try.underlying38) .i64 j (by omega) (by omega), elemStr, sizeStr]
  simp only [Result.andThen, Int.toNat_natCast, sliced_to]
theorem rows_to (g n cap j : Nat) (hj : j ≤ cap) (w : World) : (Instr.slice 35 (.slice (some ⟨g, 0, none⟩) n cap) none (some (.int .i64 (j : Int))) none).run Try.prog w = .ok (.slice (some ⟨g, 0, none⟩) j cap) w := by
  rw [run_slice_h (P := Try.prog) (w := w) 35 (some ⟨g, 0, none⟩) n cap (by rw [elemRow]; exact Try.underlying35) .i64 j (by omega) (by omega), elemRow, sizeRow]
  simp only [Result.andThen, Int.toNat_natCast, sliced_to]
theorem strs_from (g n cap j : Nat) (hj : j ≤ n) : ∃ ad, (∀ w, (Instr.slice 38 (.slice (some ⟨g, 0, none⟩) n cap) (some (.int .i64 (j : Int))) none none).run Try.prog w = .ok (.slice (some ad) (n - j) (cap - j)) w) ∧ (j < n → n ≤ cap → ad = ⟨g, j, none⟩) := by
  obtain ⟨ad, h1, h2⟩ := sliced_from g j n cap
  refine ⟨ad, fun w => ?_, h2⟩
  rw [run_slice_l (P := Try.prog) (w := w) 38 (some ⟨g, 0, none⟩) n cap (by rw [elemStr]; exact Try.underlying38) .i64 j (by omega) (by omega), elemStr, sizeStr]
  simp only [Result.andThen, Int.toNat_natCast, h1]
theorem rows_from (g n cap j : Nat) (hj : j ≤ n) : ∃ ad, (∀ w, (Instr.slice 35 (.slice (some ⟨g, 0, none⟩) n cap) (some (.int .i64 (j : Int))) none none).run Try.prog w = .ok (.slice (some ad) (n - j) (cap - j)) w) ∧ (j < n → n ≤ cap → ad = ⟨g, j, none⟩) := by
  obtain ⟨ad, h1, h2⟩ := sliced_from g j n cap
  refine ⟨ad, fun w => ?_, h2⟩
  rw [run_slice_l (P := Try.prog) (w := w) 35 (some ⟨g, 0, none⟩) n cap (by rw [elemRow]; exact Try.underlying35) .i64 j (by omega) (by omega), elemRow, sizeRow]
  simp only [Result.andThen, Int.toNat_natCast, h1]
end Go.Proofs.Ytpfnkpkcjefelaa
