/-
  A part of a right value is right. Plain mathematics.
-/
import Derived.Test.YtiamkmkbkehldaaGreatDoorRowB
import Derived.Test.YtiamkmkbkehldaaGreatDoorCbP
import Derived.Test.YtiamkmkbkehldaaGreatDoorSMake
import Derived.Test.YtiamkmkbkehldaaGreatDoorMarkM
import Derived.Test.YtiamkmkbkehldaaGreatDoorProg
import Derived.BigQuiet
namespace Go.Proofs.YtiamkmkbkehldaaGreatDoor
open Go.RowKit
set_option linter.unusedSimpArgs false
set_option linter.unusedVariables false

end Go.Proofs.YtiamkmkbkehldaaGreatDoor

/-
  Paths into nodes: where a step leads, said by the place of a key among keys that rise. Plain mathematics.
-/
namespace Go.Proofs.YtiamkmkbkehldaaGreatDoor
open Go.RowKit
set_option linter.unusedSimpArgs false
set_option linter.unusedVariables false

theorem bytes_lt (x : List UInt8) : ∀ y : List UInt8, Op.bytesLess x y = true ↔ x < y := by
  induction x with
  | nil => intro y; cases y <;> simp [Op.bytesLess]
  | cons a x ih =>
    intro y
    cases y with
    | nil => simp [Op.bytesLess]
    | cons b y =>
      have h := ih y
      rw [List.cons_lt_cons_iff, ← h]
      by_cases h1 : a < b <;> by_cases h2 : a = b <;> simp [Op.bytesLess, h1, h2]

theorem less_iff (a b : ByteArray) : lessB a b = true ↔ a.toList < b.toList := bytes_lt _ _

theorem less_trans {a b c : ByteArray} (h1 : lessB a b = true) (h2 : lessB b c = true) : lessB a c = true := by
  rw [less_iff] at *; exact List.lt_trans h1 h2
theorem less_total {a b : ByteArray} (h1 : lessB a b = false) (h2 : a.toList ≠ b.toList) : lessB b a = true := by
  have h3 : ¬ a.toList < b.toList := fun h => by rw [← less_iff] at h; rw [h1] at h; cases h
  rw [less_iff]
  by_cases h : b.toList < a.toList
  · exact h
  · exact absurd (List.le_antisymm (List.not_lt.1 h) (List.not_lt.1 h3)) h2

/-- Keys rise: each is ahead of the next one. -/
def Rise (l : List ByteArray) : Prop := ∀ i j, i < j → j < l.length → lessB (keyAt l i) (keyAt l j) = true

/-- How many keys are ahead. -/
def posK (l : List ByteArray) (key : ByteArray) : Nat := (l.takeWhile fun k => lessB k key).length
/-- Is the key there? -/
def hasK (l : List ByteArray) (key : ByteArray) : Bool := decide (posK l key < l.length) && decide ((keyAt l (posK l key)).toList = key.toList)

theorem take_len {p : ByteArray → Bool} : ∀ {l : List ByteArray} {i : Nat}, i ≤ l.length → (∀ j, j < i → p (keyAt l j) = true) → (i < l.length → p (keyAt l i) = false) → (l.takeWhile p).length = i := by
  intro l
  induction l with
  | nil => intro i hi _ _; simp at hi; subst hi; rfl
  | cons a l ih =>
    intro i hi h1 h2
    cases i with
    | zero =>
      have := h2 (by simp)
      simp [keyAt] at this
      simp [List.takeWhile_cons, this]
    | succ i =>
      have ha := h1 0 (by omega)
      simp [keyAt] at ha
      rw [List.takeWhile_cons, if_pos ha, List.length_cons]
      rw [ih (i := i) (by simp at hi; omega) (fun j hj => by have := h1 (j + 1) (by omega); simpa [keyAt] using this) (fun hl => by have := h2 (by simp; omega); simpa [keyAt] using this)]

theorem posK_eq {l : List ByteArray} {key : ByteArray} {i : Nat} (hi : i ≤ l.length) (h1 : ∀ j, j < i → lessB (keyAt l j) key = true) (h2 : i < l.length → lessB (keyAt l i) key = false) : posK l key = i := take_len hi h1 h2

theorem posK_spec {l : List ByteArray} (key : ByteArray) : posK l key ≤ l.length ∧ (∀ j, j < posK l key → lessB (keyAt l j) key = true) ∧ (posK l key < l.length → lessB (keyAt l (posK l key)) key = false) := by
  unfold posK
  induction l with
  | nil => exact ⟨by simp, fun j hj => absurd hj (by simp), fun h => absurd h (by simp)⟩
  | cons a l ih =>
    cases h : lessB a key
    · rw [List.takeWhile_cons, h]
      refine ⟨by simp, fun j hj => absurd hj (by simp), fun _ => ?_⟩
      simpa [keyAt] using h
    · rw [List.takeWhile_cons, h]
      simp only [if_true, List.length_cons]
      refine ⟨by omega, fun j hj => ?_, fun hl => ?_⟩
      · cases j with
        | zero => simpa [keyAt] using h
        | succ j => have := ih.2.1 j (by omega); simpa [keyAt] using this
      · have := ih.2.2 (by omega); simpa [keyAt] using this

/-- Keys behind the place are not ahead of the key, but for the first they are behind it. -/
theorem Rise.behind {l : List ByteArray} (h : Rise l) {key : ByteArray} {i : Nat} (hi : i < l.length) (h1 : lessB (keyAt l i) key = false) {j : Nat} (hij : i < j) (hj : j < l.length) : lessB (keyAt l j) key = false ∧ (keyAt l j).toList ≠ key.toList := by
  have h2 := h i j hij hj
  have key1 : lessB key (keyAt l j) = true := by
    by_cases e : (keyAt l i).toList = key.toList
    · rw [less_iff] at h2 ⊢; rw [← e]; exact h2
    · exact less_trans (less_total h1 e) h2
  rw [less_iff] at key1
  refine ⟨?_, fun e => ?_⟩
  · cases h3 : lessB (keyAt l j) key
    · rfl
    · rw [less_iff] at h3; exact absurd (List.lt_trans h3 key1) (List.lt_irrefl _)
  · rw [e] at key1; exact absurd key1 (List.lt_irrefl _)

end Go.Proofs.YtiamkmkbkehldaaGreatDoor

/-
  Keys with their places put in order, one behind the other. Plain mathematics, and slices of a row.
-/
namespace Go.Proofs.YtiamkmkbkehldaaGreatDoor
open Go.RowKit
set_option linter.unusedSimpArgs false
set_option linter.unusedVariables false

/-- The first i keys in order with their places; none: two are the same. -/
def sortIn (ks : List ByteArray) : Nat → Option (List ByteArray × List Nat)
  | 0 => some ([], [])
  | i + 1 => match sortIn ks i with
    | none => none
    | some (ns, ps) => if hasK ns (keyAt ks i) = true then none else some (ns.take (posK ns (keyAt ks i)) ++ [keyAt ks i] ++ ns.drop (posK ns (keyAt ks i)), ps.take (posK ns (keyAt ks i)) ++ [i] ++ ps.drop (posK ns (keyAt ks i)))

theorem sortIn_len {ks : List ByteArray} : ∀ {i : Nat} {ns : List ByteArray} {ps : List Nat}, sortIn ks i = some (ns, ps) → ns.length = i ∧ ps.length = i := by
  intro i
  induction i with
  | zero => intro ns ps h; simp [sortIn] at h; obtain ⟨rfl, rfl⟩ := h; exact ⟨rfl, rfl⟩
  | succ i ih =>
    intro ns ps h
    rw [sortIn] at h
    split at h
    · cases h
    · rename_i ns0 ps0 h0
      obtain ⟨h1, h2⟩ := ih h0
      split at h
      · cases h
      · injection h with h
        injection h with e1 e2
        subst e1 e2
        have := (posK_spec (l := ns0) (keyAt ks i)).1
        simp
        omega

theorem sortIn_mem {ks : List ByteArray} : ∀ {i : Nat} {ns : List ByteArray} {ps : List Nat}, sortIn ks i = some (ns, ps) → ∀ x ∈ ps, x < i := by
  intro i
  induction i with
  | zero => intro ns ps h; simp [sortIn] at h; obtain ⟨rfl, rfl⟩ := h; simp
  | succ i ih =>
    intro ns ps h
    rw [sortIn] at h
    split at h
    · cases h
    · rename_i ns0 ps0 h0
      split at h
      · cases h
      · injection h with h
        injection h with e1 e2
        subst e1 e2
        intro x hx
        simp only [List.mem_append, List.mem_singleton] at hx
        rcases hx with (hx | hx) | hx
        · have := ih h0 x (List.mem_of_mem_take hx); omega
        · omega
        · have := ih h0 x (List.mem_of_mem_drop hx); omega

theorem sortIn_none {ks : List ByteArray} {i j : Nat} (h : sortIn ks i = none) (hij : i ≤ j) : sortIn ks j = none := by
  obtain ⟨d, rfl⟩ : ∃ d, j = i + d := ⟨j - i, by omega⟩
  clear hij
  induction d with
  | zero => exact h
  | succ d ih => rw [← Nat.add_assoc, sortIn, ih]

theorem sortIn_put {ks : List ByteArray} {i j : Nat} {ns : List ByteArray} {ps : List Nat} (h : sortIn ks i = some (ns, ps)) (hj : posK ns (keyAt ks i) = j) (hn : hasK ns (keyAt ks i) = false) : sortIn ks (i + 1) = some (ns.take j ++ [keyAt ks i] ++ ns.drop j, ps.take j ++ [i] ++ ps.drop j) := by
  rw [sortIn, h]
  simp only [hn, hj]
  rfl

theorem sortIn_twice {ks : List ByteArray} {i : Nat} {ns : List ByteArray} {ps : List Nat} (h : sortIn ks i = some (ns, ps)) (hn : hasK ns (keyAt ks i) = true) : sortIn ks (i + 1) = none := by
  rw [sortIn, h]
  simp only [hn]
  rfl

theorem hasK_at {l : List ByteArray} {key : ByteArray} {j : Nat} (hj : posK l key = j) : hasK l key = (decide (j < l.length) && decide ((keyAt l j).toList = key.toList)) := by unfold hasK; rw [hj]

theorem keyAt_mapGet {l : List ByteArray} {j : Nat} (hj : j < l.length) : (l.map Value.string)[j]? = some (.string (keyAt l j)) := by
  rw [List.getElem?_map, List.getElem?_eq_getElem hj]
  simp [keyAt, hj]

/-- A row of rows, by its cells alone. -/
def CellsAt (B : Nat) (w : World) (v : Value) (m : Nat) (cs : Nat → Value) : Prop :=
  ∃ a cap, v = .slice a m cap ∧ (∀ i, i < m → ∃ a n c, cs i = .slice a n c) ∧ (0 < m → ∃ b o, a = some ⟨b, o, none⟩ ∧ b < B ∧ ∀ i, i < m → w.cell? ⟨b, o + i, none⟩ = some (cs i))

theorem own_some {w : World} {base e s n x : Nat} {v : Value} {xs : List Value} (h : w.ownsRow base e s v n xs) (hx : v.ownBlock = some x) : ∃ cap, v = .slice (some ⟨x, 0, none⟩) n cap ∧ n ≤ cap := by
  rcases h.2 with ⟨rfl, _⟩ | ⟨g, cap, cur, rfl, _, _, hnc, _⟩
  · simp [Value.ownBlock] at hx
  · simp [Value.ownBlock] at hx
    subst hx
    exact ⟨cap, rfl, hnc⟩

theorem elemStr : Tryz.prog.elem 70 = 9 := by kernel_rfl
theorem elemRow : Tryz.prog.elem 145 = 24 := by kernel_rfl
theorem sizeStr (w : World) : (sizeOf 9).run Tryz.prog w = .ok 1 w := by
  obtain ⟨i, hi, hz, hs, hy⟩ := info_parts infoStr
  simp [sizeOf, typeInfo, hi, hs]
theorem infoRowV : (Tryz.prog.info? 24).map (fun i => (i.zero, i.size, i.bytes)) = some (some (.slice none 0 0), 1, 24) := by kernel_rfl
theorem sizeRow (w : World) : (sizeOf 24).run Tryz.prog w = .ok 1 w := by
  obtain ⟨i, hi, hz, hs, hy⟩ := info_parts infoRowV
  simp [sizeOf, typeInfo, hi, hs]

theorem sliced_to (g j cap : Nat) : sliced (some ⟨g, 0, none⟩) 0 j cap 1 = .slice (some ⟨g, 0, none⟩) j cap := by
  unfold sliced
  split
  · rename_i h; subst h; simp
  · simp [Addr.add]
theorem sliced_from (g j n cap : Nat) : ∃ ad, sliced (some ⟨g, 0, none⟩) j n cap 1 = .slice (some ad) (n - j) (cap - j) ∧ (j < n → n ≤ cap → ad = ⟨g, j, none⟩) := by
  unfold sliced
  split
  · rename_i h; subst h; exact ⟨_, rfl, fun h1 h2 => by omega⟩
  · exact ⟨_, rfl, fun _ _ => by simp [Addr.add]; intro h; exact h.symm⟩

theorem strs_to (g n cap j : Nat) (hj : j ≤ cap) (w : World) : (Instr.slice 70 (.slice (some ⟨g, 0, none⟩) n cap) none (some (.int .i64 (j : Int))) none).run Tryz.prog w = .ok (.slice (some ⟨g, 0, none⟩) j cap) w := by
  rw [run_slice_h (P := Tryz.prog) (w := w) 70 (some ⟨g, 0, none⟩) n cap (by rw [elemStr]; exact Tryz.underlying70) .i64 j (by omega) (by omega), elemStr, sizeStr]
  simp only [Result.andThen, Int.toNat_natCast, sliced_to]
theorem rows_to (g n cap j : Nat) (hj : j ≤ cap) (w : World) : (Instr.slice 145 (.slice (some ⟨g, 0, none⟩) n cap) none (some (.int .i64 (j : Int))) none).run Tryz.prog w = .ok (.slice (some ⟨g, 0, none⟩) j cap) w := by
  rw [run_slice_h (P := Tryz.prog) (w := w) 145 (some ⟨g, 0, none⟩) n cap (by rw [elemRow]; exact Tryz.underlying145) .i64 j (by omega) (by omega), elemRow, sizeRow]
  simp only [Result.andThen, Int.toNat_natCast, sliced_to]
theorem strs_from (g n cap j : Nat) (hj : j ≤ n) : ∃ ad, (∀ w, (Instr.slice 70 (.slice (some ⟨g, 0, none⟩) n cap) (some (.int .i64 (j : Int))) none none).run Tryz.prog w = .ok (.slice (some ad) (n - j) (cap - j)) w) ∧ (j < n → n ≤ cap → ad = ⟨g, j, none⟩) := by
  obtain ⟨ad, h1, h2⟩ := sliced_from g j n cap
  refine ⟨ad, fun w => ?_, h2⟩
  rw [run_slice_l (P := Tryz.prog) (w := w) 70 (some ⟨g, 0, none⟩) n cap (by rw [elemStr]; exact Tryz.underlying70) .i64 j (by omega) (by omega), elemStr, sizeStr]
  simp only [Result.andThen, Int.toNat_natCast, h1]
theorem rows_from (g n cap j : Nat) (hj : j ≤ n) : ∃ ad, (∀ w, (Instr.slice 145 (.slice (some ⟨g, 0, none⟩) n cap) (some (.int .i64 (j : Int))) none none).run Tryz.prog w = .ok (.slice (some ad) (n - j) (cap - j)) w) ∧ (j < n → n ≤ cap → ad = ⟨g, j, none⟩) := by
  obtain ⟨ad, h1, h2⟩ := sliced_from g j n cap
  refine ⟨ad, fun w => ?_, h2⟩
  rw [run_slice_l (P := Tryz.prog) (w := w) 145 (some ⟨g, 0, none⟩) n cap (by rw [elemRow]; exact Tryz.underlying145) .i64 j (by omega) (by omega), elemRow, sizeRow]
  simp only [Result.andThen, Int.toNat_natCast, h1]
end Go.Proofs.YtiamkmkbkehldaaGreatDoor

/-
  The reader of codes from which values are drawn: what each draw may answer, and that it turns nothing but its own place.
-/
namespace Go.Proofs.YtiamkmkbkehldaaGreatDoor
open Go.RowKit
set_option linter.unusedSimpArgs false
set_option linter.unusedVariables false

/-- A reader in block rb, of n bytes, at place p. -/
structure RdAt (w : World) (rb n p : Nat) : Prop where
  lt : rb < w.heap.size
  src : ∃ a cap, w.cell? ⟨rb, 0, none⟩ = some (.slice a n cap) ∧ (0 < n → ∃ b o, a = some ⟨b, o, none⟩ ∧ b < rb ∧ ∀ i, i < n → ∃ x : Nat, x < 256 ∧ w.cell? ⟨b, o + i, none⟩ = some (.int .u8 x))
  place : w.cell? ⟨rb, 1, none⟩ = some (.int .i64 p)
  le : p ≤ n
  few : n ≤ 1048576
  free : w.frozen? ⟨rb, 1, none⟩ = false

/-- What a draw leaves: the reader at some place, nothing else turned. -/
structure Drawn (rb n : Nat) (w w' : World) : Prop where
  rd : ∃ p, RdAt w' rb n p
  only : Only (fun c => c = rb) w w'
  below : Below rb w w'

theorem frozen_same {w w' : World} {b o : Nat} (h : w'.heap[b]? = w.heap[b]?) : w'.frozen? ⟨b, o, none⟩ = w.frozen? ⟨b, o, none⟩ := by
  unfold World.frozen?
  rw [show w'.heap[(⟨b, o, none⟩ : Addr).block]? = w.heap[(⟨b, o, none⟩ : Addr).block]? from h]

theorem RdAt.below {w w' : World} {rb n p : Nat} (h : RdAt w rb n p) (hb : Below w.heap.size w w') : RdAt w' rb n p := by
  have hl := h.lt
  refine ⟨by have := hb.size; omega, ?_, (below_cell hb hl).trans h.place, h.le, h.few, (frozen_same (hb.block rb hl)).trans h.free⟩
  obtain ⟨a, cap, h1, h2⟩ := h.src
  refine ⟨a, cap, (below_cell hb hl).trans h1, fun hp => ?_⟩
  obtain ⟨b, o, e, hlt, hx⟩ := h2 hp
  exact ⟨b, o, e, hlt, fun i hi => by obtain ⟨x, h3, h4⟩ := hx i hi; exact ⟨x, h3, (below_cell hb (by omega)).trans h4⟩⟩

theorem RdAt.step {w : World} {rb n p : Nat} (h : RdAt w rb n p) (hp : p < n) : RdAt (w.setCell ⟨rb, 1, none⟩ (.int .i64 ((p + 1 : Nat) : Int))) rb n (p + 1) := by
  refine ⟨by simpa using h.lt, ?_, World.cell?_setCell_same _ _ _ h.place, by omega, h.few, by rw [World.frozen?_setCell]; exact h.free⟩
  obtain ⟨a, cap, h1, h2⟩ := h.src
  refine ⟨a, cap, by rw [World.cell?_setCell_other (h := by simp)]; exact h1, fun hp => ?_⟩
  obtain ⟨b, o, e, hlt, hx⟩ := h2 hp
  refine ⟨b, o, e, hlt, fun i hi => ?_⟩
  obtain ⟨x, h3, h4⟩ := hx i hi
  exact ⟨x, h3, by rw [World.cell?_setCell_other (h := by intro e2; injection e2 with e3; omega)]; exact h4⟩

theorem Drawn.refl {rb n p : Nat} {w : World} (h : RdAt w rb n p) : Drawn rb n w w := ⟨⟨p, h⟩, Only.refl _ _, Below.refl _ _⟩
theorem Drawn.trans {rb n : Nat} {a b c : World} (h : Drawn rb n a b) (k : Drawn rb n b c) : Drawn rb n a c := ⟨k.rd, h.only.trans k.only, h.below.trans k.below⟩
theorem Drawn.next {rb n : Nat} {a b c : World} (h : Drawn rb n a b) (k : Below b.heap.size b c) : Drawn rb n a c := by
  obtain ⟨p, hp⟩ := h.rd
  exact ⟨⟨p, hp.below k⟩, h.only.trans (Only.of_below k), h.below.trans (k.mono (Nat.le_of_lt hp.lt))⟩

set_option maxRecDepth 100000 in
set_option maxHeartbeats 1600000 in
theorem rdNext_any (rb n p : Nat) (w : World) (h : RdAt w rb n p) :
    Calls Tryz.prog 102 #[.pointer (some ⟨rb, 0, none⟩)] w fun e w' => (∃ x : Nat, x < 256 ∧ e = .returned (.int .i64 x)) ∧ Drawn rb n w w' := by
  have H := hideIt h
  obtain ⟨a, cap, h1, h2⟩ := h.src
  have h3 := h.place
  have h4 := h.le
  have h5 := h.few
  have h6 := h.lt
  have HS := hideIt h2
  clear h h2
  by_cases hp : p < n
  · obtain ⟨b, o, rfl, hlt, hx⟩ := HS.out (by omega)
    obtain ⟨x, hx1, hx2⟩ := hx p hp
    have hfz := H.out.free
    clear hx
    go_enter Tryz.func102, Tryz.ntmps102
    go_wp2_with fail
    go_quiet (fail)
    have hd1 := below_drewN (Below.refl w.heap.size w) nq
    have HR1 := hideIt (H.out.below hd1)
    have k1 : (w.drewN nq).cell? ⟨rb, 1, none⟩ = some (.int .i64 p) := HR1.out.place
    have k2 : (w.drewN nq).frozen? ⟨rb, 1, none⟩ = false := HR1.out.free
    have k3 := (below_cell hd1 (by omega)).trans h1
    have k4 := (below_cell hd1 (by omega)).trans hx2
    have HD1 := hideIt hd1
    generalize w.drewN nq = W1 at hd1 HR1 HD1 k1 k2 k3 k4 ⊢
    clear nq h3 h1 hx2 hfz hd1
    have z1 := HD1.out.size
    go_wp2_with fail
    have HR2 := hideIt (HR1.out.step hp)
    have l1 : (W1.setCell ⟨rb, 1, none⟩ (.int .i64 ((p : Int) + 1))).cell? ⟨rb, 1, none⟩ = some (.int .i64 ((p : Int) + 1)) := World.cell?_setCell_same _ _ _ k1
    have l3 : (W1.setCell ⟨rb, 1, none⟩ (.int .i64 ((p : Int) + 1))).cell? ⟨rb, 0, none⟩ = some (.slice (some ⟨b, o, none⟩) n cap) := by rw [World.cell?_setCell_other (h := by simp)]; exact k3
    have l4 : (W1.setCell ⟨rb, 1, none⟩ (.int .i64 ((p : Int) + 1))).cell? ⟨b, o + p, none⟩ = some (.int .u8 x) := by rw [World.cell?_setCell_other (h := by intro e2; injection e2 with e3; omega)]; exact k4
    have HDR : Hid (Drawn rb n w (W1.setCell ⟨rb, 1, none⟩ (.int .i64 ((p : Int) + 1)))) := by
      refine ⟨⟨p + 1, HR2.out⟩, (Only.of_below HD1.out).trans (Only.set (P := fun c => c = rb) _ rfl _), (HD1.out.mono (Nat.le_of_lt h6)).setCell (Nat.le_refl _) _⟩
    have p1 : (p : Int) + 1 - 1 = (p : Int) := by omega
    clear HR2
    generalize W1.setCell ⟨rb, 1, none⟩ (.int .i64 ((p : Int) + 1)) = W2 at l1 l3 l4 HDR ⊢
    clear k1 k2 k3 k4 HD1 HR1
    go_quiet (fail)
    go_wp2_with fail
    go_ret
    exact ⟨⟨x, hx1, by simp⟩, HDR.out.next (below_drewN (Below.refl _ _) nq)⟩
  · have hnp : ¬ ((p : Int) < (n : Int)) := by omega
    go_enter Tryz.func102, Tryz.ntmps102
    go_wp2_with fail
    go_quiet (fail)
    go_wp2_with fail
    go_ret
    exact ⟨⟨0, by omega, rfl⟩, (Drawn.refl H.out).next (below_drewN (Below.refl _ _) nq)⟩

/-! ### Draws of numbers below a bound, and of yes or no -/
set_option maxRecDepth 100000 in
set_option maxHeartbeats 1600000 in
theorem rdBelow_any (rb n m : Nat) (w : World) (h : ∃ p, RdAt w rb n p) (hm : 1 ≤ m) (hM : m ≤ 1048577) :
    Calls Tryz.prog 49 #[.pointer (some ⟨rb, 0, none⟩), .int .i64 m] w fun e w' => (∃ x : Nat, x < m ∧ e = .returned (.int .i64 x)) ∧ Drawn rb n w w' := by
  obtain ⟨p, h⟩ := h
  have H := hideIt h
  clear h
  by_cases h1 : m ≤ 1
  · have h1' : (m : Int) ≤ 1 := by omega
    go_enter Tryz.func49, Tryz.ntmps49
    go_wp2_with fail
    go_ret
    exact ⟨⟨0, by omega, rfl⟩, Drawn.refl H.out⟩
  · have h1' : ¬ (m : Int) ≤ 1 := by omega
    have hm0 : ¬ (m : Int) = 0 := by omega
    have hmb : ((m : Int) == 0) = false := by simp; omega
    by_cases h2 : m ≤ 256
    · have h2' : (m : Int) ≤ 256 := by omega
      go_enter Tryz.func49, Tryz.ntmps49
      go_wp2_with fail
      refine (rdNext_any rb n p w H.out).mono ?_
      rintro e w1 ⟨⟨x, hx, rfl⟩, hd⟩
      have HD := hideIt hd
      clear hd
      go_wp2_with fail
      go_ret
      exact ⟨⟨x % m, Nat.mod_lt _ (by omega), by simp⟩, HD.out⟩
    · have h2' : ¬ (m : Int) ≤ 256 := by omega
      go_enter Tryz.func49, Tryz.ntmps49
      go_wp2_with fail
      refine (rdNext_any rb n p w H.out).mono ?_
      rintro e w1 ⟨⟨x, hx, rfl⟩, hd⟩
      have HD := hideIt hd
      obtain ⟨p2, hp2⟩ := hd.rd
      have H2 := hideIt hp2
      clear hd hp2
      go_wp2_with fail
      refine (rdNext_any rb n p2 w1 H2.out).mono ?_
      rintro e w2 ⟨⟨y, hy, rfl⟩, hd2⟩
      have HD2 := hideIt (HD.out.trans hd2)
      clear hd2
      go_wp2_with fail
      go_ret
      exact ⟨⟨(x * 256 + y) % m, Nat.mod_lt _ (by omega), by simp⟩, HD2.out⟩

set_option maxRecDepth 100000 in
set_option maxHeartbeats 1600000 in
theorem rdOnce_any (rb n m : Nat) (w : World) (h : ∃ p, RdAt w rb n p) (hm : 1 ≤ m) (hM : m ≤ 1048577) :
    Calls Tryz.prog 48 #[.pointer (some ⟨rb, 0, none⟩), .int .i64 m] w fun e w' => (∃ x : Bool, e = .returned (.bool x)) ∧ Drawn rb n w w' := by
  have H := hideIt h
  clear h
  go_enter Tryz.func48, Tryz.ntmps48
  go_wp2_with fail
  refine (rdBelow_any rb n m w H.out hm hM).mono ?_
  rintro e w1 ⟨⟨x, hx, rfl⟩, hd⟩
  have HD := hideIt hd
  clear hd
  go_wp2_with fail
  go_ret
  exact ⟨⟨_, rfl⟩, HD.out⟩
end Go.Proofs.YtiamkmkbkehldaaGreatDoor
