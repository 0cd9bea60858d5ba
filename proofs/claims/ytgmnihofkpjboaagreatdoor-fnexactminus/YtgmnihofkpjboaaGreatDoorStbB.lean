/-
  The nodes of a part of a value: what the program lays one behind the other is the row of nodes from the part's first on, its kids shifted.
-/
import Derived.Test.YtgmnihofkpjboaaGreatDoorPure
import Derived.Test.YtgmnihofkpjboaaGreatDoorStepC
import Derived.Test.YtgmnihofkpjboaaGreatDoorStepN
namespace Go.Proofs.YtgmnihofkpjboaaGreatDoor
set_option linter.unusedSimpArgs false
set_option linter.unusedVariables false

def shiftN (d : Int) (x : VN) : VN := { x with kids := x.kids.map (· + d) }

/-- Nodes a .. a + n - 1, kids shifted by d. -/
def run (vs : List VN) (d : Int) (a n : Nat) : List VN := (List.range' a n).map fun j => shiftN d (nodeAt vs j)

theorem run_length (vs : List VN) (d : Int) (a n : Nat) : (run vs d a n).length = n := by simp [run]
theorem run_append (vs : List VN) (d : Int) (a m n : Nat) : run vs d a m ++ run vs d (a + m) n = run vs d a (m + n) := by
  unfold run
  rw [← List.map_append]
  congr 1
  have := List.range'_append (s := a) (m := m) (n := n) (step := 1)
  simp

/-- The kids l lie one behind the other from lo to hi. -/
def tiles (T : Nat → Option (Nat × Nat)) : List Int → Nat → Nat → Prop
  | [], lo, hi => lo = hi
  | k :: r, lo, hi => ∃ c h : Nat, k = (c : Int) ∧ T c = some (lo, h) ∧ tiles T r (c + 1) hi

theorem tiles_of {T : Nat → Option (Nat × Nat)} : ∀ (l : List Int) (hi h lo h' : Nat), l.reverse.foldl (stepKid T) (some (hi, h)) = some (lo, h') → tiles T l lo hi := by
  intro l
  induction l with
  | nil => intro hi h lo h' e; simp at e; exact e.1.symm
  | cons k r ih =>
    intro hi h lo h' e
    rw [List.reverse_cons, List.foldl_append] at e
    cases hr : r.reverse.foldl (stepKid T) (some (hi, h)) with
    | none => rw [hr] at e; simp [stepKid] at e
    | some q =>
      obtain ⟨b, g⟩ := q
      rw [hr] at e
      obtain ⟨p, h1, h2, h3, h4⟩ := fold_cons_some e
      simp at h4
      refine ⟨b - 1, p.2, by omega, ?_, ?_⟩
      · rw [h3, ← h4.1]
      · rw [show b - 1 + 1 = b by omega]; exact ih hi h b g hr

theorem tiles_le {T : Nat → Option (Nat × Nat)} (hT : ∀ c p, T c = some p → p.1 ≤ c) : ∀ (l : List Int) (lo hi : Nat), tiles T l lo hi → lo ≤ hi := by
  intro l
  induction l with
  | nil => intro lo hi e; exact Nat.le_of_eq e
  | cons k r ih =>
    rintro lo hi ⟨c, h, _, h2, h3⟩
    have := hT c _ h2
    have := ih _ _ h3
    simp at *
    omega

/-- What the program does with the parts: nodes laid so far, and where each part ends. -/
def layKids (F : Nat → Nat → List VN) (sh : Nat) : List Int → List VN → List Int → List VN × List Int
  | [], acc, ks => (acc, ks)
  | k :: r, acc, ks => layKids F sh r (acc ++ F k.toNat (sh + acc.length)) (ks ++ [((sh + (acc ++ F k.toNat (sh + acc.length)).length : Nat) : Int) - 1])

def lay (vs : List VN) : Nat → Nat → Nat → List VN
  | 0, _, _ => []
  | f + 1, i, sh =>
    let p := layKids (lay vs f) sh (nodeAt vs i).kids [] []
    p.1 ++ [{ nodeAt vs i with kids := p.2 }]

theorem layKids_run {vs : List VN} {F : Nat → Nat → List VN} {T : Nat → Option (Nat × Nat)} (hT : ∀ c p, T c = some p → p.1 ≤ c) {sh a : Nat} : ∀ (l : List Int) (lo hi : Nat) (ks : List Int), a ≤ lo → tiles T l lo hi →
    (∀ (c lo h s : Nat), (c : Int) ∈ l → T c = some (lo, h) → F c s = run vs ((s : Int) - lo) lo (c + 1 - lo)) →
    layKids F sh l (run vs ((sh : Int) - a) a (lo - a)) ks = (run vs ((sh : Int) - a) a (hi - a), ks ++ l.map (· + ((sh : Int) - a))) := by
  intro l
  induction l with
  | nil => intro lo hi ks hlo ht hF; obtain rfl : lo = hi := ht; simp [layKids]
  | cons k r ih =>
    rintro lo hi ks hlo ⟨c, h, rfl, h2, h3⟩ hF
    have hc := hT c _ h2
    simp at hc
    have hF1 := hF c lo h (sh + (lo - a)) (by simp) h2
    rw [layKids, run_length, Int.toNat_natCast, hF1]
    rw [show (((sh + (lo - a) : Nat) : Int) - lo) = (sh : Int) - a by omega]
    have hrun : run vs ((sh : Int) - a) a (lo - a) ++ run vs ((sh : Int) - a) lo (c + 1 - lo) = run vs ((sh : Int) - a) a (c + 1 - a) := by
      have := run_append vs ((sh : Int) - a) a (lo - a) (c + 1 - lo)
      rw [show a + (lo - a) = lo by omega, show lo - a + (c + 1 - lo) = c + 1 - a by omega] at this
      exact this
    rw [hrun, run_length, ih (c + 1) hi _ (by omega) h3 (fun c' lo' h' s hm => hF c' lo' h' s (List.mem_cons_of_mem _ hm))]
    rw [show (((sh + (c + 1 - a) : Nat) : Int) - 1) = (c : Int) + ((sh : Int) - a) by omega]
    simp

theorem lay_run (vs : List VN) : ∀ (f i sh a h : Nat), i < f → tr (kidsOf vs) i = some (a, h) → lay vs f i sh = run vs ((sh : Int) - a) a (i + 1 - a) := by
  intro f
  induction f with
  | zero => intro i sh a h hi; omega
  | succ f ih =>
    intro i sh a h hi e
    have hai := tr_le e
    simp at hai
    rw [tr_eq] at e
    cases hf : (kidsOf vs i).reverse.foldl (stepKid (tr (kidsOf vs))) (some (i, 0)) with
    | none => rw [hf] at e; simp at e
    | some q =>
      obtain ⟨a', h'⟩ := q
      rw [hf] at e
      simp at e
      obtain ⟨rfl, _⟩ := e
      have ht := tiles_of _ _ _ _ _ hf
      have hmem : ∀ (l : List Int) (lo hi : Nat), tiles (tr (kidsOf vs)) l lo hi → ∀ c : Nat, (c : Int) ∈ l → c < hi := by
        intro l
        induction l with
        | nil => intro lo hi _ c hc; cases hc
        | cons k r ihr =>
          rintro lo hi ⟨c', h'', rfl, _, h3⟩ c hc
          have hle := tiles_le (fun m p hp => tr_le hp) _ _ _ h3
          rcases List.mem_cons.1 hc with e | e
          · omega
          · exact ihr _ _ h3 c e
      have hl := layKids_run (vs := vs) (F := lay vs f) (fun m p hp => tr_le hp) (sh := sh) (a := a') (kidsOf vs i) a' i [] (Nat.le_refl _) ht (fun c lo g s hm hc => ih c s lo g (by have := hmem _ _ _ ht c hm; omega) hc)
      rw [show a' - a' = 0 by omega] at hl
      have hz : run vs ((sh : Int) - a') a' 0 = [] := rfl
      rw [hz] at hl
      rw [lay]
      show (layKids (lay vs f) sh (kidsOf vs i) [] []).1 ++ [{ nodeAt vs i with kids := (layKids (lay vs f) sh (kidsOf vs i) [] []).2 }] = _
      rw [hl]
      have := run_append vs ((sh : Int) - a') a' (i - a') 1
      rw [show a' + (i - a') = i by omega, show i - a' + 1 = i + 1 - a' by omega] at this
      rw [← this]
      simp [run, shiftN, kidsOf]
end Go.Proofs.YtgmnihofkpjboaaGreatDoor

/-
  Steps of paths: what makes a path right, and how a slice of steps lies in memory.
-/
namespace Go.Proofs.YtgmnihofkpjboaaGreatDoor
open Go.RowKit
set_option linter.unusedSimpArgs false
set_option linter.unusedVariables false

/-- A step of a path. -/
structure PS where
  named : Bool
  key : ByteArray
  pl : Int

def PS.zero : PS := ⟨false, ByteArray.empty, 0⟩
def stepAt (ps : List PS) (i : Nat) : PS := ps.getD i PS.zero
def stepB (x : PS) : Bool := (x.named && (textB x.key && decide (x.pl = 0))) || (!x.named && (decide (x.key.toList = []) && (decide (0 ≤ x.pl) && decide (x.pl ≤ 80))))
def pathB (ps : List PS) : Bool := decide (ps.length ≤ 10) && (List.range ps.length).all fun i => stepB (stepAt ps i)

theorem pathB_false {ps : List PS} {k : Nat} (hk : k < ps.length) (h : stepB (stepAt ps k) = false) : pathB ps = false := by
  unfold pathB
  rw [show ((List.range ps.length).all fun i => stepB (stepAt ps i)) = false from ?_, Bool.and_false]
  rw [List.all_eq_false]
  exact ⟨k, List.mem_range.2 hk, by simp [h]⟩

theorem pathB_all {ps : List PS} (h : ∀ k, k < ps.length → stepB (stepAt ps k) = true) : pathB ps = decide (ps.length ≤ 10) := by
  unfold pathB
  rw [show ((List.range ps.length).all fun i => stepB (stepAt ps i)) = true from ?_, Bool.and_true]
  rw [List.all_eq_true]
  exact fun k hk => h k (List.mem_range.1 hk)

/-- A slice of at most M steps, the texts of at most S bytes, below the block B. -/
def StepsIn (M S B : Nat) (w : World) (v : Value) (ps : List PS) : Prop :=
  ps.length ≤ M ∧ (∀ i, i < ps.length → (stepAt ps i).key.size ≤ S ∧ -9223372036854775808 ≤ (stepAt ps i).pl ∧ (stepAt ps i).pl ≤ 9223372036854775807) ∧
  ∃ a cap, v = .slice a ps.length cap ∧ (0 < ps.length → ∃ b o, a = some ⟨b, o, none⟩ ∧ b < B ∧ ∀ i, i < ps.length →
    w.cell? ⟨b, o + i * 3, none⟩ = some (.bool (stepAt ps i).named) ∧ w.cell? ⟨b, o + i * 3 + 1, none⟩ = some (.string (stepAt ps i).key) ∧ w.cell? ⟨b, o + i * 3 + 2, none⟩ = some (.int .i64 (stepAt ps i).pl))

theorem StepsIn.below {M S B : Nat} {w w' : World} {v : Value} {ps : List PS} (h : StepsIn M S B w v ps) (hb : Below B w w') : StepsIn M S B w' v ps := by
  obtain ⟨h1, h2, a, cap, e, h3⟩ := h
  refine ⟨h1, h2, a, cap, e, fun hl => ?_⟩
  obtain ⟨b, o, ea, hbB, hc⟩ := h3 hl
  exact ⟨b, o, ea, hbB, fun i hi => ⟨(below_cell hb hbB).trans (hc i hi).1, (below_cell hb hbB).trans (hc i hi).2.1, (below_cell hb hbB).trans (hc i hi).2.2⟩⟩

theorem StepsIn.wide {M S B B' : Nat} {w : World} {v : Value} {ps : List PS} (h : StepsIn M S B w v ps) (hb : B ≤ B') : StepsIn M S B' w v ps := by
  obtain ⟨h1, h2, a, cap, e, h3⟩ := h
  refine ⟨h1, h2, a, cap, e, fun hl => ?_⟩
  obtain ⟨b, o, ea, hbB, hc⟩ := h3 hl
  exact ⟨b, o, ea, by omega, hc⟩

theorem StepsIn.fit {M S B M' S' : Nat} {w : World} {v : Value} {ps : List PS} (h : StepsIn M S B w v ps) (h1 : ps.length ≤ M') (h2 : ∀ i, i < ps.length → (stepAt ps i).key.size ≤ S') : StepsIn M' S' B w v ps :=
  ⟨h1, fun i hi => ⟨h2 i hi, (h.2.1 i hi).2⟩, h.2.2⟩
end Go.Proofs.YtgmnihofkpjboaaGreatDoor

/-
  Rows that rise block by block, and blocks that are merged two and two. Plain mathematics.
-/
namespace Go.Proofs.YtgmnihofkpjboaaGreatDoor
open Go.RowKit
set_option linter.unusedSimpArgs false
set_option linter.unusedVariables false
set_option linter.unusedSectionVars false

/-- [x, y) rises, and holds what it held. -/
def Blk (R : Int → Int → Prop) (f fk : Nat → Int) (x y : Nat) : Prop := (∀ p, x ≤ p → p < y → ∃ q, x ≤ q ∧ q < y ∧ fk p = f q) ∧ Rises R fk x y

/-- All blocks of s from a on rise. -/
def From2 (R : Int → Int → Prop) (f fk : Nat → Int) (s a N : Nat) : Prop := ∀ x, s ∣ x → a ≤ x → x < N → Blk R f fk x (min (x + s) N)
/-- All blocks of s ahead of a rise. -/
def Upto (R : Int → Int → Prop) (f fk : Nat → Int) (s a : Nat) : Prop := ∀ x, s ∣ x → x < a → Blk R f fk x (x + s)

section
variable {R : Int → Int → Prop} {f fk fk' : Nat → Int} {s a b m N : Nat}

theorem Blk.kept (h : Blk R f fk a b) (e : ∀ p, a ≤ p → p < b → fk' p = fk p) : Blk R f fk' a b := by
  refine ⟨fun p h1 h2 => ?_, fun p q h1 h2 h3 => ?_⟩
  · rw [e p h1 h2]; exact h.1 p h1 h2
  · rw [e p h1 (by omega), e q (by omega) h3]; exact h.2 p q h1 h2 h3

theorem dvd_same {x : Nat} (h1 : s ∣ x) (h2 : s ∣ a) (h3 : a ≤ x) (h4 : x < a + s) : x = a := by
  have h5 : s ∣ x - a := Nat.dvd_sub h1 h2
  have : x - a = 0 := Nat.eq_zero_of_dvd_of_lt h5 (by omega)
  omega

theorem dvd_next {x : Nat} (h1 : s ∣ x) (h2 : s ∣ a) (h3 : x < a) : x + s ≤ a := by
  have h5 : s ∣ a - x := Nat.dvd_sub h2 h1
  have := Nat.le_of_dvd (by omega) h5
  omega

theorem Upto.snoc (h : Upto R f fk s a) (hd : s ∣ a) (hb : Blk R f fk' a (a + s)) (he : ∀ p, p < a → fk' p = fk p) : Upto R f fk' s (a + s) := by
  intro x hx hlt
  by_cases c : x < a
  · exact (h x hx c).kept (fun p h1 h2 => he p (by have := dvd_next hx hd c; omega))
  · have := dvd_same hx hd (by omega) hlt
    subst this; exact hb

theorem From2.next (h : From2 R f fk s a N) (he : ∀ p, a + 2 * s ≤ p → fk' p = fk p) : From2 R f fk' s (a + 2 * s) N := by
  intro x hx h1 h2
  exact (h x hx (by omega) h2).kept (fun p h3 h4 => he p (by omega))

/-- Two blocks that stand beside each other: the values of the first are the lower ones. -/
theorem blk_cross (hup : ∀ p q, p < q → q < N → f p < f q) (h1 : Blk R f fk a m) (h2 : Blk R f fk m b) (hb : b ≤ N) : Cross fk a m b := by
  intro p q hp hpm hq hqb
  obtain ⟨p', a1, a2, a3⟩ := h1.1 p hp hpm
  obtain ⟨q', b1, b2, b3⟩ := h2.1 q hq hqb
  rw [a3, b3]
  exact hup p' q' (by omega) (by omega)

theorem blk_merged (h1 : Blk R f fk a m) (h2 : Blk R f fk m b) (hm : Merged R fk fk' a b) (ham : a ≤ m) (hmb : m ≤ b) : Blk R f fk' a b := by
  refine ⟨fun p hp hq => ?_, hm.ris⟩
  obtain ⟨q, q1, q2, q3⟩ := hm.inn p hp hq
  by_cases c : q < m
  · obtain ⟨r, r1, r2, r3⟩ := h1.1 q q1 c
    exact ⟨r, r1, by omega, by rw [q3, r3]⟩
  · obtain ⟨r, r1, r2, r3⟩ := h2.1 q (by omega) q2
    exact ⟨r, by omega, r2, by rw [q3, r3]⟩

/-- The blocks of 2s once a pass is at its end. -/
theorem pass_end (h : Upto R f fk s a) (hd : s ∣ a) (ha : a ≤ N) (hN : N < a + s) (hl : a < N → Blk R f fk a N) : From2 R f fk s 0 N := by
  intro x hx _ hlt
  by_cases c : x < a
  · have hn := dvd_next hx hd c
    rw [show min (x + s) N = x + s by omega]; exact h x hx c
  · have := dvd_same hx hd (by omega) (by omega)
    subst this
    rw [show min (x + s) N = N by omega]
    exact hl hlt
end
end Go.Proofs.YtgmnihofkpjboaaGreatDoor
