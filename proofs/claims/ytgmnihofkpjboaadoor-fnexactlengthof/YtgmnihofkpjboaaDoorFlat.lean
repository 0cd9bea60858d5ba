/-
  The nodes of a part of a value: what the program lays one behind the other is the row of nodes from the part's first on, its kids shifted.
-/
import Derived.Test.YtgmnihofkpjboaaDoorPure
namespace Go.Proofs.YtgmnihofkpjboaaDoor
set_option linter.unusedSimpArgs false
set_option linter.unusedVariables false

def shiftN (d : Int) (x : VN) : VN := { x with kids := x.kids.map (· + d) }

/-- Nodes a .. a + n - 1, kids shifted by d. -/
def run (vs : List VN) (d : Int) (a n : Nat) : List VN := (List.range' a n).map fun j => shiftN d (nodeAt vs j)

theorem run_length (vs : List VN) (d : Int) (a n : Nat) : (run vs d a n).length = n := by simp [run]
theorem run_append (vs : List VN) (d : Int) (a m n : Nat) : run vs d a m ++ run vs d (a + m) n = run vs d a (m + n) := by
  unfold run
  rw [← List.map_append]
  congr 1
  have := List.range'_append (s := a) (m := m) (n := n) (step := 1)
  simp

/-- The kids l lie one behind the other from lo to hi. -/
def tiles (T : Nat → Option (Nat × Nat)) : List Int → Nat → Nat → Prop
  | [], lo, hi => lo = hi
  | k :: r, lo, hi => ∃ c h : Nat, k = (c : Int) ∧ T c = some (lo, h) ∧ tiles T r (c + 1) hi

theorem tiles_of {T : Nat → Option (Nat × Nat)} : ∀ (l : List Int) (hi h lo h' : Nat), l.reverse.foldl (stepKid T) (some (hi, h)) = some (lo, h') → tiles T l lo hi := by
  intro l
  induction l with
  | nil => intro hi h lo h' e; simp at e; exact e.1.symm
  | cons k r ih =>
    intro hi h lo h' e
    rw [List.reverse_cons, List.foldl_append] at e
    cases hr : r.reverse.foldl (stepKid T) (some (hi, h)) with
    | none => rw [hr] at e; simp [stepKid] at e
    | some q =>
      obtain ⟨b, g⟩ := q
      rw [hr] at e
      obtain ⟨p, h1, h2, h3, h4⟩ := fold_cons_some e
      simp at h4
      refine ⟨b - 1, p.2, by omega, ?_, ?_⟩
      · rw [h3, ← h4.1]
      · rw [show b - 1 + 1 = b by omega]; exact ih hi h b g hr

theorem tiles_le {T : Nat → Option (Nat × Nat)} (hT : ∀ c p, T c = some p → p.1 ≤ c) : ∀ (l : List Int) (lo hi : Nat), tiles T l lo hi → lo ≤ hi := by
  intro l
  induction l with
  | nil => intro lo hi e; exact Nat.le_of_eq e
  | cons k r ih =>
    rintro lo hi ⟨c, h, _, h2, h3⟩
    have := hT c _ h2
    have := ih _ _ h3
    simp at *
    omega

/-- What the program does with the parts: nodes laid so far, and where each part ends. -/
def layKids (F : Nat → Nat → List VN) (sh : Nat) : List Int → List VN → List Int → List VN × List Int
  | [], acc, ks => (acc, ks)
  | k :: r, acc, ks => layKids F sh r (acc ++ F k.toNat (sh + acc.length)) (ks ++ [((sh + (acc ++ F k.toNat (sh + acc.length)).length : Nat) : Int) - 1])

def lay (vs : List VN) : Nat → Nat → Nat → List VN
  | 0, _, _ => []
  | f + 1, i, sh =>
    let p := layKids (lay vs f) sh (nodeAt vs i).kids [] []
    p.1 ++ [{ nodeAt vs i with kids := p.2 }]

theorem layKids_run {vs : List VN} {F : Nat → Nat → List VN} {T : Nat → Option (Nat × Nat)} (hT : ∀ c p, T c = some p → p.1 ≤ c) {sh a : Nat} : ∀ (l : List Int) (lo hi : Nat) (ks : List Int), a ≤ lo → tiles T l lo hi →
    (∀ (c lo h s : Nat), (c : Int) ∈ l → T c = some (lo, h) → F c s = run vs ((s : Int) - lo) lo (c + 1 - lo)) →
    layKids F sh l (run vs ((sh : Int) - a) a (lo - a)) ks = (run vs ((sh : Int) - a) a (hi - a), ks ++ l.map (· + ((sh : Int) - a))) := by
  intro l
  induction l with
  | nil => intro lo hi ks hlo ht hF; obtain rfl : lo = hi := ht; simp [layKids]
  | cons k r ih =>
    rintro lo hi ks hlo ⟨c, h, rfl, h2, h3⟩ hF
    have hc := hT c _ h2
    simp at hc
    have hF1 := hF c lo h (sh + (lo - a)) (by simp) h2
    rw [layKids, run_length, Int.toNat_natCast, hF1]
    rw [show (((sh + (lo - a) : Nat) : Int) - lo) = (sh : Int) - a by omega]
    have hrun : run vs ((sh : Int) - a) a (lo - a) ++ run vs ((sh : Int) - a) lo (c + 1 - lo) = run vs ((sh : Int) - a) a (c + 1 - a) := by
      have := run_append vs ((sh : Int) - a) a (lo - a) (c + 1 - lo)
      rw [show a + (lo - a) = lo by omega, show lo - a + (c + 1 - lo) = c + 1 - a by omega] at this
      exact this
    rw [hrun, run_length, ih (c + 1) hi _ (by omega) h3 (fun c' lo' h' s hm => hF c' lo' h' s (List.mem_cons_of_mem _ hm))]
    rw [show (((sh + (c + 1 - a) : Nat) : Int) - 1) = (c : Int) + ((sh : Int) - a) by omega]
    simp

theorem lay_run (vs : List VN) : ∀ (f i sh a h : Nat), i < f → tr (kidsOf vs) i = some (a, h) → lay vs f i sh = run vs ((sh : Int) - a) a (i + 1 - a) := by
  intro f
  induction f with
  | zero => intro i sh a h hi; omega
  | succ f ih =>
    intro i sh a h hi e
    have hai := tr_le e
    simp at hai
    rw [tr_eq] at e
    cases hf : (kidsOf vs i).reverse.foldl (stepKid (tr (kidsOf vs))) (some (i, 0)) with
    | none => rw [hf] at e; simp at e
    | some q =>
      obtain ⟨a', h'⟩ := q
      rw [hf] at e
      simp at e
      obtain ⟨rfl, _⟩ := e
      have ht := tiles_of _ _ _ _ _ hf
      have hmem : ∀ (l : List Int) (lo hi : Nat), tiles (tr (kidsOf vs)) l lo hi → ∀ c : Nat, (c : Int) ∈ l → c < hi := by
        intro l
        induction l with
        | nil => intro lo hi _ c hc; cases hc
        | cons k r ihr =>
          rintro lo hi ⟨c', h'', rfl, _, h3⟩ c hc
          have hle := tiles_le (fun m p hp => tr_le hp) _ _ _ h3
          rcases List.mem_cons.1 hc with e | e
          · omega
          · exact ihr _ _ h3 c e
      have hl := layKids_run (vs := vs) (F := lay vs f) (fun m p hp => tr_le hp) (sh := sh) (a := a') (kidsOf vs i) a' i [] (Nat.le_refl _) ht (fun c lo g s hm hc => ih c s lo g (by have := hmem _ _ _ ht c hm; omega) hc)
      rw [show a' - a' = 0 by omega] at hl
      have hz : run vs ((sh : Int) - a') a' 0 = [] := rfl
      rw [hz] at hl
      rw [lay]
      show (layKids (lay vs f) sh (kidsOf vs i) [] []).1 ++ [{ nodeAt vs i with kids := (layKids (lay vs f) sh (kidsOf vs i) [] []).2 }] = _
      rw [hl]
      have := run_append vs ((sh : Int) - a') a' (i - a') 1
      rw [show a' + (i - a') = i by omega, show i - a' + 1 = i + 1 - a' by omega] at this
      rw [← this]
      simp [run, shiftN, kidsOf]
end Go.Proofs.YtgmnihofkpjboaaDoor
