/-
  The laws' marks of nodes are laid.
-/
import Derived.Test.YtiamkmkbkehldaaDoorMarkN
namespace Go.Proofs.YtiamkmkbkehldaaDoor
open Go.RowKit
set_option linter.unusedSimpArgs false
set_option linter.unusedVariables false

theorem WRow.same {w w' : World} {b n : Nat} (h : WRow w b n) (e : w'.heap[b]? = w.heap[b]?) : WRow w' b n := by
  intro j hj
  obtain ⟨⟨u, hu⟩, hf⟩ := h j hj
  refine ⟨⟨u, ?_⟩, ?_⟩
  · unfold World.cell? at hu ⊢; rw [show w'.heap[(⟨b, j, none⟩ : Addr).block]? = w.heap[(⟨b, j, none⟩ : Addr).block]? from e]; exact hu
  · unfold World.frozen? at hf ⊢; rw [show w'.heap[(⟨b, j, none⟩ : Addr).block]? = w.heap[(⟨b, j, none⟩ : Addr).block]? from e]; exact hf

section
variable {lo b n : Nat} {w w' : World} {KN IN KB KI : Nat → Nat}

theorem Marky.keep (h : Marky lo w b n KN IN KB KI) (hs : w.heap.size ≤ w'.heap.size) (hb : WRow w' b (n * 5)) (hc : ∀ i j, i < n → 3 ≤ j → j < 5 → w'.cell? ⟨b, i * 5 + j, none⟩ = w.cell? ⟨b, i * 5 + j, none⟩)
    (hk : ∀ i, i < n → 0 < KN i → WRow w' (KB i) (KN i)) (hi : ∀ i, i < n → 0 < IN i → WRow w' (KI i) (IN i)) : Marky lo w' b n KN IN KB KI := by
  refine ⟨h.low, by have := h.lt; omega, h.few, hb, h.kn, fun i hi' => ?_, fun i hi' => ?_, h.db, h.dkk, h.dki, h.dii⟩
  · obtain ⟨a, c, e, hx⟩ := h.c3 i hi'
    refine ⟨a, c, (hc i 3 hi' (by omega) (by omega)).trans e, fun hp => ?_⟩
    obtain ⟨e1, e2, e3, _⟩ := hx hp
    exact ⟨e1, e2, by omega, hk i hi' hp⟩
  · obtain ⟨a, c, e, hx⟩ := h.c4 i hi'
    refine ⟨a, c, (hc i 4 hi' (by omega) (by omega)).trans e, fun hp => ?_⟩
    obtain ⟨e1, e2, e3, _⟩ := hx hp
    exact ⟨e1, e2, by omega, hi i hi' hp⟩

theorem Marky.kr (h : Marky lo w b n KN IN KB KI) {i : Nat} (hi : i < n) (hp : 0 < KN i) : lo ≤ KB i ∧ KB i < w.heap.size ∧ WRow w (KB i) (KN i) := by
  obtain ⟨a, c, e, hx⟩ := h.c3 i hi
  exact (hx hp).2
theorem Marky.ir (h : Marky lo w b n KN IN KB KI) {i : Nat} (hi : i < n) (hp : 0 < IN i) : lo ≤ KI i ∧ KI i < w.heap.size ∧ WRow w (KI i) (IN i) := by
  obtain ⟨a, c, e, hx⟩ := h.c4 i hi
  exact (hx hp).2

theorem Marky.set (h : Marky lo w b n KN IN KB KI) {p : Nat} (hp : p % 5 < 3) (v : Value) : Marky lo (w.setCell ⟨b, p, none⟩ v) b n KN IN KB KI :=
  h.keep (by simp) (h.row.set _ _) (fun i j hi h3 h5 => World.cell?_setCell_other _ _ _ _ (fun e => by have := congrArg Addr.off e; simp at this; omega)) (fun i hi hp => (h.kr hi hp).2.2.set _ _) (fun i hi hp => (h.ir hi hp).2.2.set _ _)

theorem Marky.below (h : Marky lo w b n KN IN KB KI) (hb : Below w.heap.size w w') : Marky lo w' b n KN IN KB KI :=
  h.keep hb.size (h.row.below hb h.lt) (fun i j hi h3 h5 => below_cell hb h.lt) (fun i hi hp => (h.kr hi hp).2.2.below hb (h.kr hi hp).2.1) (fun i hi hp => (h.ir hi hp).2.2.below hb (h.ir hi hp).2.1)

theorem Marky.keys (h : Marky lo w b n KN IN KB KI) {c : Nat} (hc : c < n) (ho : Only (fun x => 0 < KN c ∧ x = KB c) w w') (hw : 0 < KN c → WRow w' (KB c) (KN c)) : Marky lo w' b n KN IN KB KI := by
  have hb : w'.heap[b]? = w.heap[b]? := ho.2 b h.lt fun ⟨h1, h2⟩ => (h.db c hc).1 h1 h2.symm
  refine h.keep ho.1 (h.row.same hb) (fun i j hi h3 h5 => ho.cell h.lt fun ⟨h1, h2⟩ => (h.db c hc).1 h1 h2.symm) (fun i hi hp => ?_) (fun i hi hp => ?_)
  · by_cases e : i = c
    · subst e; exact hw hp
    · exact (h.kr hi hp).2.2.same (ho.2 _ (h.kr hi hp).2.1 fun ⟨h1, h2⟩ => h.dkk i c hi hc e hp h1 h2)
  · exact (h.ir hi hp).2.2.same (ho.2 _ (h.ir hi hp).2.1 fun ⟨h1, h2⟩ => h.dki c i hc hi h1 hp h2.symm)

theorem Marky.kids (h : Marky lo w b n KN IN KB KI) {c : Nat} (hc : c < n) (ho : Only (fun x => 0 < IN c ∧ x = KI c) w w') (hw : 0 < IN c → WRow w' (KI c) (IN c)) : Marky lo w' b n KN IN KB KI := by
  have hb : w'.heap[b]? = w.heap[b]? := ho.2 b h.lt fun ⟨h1, h2⟩ => (h.db c hc).2 h1 h2.symm
  refine h.keep ho.1 (h.row.same hb) (fun i j hi h3 h5 => ho.cell h.lt fun ⟨h1, h2⟩ => (h.db c hc).2 h1 h2.symm) (fun i hi hp => ?_) (fun i hi hp => ?_)
  · exact (h.kr hi hp).2.2.same (ho.2 _ (h.kr hi hp).2.1 fun ⟨h1, h2⟩ => h.dki i c hi hc hp h1 h2)
  · by_cases e : i = c
    · subst e; exact hw hp
    · exact (h.ir hi hp).2.2.same (ho.2 _ (h.ir hi hp).2.1 fun ⟨h1, h2⟩ => h.dii i c hi hc e hp h1 h2)

/-- What marks of node c turn: three cells of the row, the rows of its keys and of its kids. -/
structure Turns (b c : Nat) (KN IN KB KI : Nat → Nat) (w w' : World) : Prop where
  size : w.heap.size ≤ w'.heap.size
  row : ∀ o, o ≠ c * 5 → o ≠ c * 5 + 1 → o ≠ c * 5 + 2 → w'.cell? ⟨b, o, none⟩ = w.cell? ⟨b, o, none⟩
  rest : ∀ x, x < w.heap.size → x ≠ b → ¬ (0 < KN c ∧ x = KB c) → ¬ (0 < IN c ∧ x = KI c) → w'.heap[x]? = w.heap[x]?

theorem Turns.cell {b c : Nat} (t : Turns b c KN IN KB KI w w') {x o : Nat} (h1 : x < w.heap.size) (h2 : x ≠ b) (h3 : ¬ (0 < KN c ∧ x = KB c)) (h4 : ¬ (0 < IN c ∧ x = KI c)) : w'.cell? ⟨x, o, none⟩ = w.cell? ⟨x, o, none⟩ := by
  unfold World.cell?
  rw [show w'.heap[(⟨x, o, none⟩ : Addr).block]? = w.heap[(⟨x, o, none⟩ : Addr).block]? from t.rest x h1 h2 h3 h4]

theorem Turns.refl (b c : Nat) (KN IN KB KI : Nat → Nat) (w : World) : Turns b c KN IN KB KI w w := ⟨Nat.le_refl _, fun _ _ _ _ => rfl, fun _ _ _ _ _ => rfl⟩
theorem Turns.trans {b c : Nat} {w1 w2 w3 : World} (h : Turns b c KN IN KB KI w1 w2) (k : Turns b c KN IN KB KI w2 w3) : Turns b c KN IN KB KI w1 w3 :=
  ⟨Nat.le_trans h.size k.size, fun o h1 h2 h3 => (k.row o h1 h2 h3).trans (h.row o h1 h2 h3), fun x h1 h2 h3 h4 => (k.rest x (by have := h.size; omega) h2 h3 h4).trans (h.rest x h1 h2 h3 h4)⟩
theorem Turns.set {b c : Nat} (w : World) (v : Value) {p : Nat} (hp : p = c * 5 ∨ p = c * 5 + 1 ∨ p = c * 5 + 2) : Turns b c KN IN KB KI w (w.setCell ⟨b, p, none⟩ v) :=
  ⟨by simp, fun o h1 h2 h3 => World.cell?_setCell_other _ _ _ _ (fun e => by have := congrArg Addr.off e; simp at this; omega), fun x h1 h2 h3 h4 => Below.heap_setCell w _ v x h2⟩
theorem Turns.below {b c : Nat} (hb : Below w.heap.size w w') (hl : b < w.heap.size) : Turns b c KN IN KB KI w w' := ⟨hb.size, fun o _ _ _ => below_cell hb hl, fun x h _ _ _ => hb.block x h⟩
theorem Turns.only {b c : Nat} {P : Nat → Prop} (ho : Only P w w') (hl : b < w.heap.size) (hb : ¬ P b) (hP : ∀ x, P x → (0 < KN c ∧ x = KB c) ∨ (0 < IN c ∧ x = KI c)) : Turns b c KN IN KB KI w w' :=
  ⟨ho.1, fun o _ _ _ => ho.cell hl hb, fun x h h1 h2 h3 => ho.2 x h fun hp => (hP x hp).elim h2 h3⟩

/-- The blocks that marks of nodes write. -/
def Marked (b n : Nat) (KN IN KB KI : Nat → Nat) (x : Nat) : Prop := 0 < n ∧ (x = b ∨ ∃ i, i < n ∧ ((0 < KN i ∧ x = KB i) ∨ (0 < IN i ∧ x = KI i)))

theorem Turns.marked {b c n : Nat} (t : Turns b c KN IN KB KI w w') (hc : c < n) : Only (Marked b n KN IN KB KI) w w' :=
  ⟨t.size, fun x h hx => t.rest x h (fun e => hx ⟨by omega, Or.inl e⟩) (fun e => hx ⟨by omega, Or.inr ⟨c, hc, Or.inl e⟩⟩) (fun e => hx ⟨by omega, Or.inr ⟨c, hc, Or.inr e⟩⟩)⟩

theorem Turns.node (h : Marky lo w b n KN IN KB KI) {c i o : Nat} (hc : c < n) (hi : i < c) (t : Turns b c KN IN KB KI w w') (hn : HNode w b i (KN i) (IN i) (KB i) (KI i) o) : HNode w' b i (KN i) (IN i) (KB i) (KI i) o := by
  have hin : i < n := by omega
  refine hn.keep t.size (fun j hj => t.row _ (by omega) (by omega) (by omega)) (fun hp j => ?_) (fun hp j => ?_)
  · exact t.cell (h.kr hin hp).2.1 ((h.db i hin).1 hp) (fun ⟨h1, h2⟩ => h.dkk i c hin hc (by omega) hp h1 h2) (fun ⟨h1, h2⟩ => h.dki i c hin hc hp h1 h2)
  · exact t.cell (h.ir hin hp).2.1 ((h.db i hin).2 hp) (fun ⟨h1, h2⟩ => h.dki c i hc hin h1 hp h2.symm) (fun ⟨h1, h2⟩ => h.dii i c hin hc (by omega) hp h1 h2)
end

end Go.Proofs.YtiamkmkbkehldaaDoor
