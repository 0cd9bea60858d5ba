/-
  Merging two rows that rise by turning a range in their midst. Plain mathematics.
-/
import Derived.Test.YtgmnihofkpjboaaGreatDoorStepC
import Derived.Deep.RegionLaw
import Derived.Deep.AppendLies
namespace Go.Proofs.YtgmnihofkpjboaaGreatDoor
open Go.RowKit
set_option linter.unusedSimpArgs false
set_option linter.unusedVariables false
set_option linter.unusedSectionVars false

/-- An order without ties. -/
structure Tot (R : Int → Int → Prop) : Prop where
  tr : ∀ x y z, R x y → R y z → R x z
  asym : ∀ x y, R x y → ¬ R y x
  to : ∀ x y, x ≠ y → R x y ∨ R y x

def Rises (R : Int → Int → Prop) (f : Nat → Int) (a b : Nat) : Prop := ∀ p q, a ≤ p → p < q → q < b → R (f p) (f q)
def Cross (f : Nat → Int) (a m b : Nat) : Prop := ∀ p q, a ≤ p → p < m → m ≤ q → q < b → f p < f q
structure Merged (R : Int → Int → Prop) (f f' : Nat → Int) (a b : Nat) : Prop where
  out : ∀ p, p < a ∨ b ≤ p → f' p = f p
  inn : ∀ p, a ≤ p → p < b → ∃ q, a ≤ q ∧ q < b ∧ f' p = f q
  ris : Rises R f' a b

theorem rot_lo {a m b : Nat} {f : Nat → Int} {p : Nat} (h : p < a ∨ b ≤ p) (h1 : a ≤ m) (h2 : m ≤ b) : rot a m b f p = f p := by
  unfold rot; rw [if_neg (by omega), if_neg (by omega)]
theorem rot_1 {a m b : Nat} {f : Nat → Int} {p : Nat} (h1 : a ≤ p) (h2 : p < a + (b - m)) : rot a m b f p = f (m + (p - a)) := by
  unfold rot; rw [if_pos ⟨h1, h2⟩]
theorem rot_2 {a m b : Nat} {f : Nat → Int} {p : Nat} (h1 : a + (b - m) ≤ p) (h2 : p < b) : rot a m b f p = f (p - (b - m)) := by
  unfold rot; rw [if_neg (by omega), if_pos ⟨h1, h2⟩]

/-- What lies behind the turning lay there before. -/
theorem rot_inn {s m e : Nat} {f : Nat → Int} (h1 : s ≤ m) (h2 : m ≤ e) {a b : Nat} (ha : a ≤ s) (hb : e ≤ b) : ∀ p, a ≤ p → p < b → ∃ q, a ≤ q ∧ q < b ∧ rot s m e f p = f q := by
  intro p hp1 hp2
  by_cases c1 : p < s ∨ e ≤ p
  · exact ⟨p, hp1, hp2, rot_lo c1 h1 h2⟩
  · by_cases c2 : p < s + (e - m)
    · exact ⟨m + (p - s), by omega, by omega, rot_1 (by omega) c2⟩
    · exact ⟨p - (e - m), by omega, by omega, rot_2 (by omega) (by omega)⟩

/-- The first row goes in between two parts of the second. -/
theorem merged_1 {R : Int → Int → Prop} {f : Nat → Int} {a m i b : Nat} (h1 : a < m) (h2 : m ≤ i) (h3 : i ≤ b) (s1 : Rises R f a m) (s2 : Rises R f m b)
    (c1 : ∀ p q, a ≤ p → p < m → m ≤ q → q < i → R (f q) (f p)) (c2 : ∀ p q, a ≤ p → p < m → i ≤ q → q < b → R (f p) (f q)) : Merged R f (rot a m i f) a b := by
  refine ⟨fun p hp => rot_lo (by omega) (by omega) (by omega), rot_inn (by omega) h2 (Nat.le_refl _) h3, fun p q hp hpq hq => ?_⟩
  by_cases p1 : p < a + (i - m)
  · rw [rot_1 hp p1]
    by_cases q1 : q < a + (i - m)
    · rw [rot_1 (by omega) q1]; exact s2 _ _ (by omega) (by omega) (by omega)
    · by_cases q2 : q < i
      · rw [rot_2 (by omega) q2]; exact c1 _ _ (by omega) (by omega) (by omega) (by omega)
      · rw [rot_lo (by omega) (by omega) (by omega)]; exact s2 _ _ (by omega) (by omega) (by omega)
  · by_cases p2 : p < i
    · rw [rot_2 (by omega) p2]
      by_cases q2 : q < i
      · rw [rot_2 (by omega) q2]; exact s1 _ _ (by omega) (by omega) (by omega)
      · rw [rot_lo (by omega) (by omega) (by omega)]; exact c2 _ _ (by omega) (by omega) (by omega) (by omega)
    · rw [rot_lo (by omega) (by omega) (by omega), rot_lo (by omega) (by omega) (by omega)]; exact s2 _ _ (by omega) (by omega) (by omega)

/-- The second row goes in between two parts of the first. -/
theorem merged_2 {R : Int → Int → Prop} {f : Nat → Int} {a i m b : Nat} (h1 : a ≤ i) (h2 : i ≤ m) (h3 : m < b) (s1 : Rises R f a m) (s2 : Rises R f m b)
    (c1 : ∀ p q, a ≤ p → p < i → m ≤ q → q < b → R (f p) (f q)) (c2 : ∀ p q, i ≤ p → p < m → m ≤ q → q < b → R (f q) (f p)) : Merged R f (rot i m b f) a b := by
  refine ⟨fun p hp => rot_lo (by omega) (by omega) (by omega), rot_inn h2 (by omega) h1 (Nat.le_refl _), fun p q hp hpq hq => ?_⟩
  by_cases p0 : p < i
  · rw [rot_lo (by omega) (by omega) (by omega)]
    by_cases q0 : q < i
    · rw [rot_lo (by omega) (by omega) (by omega)]; exact s1 _ _ (by omega) (by omega) (by omega)
    · by_cases q1 : q < i + (b - m)
      · rw [rot_1 (by omega) q1]; exact c1 _ _ (by omega) (by omega) (by omega) (by omega)
      · rw [rot_2 (by omega) (by omega)]; exact s1 _ _ (by omega) (by omega) (by omega)
  · by_cases p1 : p < i + (b - m)
    · rw [rot_1 (by omega) p1]
      by_cases q1 : q < i + (b - m)
      · rw [rot_1 (by omega) q1]; exact s2 _ _ (by omega) (by omega) (by omega)
      · rw [rot_2 (by omega) (by omega)]; exact c2 _ _ (by omega) (by omega) (by omega) (by omega)
    · rw [rot_2 (by omega) (by omega), rot_2 (by omega) (by omega)]; exact s1 _ _ (by omega) (by omega) (by omega)

/-- What the search in the midst finds: [a, s) and [m, e) are ahead of [s, m) and [e, b). -/
structure Parted (R : Int → Int → Prop) (f : Nat → Int) (a s m e b : Nat) : Prop where
  ale : a ≤ s
  sm : s ≤ m
  me : m ≤ e
  eb : e ≤ b
  x1 : ∀ p q, a ≤ p → p < s → e ≤ q → q < b → R (f p) (f q)
  x2 : ∀ p q, s ≤ p → p < m → m ≤ q → q < e → R (f q) (f p)

theorem rot_none {s m e : Nat} (h : s = m ∨ m = e) (hs : s ≤ m) (he : m ≤ e) (f : Nat → Int) (p : Nat) : rot s m e f p = f p := by
  simp only [rot]
  repeat' split
  all_goals first | (exact f_same (by omega)) | (exfalso; omega)

section
variable {R : Int → Int → Prop} {f : Nat → Int} {a s m e b : Nat}

theorem Parted.rise1 (h : Parted R f a s m e b) (s1 : Rises R f a m) : Rises R (rot s m e f) a s := fun p q hp hpq hq => by
  have := h.sm; have := h.me
  rw [rot_lo (by omega) h.sm h.me, rot_lo (by omega) h.sm h.me]; exact s1 p q hp hpq (by omega)
theorem Parted.rise2 (h : Parted R f a s m e b) (s2 : Rises R f m b) : Rises R (rot s m e f) s (s + (e - m)) := fun p q hp hpq hq => by
  have := h.eb; have := h.me
  rw [rot_1 (by omega) (by omega), rot_1 (by omega) (by omega)]; exact s2 _ _ (by omega) (by omega) (by omega)
theorem Parted.rise3 (h : Parted R f a s m e b) (s1 : Rises R f a m) : Rises R (rot s m e f) (s + (e - m)) e := fun p q hp hpq hq => by
  have := h.ale; have := h.sm; have := h.me
  rw [rot_2 (by omega) (by omega), rot_2 (by omega) (by omega)]; exact s1 _ _ (by omega) (by omega) (by omega)
theorem Parted.rise4 (h : Parted R f a s m e b) (s2 : Rises R f m b) : Rises R (rot s m e f) e b := fun p q hp hpq hq => by
  have := h.sm; have := h.me
  rw [rot_lo (by omega) h.sm h.me, rot_lo (by omega) h.sm h.me]; exact s2 p q (by omega) hpq hq
theorem Parted.cross1 (h : Parted R f a s m e b) (c : Cross f a m b) : Cross (rot s m e f) a s (s + (e - m)) := fun p q hp hps hq hqe => by
  have := h.sm; have := h.me; have := h.eb
  rw [rot_lo (by omega) h.sm h.me, rot_1 (by omega) (by omega)]; exact c _ _ hp (by omega) (by omega) (by omega)
theorem Parted.cross2 (h : Parted R f a s m e b) (c : Cross f a m b) : Cross (rot s m e f) (s + (e - m)) e b := fun p q hp hpe hq hqb => by
  have := h.ale; have := h.sm; have := h.me
  rw [rot_2 (by omega) (by omega), rot_lo (by omega) h.sm h.me]; exact c _ _ (by omega) (by omega) (by omega) hqb

/-- All of the first half are ahead of all of the second. -/
theorem Parted.halves (h : Parted R f a s m e b) (s1 : Rises R f a m) (s2 : Rises R f m b) : ∀ p q, a ≤ p → p < s + (e - m) → s + (e - m) ≤ q → q < b → R (rot s m e f p) (rot s m e f q) := by
  intro p q hp1 hp2 hq1 hq2
  have := h.ale; have := h.sm; have := h.me; have := h.eb
  by_cases c1 : p < s
  · rw [rot_lo (p := p) (by omega) h.sm h.me]
    by_cases c2 : q < e
    · rw [rot_2 (by omega) c2]; exact s1 _ _ (by omega) (by omega) (by omega)
    · rw [rot_lo (p := q) (by omega) h.sm h.me]; exact h.x1 _ _ hp1 c1 (by omega) hq2
  · rw [rot_1 (p := p) (by omega) (by omega)]
    by_cases c2 : q < e
    · rw [rot_2 (by omega) c2]; exact h.x2 _ _ (by omega) (by omega) (by omega) (by omega)
    · rw [rot_lo (p := q) (by omega) h.sm h.me]; exact s2 _ _ (by omega) (by omega) hq2

/-- Both halves merged, the whole is. -/
theorem Parted.whole (h : Parted R f a s m e b) (s1 : Rises R f a m) (s2 : Rises R f m b) {f2 f3 : Nat → Int} (m1 : Merged R (rot s m e f) f2 a (s + (e - m))) (m2 : Merged R f2 f3 (s + (e - m)) b) : Merged R f f3 a b := by
  have := h.ale; have := h.sm; have := h.me; have := h.eb
  have hh := h.halves s1 s2
  have lo : ∀ p, a ≤ p → p < s + (e - m) → ∃ q, a ≤ q ∧ q < s + (e - m) ∧ f3 p = rot s m e f q := fun p h1 h2 => by
    obtain ⟨q, q1, q2, q3⟩ := m1.inn p h1 h2
    exact ⟨q, q1, q2, by rw [m2.out p (by omega), q3]⟩
  have hi : ∀ p, s + (e - m) ≤ p → p < b → ∃ q, s + (e - m) ≤ q ∧ q < b ∧ f3 p = rot s m e f q := fun p h1 h2 => by
    obtain ⟨q, q1, q2, q3⟩ := m2.inn p h1 h2
    exact ⟨q, q1, q2, by rw [q3, m1.out q (by omega)]⟩
  have ri := rot_inn (f := f) h.sm h.me h.ale h.eb
  refine ⟨fun p hp => ?_, fun p h1 h2 => ?_, fun p q hp hpq hq => ?_⟩
  · rw [m2.out p (by omega), m1.out p (by omega), rot_lo (by omega) h.sm h.me]
  · by_cases c : p < s + (e - m)
    · obtain ⟨q, q1, q2, q3⟩ := lo p h1 c
      obtain ⟨r, r1, r2, r3⟩ := ri q q1 (by omega)
      exact ⟨r, r1, r2, by rw [q3, r3]⟩
    · obtain ⟨q, q1, q2, q3⟩ := hi p (by omega) h2
      obtain ⟨r, r1, r2, r3⟩ := ri q (by omega) q2
      exact ⟨r, r1, r2, by rw [q3, r3]⟩
  · by_cases c : q < s + (e - m)
    · rw [m2.out p (by omega), m2.out q (by omega)]; exact m1.ris p q hp hpq c
    · by_cases c2 : p < s + (e - m)
      · obtain ⟨p', p1, p2, p3⟩ := lo p hp c2
        obtain ⟨q', q1, q2, q3⟩ := hi q (by omega) hq
        rw [p3, q3]
        exact hh _ _ p1 p2 q1 q2
      · exact m2.ris p q (by omega) hpq hq

theorem merged_self {g : Nat → Int} {x y : Nat} (h : Rises R g x y) : Merged R g g x y := ⟨fun _ _ => rfl, fun p h1 h2 => ⟨p, h1, h2, rfl⟩, h⟩
end

/-! ### The searches -/
/-- The place of one ahead of a row that rises: those before place i are ahead of it. -/
theorem find_1 {R : Int → Int → Prop} (hR : Tot R) {f : Nat → Int} {a m b : Nat} (s2 : Rises R f m b) {h : Nat} (hm : m ≤ h) (hb : h < b) :
    (R (f h) (f a) → ∀ q, m ≤ q → q ≤ h → R (f q) (f a)) ∧ (R (f a) (f h) → ∀ q, h ≤ q → q < b → R (f a) (f q)) := by
  refine ⟨fun hr q h1 h2 => ?_, fun hr q h1 h2 => ?_⟩
  · by_cases e : q = h
    · subst e; exact hr
    · exact hR.tr _ _ _ (s2 q h h1 (by omega) hb) hr
  · by_cases e : h = q
    · subst e; exact hr
    · exact hR.tr _ _ _ hr (s2 h q hm (by omega) h2)
end Go.Proofs.YtgmnihofkpjboaaGreatDoor

/-
  What the searches of the merge find, and the pushes of one cell. Plain mathematics.
-/
namespace Go.Proofs.YtgmnihofkpjboaaGreatDoor
open Go.RowKit
set_option linter.unusedSimpArgs false
set_option linter.unusedVariables false
set_option linter.unusedSectionVars false

theorem rot_up {a k : Nat} (h : a ≤ k) (f : Nat → Int) (p : Nat) : (if p = k + 1 then rot a (a + 1) (k + 1) f k else if p = k then rot a (a + 1) (k + 1) f (k + 1) else rot a (a + 1) (k + 1) f p) = rot a (a + 1) (k + 1 + 1) f p := by
  simp only [rot]
  repeat' split
  all_goals first | (exact f_same (by omega)) | (exfalso; omega)

theorem rot_down {k m : Nat} (h : k + 1 ≤ m) (f : Nat → Int) (p : Nat) : (if p = k then rot (k + 1) m (m + 1) f (k + 1) else if p = k + 1 then rot (k + 1) m (m + 1) f k else rot (k + 1) m (m + 1) f p) = rot k m (m + 1) f p := by
  simp only [rot]
  repeat' split
  all_goals first | (exact f_same (by omega)) | (exfalso; omega)

section
variable {R : Int → Int → Prop} {f : Nat → Int}

theorem ris_le (hR : Tot R) {a b : Nat} (s : Rises R f a b) {p q : Nat} (h1 : a ≤ p) (h2 : p ≤ q) (h3 : q < b) {x : Int} : (R (f q) x → R (f p) x) ∧ (R x (f p) → R x (f q)) := by
  by_cases e : p = q
  · subst e; exact ⟨id, id⟩
  · exact ⟨fun h => hR.tr _ _ _ (s p q h1 (by omega) h3) h, fun h => hR.tr _ _ _ h (s p q h1 (by omega) h3)⟩

/-- Ties do not come: what is not ahead of one that stands before it is behind it. -/
theorem not_ahead (hR : Tot R) {x y : Int} (hxy : x < y) (h : ¬ R y x) : R x y := by
  rcases hR.to x y (by omega) with e | e
  · exact e
  · exact absurd e h

/-- The search in the midst: lo, hi, and n = mid + m. -/
structure MidS (a m b lo hi n : Nat) : Prop where
  la : a ≤ lo
  hm : hi ≤ m
  le : lo ≤ hi
  up : ∀ c, lo ≤ c → c < hi → m + c + 1 ≤ n ∧ n < b + c + 1
  lo' : lo = a ∨ lo + b = n
  hi' : hi = m ∨ hi + m = n
  nm : m + lo ≤ n ∧ m + hi ≤ n ∧ n ≤ b + lo

theorem mid_of {a m b mid : Nat} (h1 : a < m) (h2 : m < b) (hmid : mid = (a + b) / 2) : (mid < m → MidS a m b (mid + m - b) mid (mid + m)) ∧ (m ≤ mid → MidS a m b a m (mid + m)) := by
  refine ⟨fun h => ⟨by omega, by omega, by omega, fun c h1 h2 => by omega, by omega, by omega, by omega⟩, fun h => ⟨by omega, by omega, by omega, fun c h1 h2 => by omega, by omega, by omega, by omega⟩⟩

theorem mid_left (hR : Tot R) {a m b lo hi n : Nat} (M : MidS a m b lo hi n) (s1 : Rises R f a m) (s2 : Rises R f m b) {c : Nat} (h1 : lo ≤ c) (h2 : c < hi) (h : R (f c) (f (n - 1 - c))) : ∀ c', lo ≤ c' → c' ≤ c → R (f c') (f (n - 1 - c')) := by
  intro c' h3 h4
  have u := M.up c h1 h2
  have u' := M.up c' h3 (by omega)
  have := M.la; have := M.hm
  exact (ris_le hR s2 (p := n - 1 - c) (q := n - 1 - c') (by omega) (by omega) (by omega)).2 ((ris_le hR s1 (p := c') (q := c) (by omega) h4 (by omega)).1 h)

theorem mid_right (hR : Tot R) {a m b lo hi n : Nat} (M : MidS a m b lo hi n) (s1 : Rises R f a m) (s2 : Rises R f m b) {c : Nat} (h1 : lo ≤ c) (h2 : c < hi) (h : R (f (n - 1 - c)) (f c)) : ∀ c', c ≤ c' → c' < hi → R (f (n - 1 - c')) (f c') := by
  intro c' h3 h4
  have u := M.up c h1 h2
  have u' := M.up c' (by omega) h4
  have := M.la; have := M.hm
  exact (ris_le hR s2 (p := n - 1 - c') (q := n - 1 - c) (by omega) (by omega) (by omega)).1 ((ris_le hR s1 (p := c) (q := c') (by omega) h3 (by omega)).2 h)

theorem mid_parted (hR : Tot R) {a m b lo hi n s : Nat} (M : MidS a m b lo hi n) (s1 : Rises R f a m) (s2 : Rises R f m b) (h1 : lo ≤ s) (h2 : s ≤ hi)
    (hl : ∀ c, lo ≤ c → c < s → R (f c) (f (n - 1 - c))) (hr : ∀ c, s ≤ c → c < hi → R (f (n - 1 - c)) (f c)) : Parted R f a s m (n - s) b := by
  have := M.la; have := M.hm; have := M.nm
  refine ⟨by omega, by omega, by omega, by omega, fun p q hp hps hq hqb => ?_, fun p q hp hpm hq hqe => ?_⟩
  · by_cases e : s = lo
    · exfalso
      rcases M.lo' with e2 | e2 <;> omega
    · have hc := hl (s - 1) (by omega) (by omega)
      have u := M.up (s - 1) (by omega) (by omega)
      exact (ris_le hR s2 (p := n - 1 - (s - 1)) (q := q) (by omega) (by omega) hqb).2 ((ris_le hR s1 (p := p) (q := s - 1) hp (by omega) (by omega)).1 hc)
  · by_cases e : s = hi
    · exfalso
      rcases M.hi' with e2 | e2 <;> omega
    · have hc := hr s (Nat.le_refl _) (by omega)
      have u := M.up s (by omega) (by omega)
      exact (ris_le hR s2 (p := q) (q := n - 1 - s) hq (by omega) (by omega)).1 ((ris_le hR s1 (p := s) (q := p) (by omega) hp hpm).2 hc)
end
end Go.Proofs.YtgmnihofkpjboaaGreatDoor

/-
  A call by its contract, as a step of a statement whose order is open, be there a guard or none.
-/
namespace Go.Proofs.YtgmnihofkpjboaaGreatDoor
open Go.RowKit
set_option linter.unusedSimpArgs false
set_option linter.unusedVariables false

/-- Two arguments, no guard. -/
theorem step_call2 {P : Program} {w : World} {ops : Array Oper} {o : Oper} {a : Act} {K : Act → World → Prop} {Q : Exit → Act → World → Prop} {E : Prop} (hgd : o.guard = none) (F : FuncId) (x y : Operand) (T U : TypeId)
    (ho : o.op = .call { callee := .value (.func F), args := #[x, y], argTypes := #[T, U] }) (v u : Value) (hx : a.eval x = v) (hy : a.eval y = u) (hcf : ∀ w, (callFunc F #[v, u]).run P w = .ok (.enter F #[v, u]) w) {R : Ending → World → Prop} (hc : Calls P F #[v, u] w R)
    (h : ∀ e w', R e w' → ∃ u, e = .returned u ∧ K (a.put o.dst u) w') :
    if Region.wanted o (yielded ops a.tmps) = true then Oper.wp P o a w K Q else E := by
  have hw : Region.wanted o (yielded ops a.tmps) = true := by simp [Region.wanted, hgd]
  rw [if_pos hw]
  unfold Oper.wp execOp
  have e1 : a.eval (.func F) = .func (.func F) #[] #[] := rfl
  simp [ho, resolve, invoke, hx, hy, e1, Deferred.ofValue, hcf, Result.andThen, Oper.upon_enter]
  refine hc.mono fun e w' hr => ?_
  obtain ⟨u, rfl, hk⟩ := h e w' hr
  exact hk

/-- Two arguments, no guard; the call may panic. -/
theorem step_call2p {P : Program} {w : World} {ops : Array Oper} {o : Oper} {a : Act} {K : Act → World → Prop} {Q : Exit → Act → World → Prop} {E : Prop} (hgd : o.guard = none) (F : FuncId) (x y : Operand) (T U : TypeId)
    (ho : o.op = .call { callee := .value (.func F), args := #[x, y], argTypes := #[T, U] }) (v u : Value) (hx : a.eval x = v) (hy : a.eval y = u) (hcf : ∀ w, (callFunc F #[v, u]).run P w = .ok (.enter F #[v, u]) w) {R : Ending → World → Prop} (hc : Calls P F #[v, u] w R)
    (h : ∀ e w', R e w' → (∃ u, e = .returned u ∧ K (a.put o.dst u) w') ∨ ∃ c, e = .panicked c ∧ Q (.panic c) a w') :
    if Region.wanted o (yielded ops a.tmps) = true then Oper.wp P o a w K Q else E := by
  have hw : Region.wanted o (yielded ops a.tmps) = true := by simp [Region.wanted, hgd]
  rw [if_pos hw]
  unfold Oper.wp execOp
  have e1 : a.eval (.func F) = .func (.func F) #[] #[] := rfl
  simp [ho, resolve, invoke, hx, hy, e1, Deferred.ofValue, hcf, Result.andThen, Oper.upon_enter]
  refine hc.mono fun e w' hr => ?_
  rcases h e w' hr with ⟨u, rfl, hk⟩ | ⟨c, rfl, hk⟩
  · exact hk
  · exact hk

/-- One argument, behind a guard. -/
theorem step_call1g {P : Program} {w : World} {ops : Array Oper} {o : Oper} {a : Act} {K : Act → World → Prop} {Q : Exit → Act → World → Prop} {E : Prop} (hw : Region.wanted o (yielded ops a.tmps) = true) (F : FuncId) (x : Operand) (T : TypeId)
    (ho : o.op = .call { callee := .value (.func F), args := #[x], argTypes := #[T] }) (v : Value) (hx : a.eval x = v) (hcf : ∀ w, (callFunc F #[v]).run P w = .ok (.enter F #[v]) w) {R : Ending → World → Prop} (hc : Calls P F #[v] w R)
    (h : ∀ e w', R e w' → ∃ u, e = .returned u ∧ K (a.put o.dst u) w') :
    if Region.wanted o (yielded ops a.tmps) = true then Oper.wp P o a w K Q else E := by
  rw [if_pos hw]
  unfold Oper.wp execOp
  have e1 : a.eval (.func F) = .func (.func F) #[] #[] := rfl
  simp [ho, resolve, invoke, hx, e1, Deferred.ofValue, hcf, Result.andThen, Oper.upon_enter]
  refine hc.mono fun e w' hr => ?_
  obtain ⟨u, rfl, hk⟩ := h e w' hr
  exact hk
end Go.Proofs.YtgmnihofkpjboaaGreatDoor
