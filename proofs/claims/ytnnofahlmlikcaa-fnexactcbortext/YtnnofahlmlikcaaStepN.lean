/-
  Rows that rise block by block, and blocks that are merged two and two. Plain mathematics.
-/
import Derived.Test.YtnnofahlmlikcaaStbP
import Derived.Test.YtnnofahlmlikcaaMem
import Derived.Deep.RegionLaw
import Derived.Deep.AppendLies
namespace Go.Proofs.Ytnnofahlmlikcaa
open Go.RowKit
set_option linter.unusedSimpArgs false
set_option linter.unusedVariables false

/-- [x, y) rises, and holds what it held. -/
def Blk (R : Int → Int → Prop) (f fk : Nat → Int) (x y : Nat) : Prop := (∀ p, x ≤ p → p < y → ∃ q, x ≤ q ∧ q < y ∧ fk p = f q) ∧ Rises R fk x y

/-- All blocks of s from a on rise. -/
def From2 (R : Int → Int → Prop) (f fk : Nat → Int) (s a N : Nat) : Prop := ∀ x, s ∣ x → a ≤ x → x < N → Blk R f fk x (min (x + s) N)
/-- All blocks of s ahead of a rise. -/
def Upto (R : Int → Int → Prop) (f fk : Nat → Int) (s a : Nat) : Prop := ∀ x, s ∣ x → x < a → Blk R f fk x (x + s)

section
variable {R : Int → Int → Prop} {f fk fk' : Nat → Int} {s a b m N : Nat}

theorem Blk.kept (h : Blk R f fk a b) (e : ∀ p, a ≤ p → p < b → fk' p = fk p) : Blk R f fk' a b := by
  refine ⟨fun p h1 h2 => ?_, fun p q h1 h2 h3 => ?_⟩
  · rw [e p h1 h2]; exact h.1 p h1 h2
  · rw [e p h1 (by omega), e q (by omega) h3]; exact h.2 p q h1 h2 h3

theorem dvd_same {x : Nat} (h1 : s ∣ x) (h2 : s ∣ a) (h3 : a ≤ x) (h4 : x < a + s) : x = a := by
  have h5 : s ∣ x - a := Nat.dvd_sub h1 h2
  have : x - a = 0 := Nat.eq_zero_of_dvd_of_lt h5 (by omega)
  omega

theorem dvd_next {x : Nat} (h1 : s ∣ x) (h2 : s ∣ a) (h3 : x < a) : x + s ≤ a := by
  have h5 : s ∣ a - x := Nat.dvd_sub h2 h1
  have := Nat.le_of_dvd (by omega) h5
  omega

theorem Upto.snoc (h : Upto R f fk s a) (hd : s ∣ a) (hb : Blk R f fk' a (a + s)) (he : ∀ p, p < a → fk' p = fk p) : Upto R f fk' s (a + s) := by
  intro x hx hlt
  by_cases c : x < a
  · exact (h x hx c).kept (fun p h1 h2 => he p (by have := dvd_next hx hd c; omega))
  · have := dvd_same hx hd (by omega) hlt
    subst this; exact hb

theorem From2.next (h : From2 R f fk s a N) (he : ∀ p, a + 2 * s ≤ p → fk' p = fk p) : From2 R f fk' s (a + 2 * s) N := by
  intro x hx h1 h2
  exact (h x hx (by omega) h2).kept (fun p h3 h4 => he p (by omega))

/-- Two blocks that stand beside each other: the values of the first are the lower ones. -/
theorem blk_cross (hup : ∀ p q, p < q → q < N → f p < f q) (h1 : Blk R f fk a m) (h2 : Blk R f fk m b) (hb : b ≤ N) : Cross fk a m b := by
  intro p q hp hpm hq hqb
  obtain ⟨p', a1, a2, a3⟩ := h1.1 p hp hpm
  obtain ⟨q', b1, b2, b3⟩ := h2.1 q hq hqb
  rw [a3, b3]
  exact hup p' q' (by omega) (by omega)

theorem blk_merged (h1 : Blk R f fk a m) (h2 : Blk R f fk m b) (hm : Merged R fk fk' a b) (ham : a ≤ m) (hmb : m ≤ b) : Blk R f fk' a b := by
  refine ⟨fun p hp hq => ?_, hm.ris⟩
  obtain ⟨q, q1, q2, q3⟩ := hm.inn p hp hq
  by_cases c : q < m
  · obtain ⟨r, r1, r2, r3⟩ := h1.1 q q1 c
    exact ⟨r, r1, by omega, by rw [q3, r3]⟩
  · obtain ⟨r, r1, r2, r3⟩ := h2.1 q (by omega) q2
    exact ⟨r, by omega, r2, by rw [q3, r3]⟩

/-- The blocks of 2s once a pass is at its end. -/
theorem pass_end (h : Upto R f fk s a) (hd : s ∣ a) (ha : a ≤ N) (hN : N < a + s) (hl : a < N → Blk R f fk a N) : From2 R f fk s 0 N := by
  intro x hx _ hlt
  by_cases c : x < a
  · have hn := dvd_next hx hd c
    rw [show min (x + s) N = x + s by omega]; exact h x hx c
  · have := dvd_same hx hd (by omega) (by omega)
    subst this
    rw [show min (x + s) N = N by omega]
    exact hl hlt
end
end Go.Proofs.Ytnnofahlmlikcaa

/-
  What the searches of the merge find, and the pushes of one cell. Plain mathematics.
-/
namespace Go.Proofs.Ytnnofahlmlikcaa
open Go.RowKit
set_option linter.unusedSimpArgs false
set_option linter.unusedVariables false

theorem rot_up {a k : Nat} (h : a ≤ k) (f : Nat → Int) (p : Nat) : (if p = k + 1 then rot a (a + 1) (k + 1) f k else if p = k then rot a (a + 1) (k + 1) f (k + 1) else rot a (a + 1) (k + 1) f p) = rot a (a + 1) (k + 1 + 1) f p := by
  simp only [rot]
  repeat' split
  all_goals first | (exact f_same (by omega)) | (exfalso; omega)

theorem rot_down {k m : Nat} (h : k + 1 ≤ m) (f : Nat → Int) (p : Nat) : (if p = k then rot (k + 1) m (m + 1) f (k + 1) else if p = k + 1 then rot (k + 1) m (m + 1) f k else rot (k + 1) m (m + 1) f p) = rot k m (m + 1) f p := by
  simp only [rot]
  repeat' split
  all_goals first | (exact f_same (by omega)) | (exfalso; omega)

section
variable {R : Int → Int → Prop} {f : Nat → Int}

theorem ris_le (hR : Tot R) {a b : Nat} (s : Rises R f a b) {p q : Nat} (h1 : a ≤ p) (h2 : p ≤ q) (h3 : q < b) {x : Int} : (R (f q) x → R (f p) x) ∧ (R x (f p) → R x (f q)) := by
  by_cases e : p = q
  · subst e; exact ⟨id, id⟩
  · exact ⟨fun h => hR.tr _ _ _ (s p q h1 (by omega) h3) h, fun h => hR.tr _ _ _ h (s p q h1 (by omega) h3)⟩

/-- Ties do not come: what is not ahead of one that stands before it is behind it. -/
theorem not_ahead (hR : Tot R) {x y : Int} (hxy : x < y) (h : ¬ R y x) : R x y := by
  rcases hR.to x y (by omega) with e | e
  · exact e
  · exact absurd e h

/-- The search in the midst: lo, hi, and n = mid + m. -/
structure MidS (a m b lo hi n : Nat) : Prop where
  la : a ≤ lo
  hm : hi ≤ m
  le : lo ≤ hi
  up : ∀ c, lo ≤ c → c < hi → m + c + 1 ≤ n ∧ n < b + c + 1
  lo' : lo = a ∨ lo + b = n
  hi' : hi = m ∨ hi + m = n
  nm : m + lo ≤ n ∧ m + hi ≤ n ∧ n ≤ b + lo

theorem mid_of {a m b mid : Nat} (h1 : a < m) (h2 : m < b) (hmid : mid = (a + b) / 2) : (mid < m → MidS a m b (mid + m - b) mid (mid + m)) ∧ (m ≤ mid → MidS a m b a m (mid + m)) := by
  refine ⟨fun h => ⟨by omega, by omega, by omega, fun c h1 h2 => by omega, by omega, by omega, by omega⟩, fun h => ⟨by omega, by omega, by omega, fun c h1 h2 => by omega, by omega, by omega, by omega⟩⟩

theorem mid_left (hR : Tot R) {a m b lo hi n : Nat} (M : MidS a m b lo hi n) (s1 : Rises R f a m) (s2 : Rises R f m b) {c : Nat} (h1 : lo ≤ c) (h2 : c < hi) (h : R (f c) (f (n - 1 - c))) : ∀ c', lo ≤ c' → c' ≤ c → R (f c') (f (n - 1 - c')) := by
  intro c' h3 h4
  have u := M.up c h1 h2
  have u' := M.up c' h3 (by omega)
  have := M.la; have := M.hm
  exact (ris_le hR s2 (p := n - 1 - c) (q := n - 1 - c') (by omega) (by omega) (by omega)).2 ((ris_le hR s1 (p := c') (q := c) (by omega) h4 (by omega)).1 h)

theorem mid_right (hR : Tot R) {a m b lo hi n : Nat} (M : MidS a m b lo hi n) (s1 : Rises R f a m) (s2 : Rises R f m b) {c : Nat} (h1 : lo ≤ c) (h2 : c < hi) (h : R (f (n - 1 - c)) (f c)) : ∀ c', c ≤ c' → c' < hi → R (f (n - 1 - c')) (f c') := by
  intro c' h3 h4
  have u := M.up c h1 h2
  have u' := M.up c' (by omega) h4
  have := M.la; have := M.hm
  exact (ris_le hR s2 (p := n - 1 - c') (q := n - 1 - c) (by omega) (by omega) (by omega)).1 ((ris_le hR s1 (p := c) (q := c') (by omega) h3 (by omega)).2 h)

theorem mid_parted (hR : Tot R) {a m b lo hi n s : Nat} (M : MidS a m b lo hi n) (s1 : Rises R f a m) (s2 : Rises R f m b) (h1 : lo ≤ s) (h2 : s ≤ hi)
    (hl : ∀ c, lo ≤ c → c < s → R (f c) (f (n - 1 - c))) (hr : ∀ c, s ≤ c → c < hi → R (f (n - 1 - c)) (f c)) : Parted R f a s m (n - s) b := by
  have := M.la; have := M.hm; have := M.nm
  refine ⟨by omega, by omega, by omega, by omega, fun p q hp hps hq hqb => ?_, fun p q hp hpm hq hqe => ?_⟩
  · by_cases e : s = lo
    · exfalso
      rcases M.lo' with e2 | e2 <;> omega
    · have hc := hl (s - 1) (by omega) (by omega)
      have u := M.up (s - 1) (by omega) (by omega)
      exact (ris_le hR s2 (p := n - 1 - (s - 1)) (q := q) (by omega) (by omega) hqb).2 ((ris_le hR s1 (p := p) (q := s - 1) hp (by omega) (by omega)).1 hc)
  · by_cases e : s = hi
    · exfalso
      rcases M.hi' with e2 | e2 <;> omega
    · have hc := hr s (Nat.le_refl _) (by omega)
      have u := M.up s (by omega) (by omega)
      exact (ris_le hR s2 (p := q) (q := n - 1 - s) hq (by omega) (by omega)).1 ((ris_le hR s1 (p := s) (q := p) (by omega) hp hpm).2 hc)
end
end Go.Proofs.Ytnnofahlmlikcaa

/-
  A call by its contract, as a step of a statement whose order is open, be there a guard or none.
-/
namespace Go.Proofs.Ytnnofahlmlikcaa
open Go.RowKit
set_option linter.unusedSimpArgs false
set_option linter.unusedVariables false

/-- Two arguments, no guard. -/
theorem step_call2 {P : Program} {w : World} {ops : Array Oper} {o : Oper} {a : Act} {K : Act → World → Prop} {Q : Exit → Act → World → Prop} {E : Prop} (hgd : o.guard = none) (F : FuncId) (x y : Operand) (T U : TypeId)
    (ho : o.op = .call { callee := .value (.func F), args := #[x, y], argTypes := #[T, U] }) (v u : Value) (hx : a.eval x = v) (hy : a.eval y = u) (hcf : ∀ w, (callFunc F #[v, u]).run P w = .ok (.enter F #[v, u]) w) {R : Ending → World → Prop} (hc : Calls P F #[v, u] w R)
    (h : ∀ e w', R e w' → ∃ u, e = .returned u ∧ K (a.put o.dst u) w') :
    if Region.wanted o (yielded ops a.tmps) = true then Oper.wp P o a w K Q else E := by
  have hw : Region.wanted o (yielded ops a.tmps) = true := by simp [Region.wanted, hgd]
  rw [if_pos hw]
  unfold Oper.wp execOp
  have e1 : a.eval (.func F) = .func (.func F) #[] #[] := rfl
  simp [ho, resolve, invoke, hx, hy, e1, Deferred.ofValue, hcf, Result.andThen, Oper.upon_enter]
  refine hc.mono fun e w' hr => ?_
  obtain ⟨u, rfl, hk⟩ := h e w' hr
  exact hk

/-- One argument, behind a guard. -/
theorem step_call1g {P : Program} {w : World} {ops : Array Oper} {o : Oper} {a : Act} {K : Act → World → Prop} {Q : Exit → Act → World → Prop} {E : Prop} (hw : Region.wanted o (yielded ops a.tmps) = true) (F : FuncId) (x : Operand) (T : TypeId)
    (ho : o.op = .call { callee := .value (.func F), args := #[x], argTypes := #[T] }) (v : Value) (hx : a.eval x = v) (hcf : ∀ w, (callFunc F #[v]).run P w = .ok (.enter F #[v]) w) {R : Ending → World → Prop} (hc : Calls P F #[v] w R)
    (h : ∀ e w', R e w' → ∃ u, e = .returned u ∧ K (a.put o.dst u) w') :
    if Region.wanted o (yielded ops a.tmps) = true then Oper.wp P o a w K Q else E := by
  rw [if_pos hw]
  unfold Oper.wp execOp
  have e1 : a.eval (.func F) = .func (.func F) #[] #[] := rfl
  simp [ho, resolve, invoke, hx, e1, Deferred.ofValue, hcf, Result.andThen, Oper.upon_enter]
  refine hc.mono fun e w' hr => ?_
  obtain ⟨u, rfl, hk⟩ := h e w' hr
  exact hk
end Go.Proofs.Ytnnofahlmlikcaa
