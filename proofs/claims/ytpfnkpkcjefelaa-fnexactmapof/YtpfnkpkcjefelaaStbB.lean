/-
  Steps of paths: what makes a path right, and how a slice of steps lies in memory.
-/
import Derived.Test.YtpfnkpkcjefelaaStepC
namespace Go.Proofs.Ytpfnkpkcjefelaa
open Go.RowKit
set_option linter.unusedSimpArgs false
set_option linter.unusedVariables false

/-- A step of a path. -/
structure PS where
  named : Bool
  key : ByteArray
  pl : Int

def PS.zero : PS := ⟨false, ByteArray.empty, 0⟩
def stepAt (ps : List PS) (i : Nat) : PS := ps.getD i PS.zero
def stepB (x : PS) : Bool := (x.named && (textB x.key && decide (x.pl = 0))) || (!x.named && (decide (x.key.toList = []) && (decide (0 ≤ x.pl) && decide (x.pl ≤ 80))))
def pathB (ps : List PS) : Bool := decide (ps.length ≤ 10) && (List.range ps.length).all fun i => stepB (stepAt ps i)

theorem pathB_false {ps : List PS} {k : Nat} (hk : k < ps.length) (h : stepB (stepAt ps k) = false) : pathB ps = false := by
  unfold pathB
  rw [show ((List.range ps.length).all fun i => stepB (stepAt ps i)) = false from ?_, Bool.and_false]
  rw [List.all_eq_false]
  exact ⟨k, List.mem_range.2 hk, by simp [h]⟩

theorem pathB_all {ps : List PS} (h : ∀ k, k < ps.length → stepB (stepAt ps k) = true) : pathB ps = decide (ps.length ≤ 10) := by
  unfold pathB
  rw [show ((List.range ps.length).all fun i => stepB (stepAt ps i)) = true from ?_, Bool.and_true]
  rw [List.all_eq_true]
  exact fun k hk => h k (List.mem_range.1 hk)

/-- A slice of at most M steps, the texts of at most S bytes, below the block B. -/
def StepsIn (M S B : Nat) (w : World) (v : Value) (ps : List PS) : Prop :=
  ps.length ≤ M ∧ (∀ i, i < ps.length → (stepAt ps i).key.size ≤ S ∧ -9223372036854775808 ≤ (stepAt ps i).pl ∧ (stepAt ps i).pl ≤ 9223372036854775807) ∧
  ∃ a cap, v = .slice a ps.length cap ∧ (0 < ps.length → ∃ b o, a = some ⟨b, o, none⟩ ∧ b < B ∧ ∀ i, i < ps.length →
    w.cell? ⟨b, o + i * 3, none⟩ = some (.bool (stepAt ps i).named) ∧ w.cell? ⟨b, o + i * 3 + 1, none⟩ = some (.string (stepAt ps i).key) ∧ w.cell? ⟨b, o + i * 3 + 2, none⟩ = some (.int .i64 (stepAt ps i).pl))

theorem StepsIn.below {M S B : Nat} {w w' : World} {v : Value} {ps : List PS} (h : StepsIn M S B w v ps) (hb : Below B w w') : StepsIn M S B w' v ps := by
  obtain ⟨h1, h2, a, cap, e, h3⟩ := h
  refine ⟨h1, h2, a, cap, e, fun hl => ?_⟩
  obtain ⟨b, o, ea, hbB, hc⟩ := h3 hl
  exact ⟨b, o, ea, hbB, fun i hi => ⟨(below_cell hb hbB).trans (hc i hi).1, (below_cell hb hbB).trans (hc i hi).2.1, (below_cell hb hbB).trans (hc i hi).2.2⟩⟩

theorem StepsIn.wide {M S B B' : Nat} {w : World} {v : Value} {ps : List PS} (h : StepsIn M S B w v ps) (hb : B ≤ B') : StepsIn M S B' w v ps := by
  obtain ⟨h1, h2, a, cap, e, h3⟩ := h
  refine ⟨h1, h2, a, cap, e, fun hl => ?_⟩
  obtain ⟨b, o, ea, hbB, hc⟩ := h3 hl
  exact ⟨b, o, ea, by omega, hc⟩

theorem StepsIn.fit {M S B M' S' : Nat} {w : World} {v : Value} {ps : List PS} (h : StepsIn M S B w v ps) (h1 : ps.length ≤ M') (h2 : ∀ i, i < ps.length → (stepAt ps i).key.size ≤ S') : StepsIn M' S' B w v ps :=
  ⟨h1, fun i hi => ⟨h2 i hi, (h.2.1 i hi).2⟩, h.2.2⟩
end Go.Proofs.Ytpfnkpkcjefelaa

/-
  Merging two rows that rise by turning a range in their midst. Plain mathematics.
-/
namespace Go.Proofs.Ytpfnkpkcjefelaa
open Go.RowKit
set_option linter.unusedSimpArgs false
set_option linter.unusedVariables false
set_option linter.unusedSectionVars false

/-- An order without ties. -/
structure Tot (R : Int → Int → Prop) : Prop where
  tr : ∀ x y z, R x y → R y z → R x z
  asym : ∀ x y, R x y → ¬ R y x
  to : ∀ x y, x ≠ y → R x y ∨ R y x

def Rises (R : Int → Int → Prop) (f : Nat → Int) (a b : Nat) : Prop := ∀ p q, a ≤ p → p < q → q < b → R (f p) (f q)
def Cross (f : Nat → Int) (a m b : Nat) : Prop := ∀ p q, a ≤ p → p < m → m ≤ q → q < b → f p < f q
structure Merged (R : Int → Int → Prop) (f f' : Nat → Int) (a b : Nat) : Prop where
  out : ∀ p, p < a ∨ b ≤ p → f' p = f p
  inn : ∀ p, a ≤ p → p < b → ∃ q, a ≤ q ∧ q < b ∧ f' p = f q
  ris : Rises R f' a b

theorem rot_lo {a m b : Nat} {f : Nat → Int} {p : Nat} (h : p < a ∨ b ≤ p) (h1 : a ≤ m) (h2 : m ≤ b) : rot a m b f p = f p := by
  unfold rot; rw [if_neg (by omega), if_neg (by omega)]
theorem rot_1 {a m b : Nat} {f : Nat → Int} {p : Nat} (h1 : a ≤ p) (h2 : p < a + (b - m)) : rot a m b f p = f (m + (p - a)) := by
  unfold rot; rw [if_pos ⟨h1, h2⟩]
theorem rot_2 {a m b : Nat} {f : Nat → Int} {p : Nat} (h1 : a + (b - m) ≤ p) (h2 : p < b) : rot a m b f p = f (p - (b - m)) := by
  unfold rot; rw [if_neg (by omega), if_pos ⟨h1, h2⟩]

/-- What lies behind the turning lay there before. -/
theorem rot_inn {s m e : Nat} {f : Nat → Int} (h1 : s ≤ m) (h2 : m ≤ e) {a b : Nat} (ha : a ≤ s) (hb : e ≤ b) : ∀ p, a ≤ p → p < b → ∃ q, a ≤ q ∧ q < b ∧ rot s m e f p = f q := by
  intro p hp1 hp2
  by_cases c1 : p < s ∨ e ≤ p
  · exact ⟨p, hp1, hp2, rot_lo c1 h1 h2⟩
  · by_cases c2 : p < s + (e - m)
    · exact ⟨m + (p - s), by omega, by omega, rot_1 (by omega) c2⟩
    · exact ⟨p - (e - m), by omega, by omega, rot_2 (by omega) (by omega)⟩

/-- The first row goes in between two parts of the second. -/
theorem merged_1 {R : Int → Int → Prop} {f : Nat → Int} {a m i b : Nat} (h1 : a < m) (h2 : m ≤ i) (h3 : i ≤ b) (s1 : Rises R f a m) (s2 : Rises R f m b)
    (c1 : ∀ p q, a ≤ p → p < m → m ≤ q → q < i → R (f q) (f p)) (c2 : ∀ p q, a ≤ p → p < m → i ≤ q → q < b → R (f p) (f q)) : Merged R f (rot a m i f) a b := by
  refine ⟨fun p hp => rot_lo (by omega) (by omega) (by omega), rot_inn (by omega) h2 (Nat.le_refl _) h3, fun p q hp hpq hq => ?_⟩
  by_cases p1 : p < a + (i - m)
  · rw [rot_1 hp p1]
    by_cases q1 : q < a + (i - m)
    · rw [rot_1 (by omega) q1]; exact s2 _ _ (by omega) (by omega) (by omega)
    · by_cases q2 : q < i
      · rw [rot_2 (by omega) q2]; exact c1 _ _ (by omega) (by omega) (by omega) (by omega)
      · rw [rot_lo (by omega) (by omega) (by omega)]; exact s2 _ _ (by omega) (by omega) (by omega)
  · by_cases p2 : p < i
    · rw [rot_2 (by omega) p2]
      by_cases q2 : q < i
      · rw [rot_2 (by omega) q2]; exact s1 _ _ (by omega) (by omega) (by omega)
      · rw [rot_lo (by omega) (by omega) (by omega)]; exact c2 _ _ (by omega) (by omega) (by omega) (by omega)
    · rw [rot_lo (by omega) (by omega) (by omega), rot_lo (by omega) (by omega) (by omega)]; exact s2 _ _ (by omega) (by omega) (by omega)

/-- The second row goes in between two parts of the first. -/
theorem merged_2 {R : Int → Int → Prop} {f : Nat → Int} {a i m b : Nat} (h1 : a ≤ i) (h2 : i ≤ m) (h3 : m < b) (s1 : Rises R f a m) (s2 : Rises R f m b)
    (c1 : ∀ p q, a ≤ p → p < i → m ≤ q → q < b → R (f p) (f q)) (c2 : ∀ p q, i ≤ p → p < m → m ≤ q → q < b → R (f q) (f p)) : Merged R f (rot i m b f) a b := by
  refine ⟨fun p hp => rot_lo (by omega) (by omega) (by omega), rot_inn h2 (by omega) h1 (Nat.le_refl _), fun p q hp hpq hq => ?_⟩
  by_cases p0 : p < i
  · rw [rot_lo (by omega) (by omega) (by omega)]
    by_cases q0 : q < i
    · rw [rot_lo (by omega) (by omega) (by omega)]; exact s1 _ _ (by omega) (by omega) (by omega)
    · by_cases q1 : q < i + (b - m)
      · rw [rot_1 (by omega) q1]; exact c1 _ _ (by omega) (by omega) (by omega) (by omega)
      · rw [rot_2 (by omega) (by omega)]; exact s1 _ _ (by omega) (by omega) (by omega)
  · by_cases p1 : p < i + (b - m)
    · rw [rot_1 (by omega) p1]
      by_cases q1 : q < i + (b - m)
      · rw [rot_1 (by omega) q1]; exact s2 _ _ (by omega) (by omega) (by omega)
      · rw [rot_2 (by omega) (by omega)]; exact c2 _ _ (by omega) (by omega) (by omega) (by omega)
    · rw [rot_2 (by omega) (by omega), rot_2 (by omega) (by omega)]; exact s1 _ _ (by omega) (by omega) (by omega)

/-- What the search in the midst finds: [a, s) and [m, e) are ahead of [s, m) and [e, b). -/
structure Parted (R : Int → Int → Prop) (f : Nat → Int) (a s m e b : Nat) : Prop where
  ale : a ≤ s
  sm : s ≤ m
  me : m ≤ e
  eb : e ≤ b
  x1 : ∀ p q, a ≤ p → p < s → e ≤ q → q < b → R (f p) (f q)
  x2 : ∀ p q, s ≤ p → p < m → m ≤ q → q < e → R (f q) (f p)

theorem rot_none {s m e : Nat} (h : s = m ∨ m = e) (hs : s ≤ m) (he : m ≤ e) (f : Nat → Int) (p : Nat) : rot s m e f p = f p := by
  simp only [rot]
  repeat' split
  all_goals first | (exact f_same (by omega)) | (exfalso; omega)

section
variable {R : Int → Int → Prop} {f : Nat → Int} {a s m e b : Nat}

theorem Parted.rise1 (h : Parted R f a s m e b) (s1 : Rises R f a m) : Rises R (rot s m e f) a s := fun p q hp hpq hq => by
  have := h.sm; have := h.me
  rw [rot_lo (by omega) h.sm h.me, rot_lo (by omega) h.sm h.me]; exact s1 p q hp hpq (by omega)
theorem Parted.rise2 (h : Parted R f a s m e b) (s2 : Rises R f m b) : Rises R (rot s m e f) s (s + (e - m)) := fun p q hp hpq hq => by
  have := h.eb; have := h.me
  rw [rot_1 (by omega) (by omega), rot_1 (by omega) (by omega)]; exact s2 _ _ (by omega) (by omega) (by omega)
theorem Parted.rise3 (h : Parted R f a s m e b) (s1 : Rises R f a m) : Rises R (rot s m e f) (s + (e - m)) e := fun p q hp hpq hq => by
  have := h.ale; have := h.sm; have := h.me
  rw [rot_2 (by omega) (by omega), rot_2 (by omega) (by omega)]; exact s1 _ _ (by omega) (by omega) (by omega)
theorem Parted.rise4 (h : Parted R f a s m e b) (s2 : Rises R f m b) : Rises R (rot s m e f) e b := fun p q hp hpq hq => by
  have := h.sm; have := h.me
  rw [rot_lo (by omega) h.sm h.me, rot_lo (by omega) h.sm h.me]; exact s2 p q (by omega) hpq hq
theorem Parted.cross1 (h : Parted R f a s m e b) (c : Cross f a m b) : Cross (rot s m e f) a s (s + (e - m)) := fun p q hp hps hq hqe => by
  have := h.sm; have := h.me; have := h.eb
  rw [rot_lo (by omega) h.sm h.me, rot_1 (by omega) (by omega)]; exact c _ _ hp (by omega) (by omega) (by omega)
theorem Parted.cross2 (h : Parted R f a s m e b) (c : Cross f a m b) : Cross (rot s m e f) (s + (e - m)) e b := fun p q hp hpe hq hqb => by
  have := h.ale; have := h.sm; have := h.me
  rw [rot_2 (by omega) (by omega), rot_lo (by omega) h.sm h.me]; exact c _ _ (by omega) (by omega) (by omega) hqb

/-- All of the first half are ahead of all of the second. -/
theorem Parted.halves (h : Parted R f a s m e b) (s1 : Rises R f a m) (s2 : Rises R f m b) : ∀ p q, a ≤ p → p < s + (e - m) → s + (e - m) ≤ q → q < b → R (rot s m e f p) (rot s m e f q) := by
  intro p q hp1 hp2 hq1 hq2
  have := h.ale; have := h.sm; have := h.me; have := h.eb
  by_cases c1 : p < s
  · rw [rot_lo (p := p) (by omega) h.sm h.me]
    by_cases c2 : q < e
    · rw [rot_2 (by omega) c2]; exact s1 _ _ (by omega) (by omega) (by omega)
    · rw [rot_lo (p := q) (by omega) h.sm h.me]; exact h.x1 _ _ hp1 c1 (by omega) hq2
  · rw [rot_1 (p := p) (by omega) (by omega)]
    by_cases c2 : q < e
    · rw [rot_2 (by omega) c2]; exact h.x2 _ _ (by omega) (by omega) (by omega) (by omega)
    · rw [rot_lo (p := q) (by omega) h.sm h.me]; exact s2 _ _ (by omega) (by omega) hq2

/-- Both halves merged, the whole is. -/
theorem Parted.whole (h : Parted R f a s m e b) (s1 : Rises R f a m) (s2 : Rises R f m b) {f2 f3 : Nat → Int} (m1 : Merged R (rot s m e f) f2 a (s + (e - m))) (m2 : Merged R f2 f3 (s + (e - m)) b) : Merged R f f3 a b := by
  have := h.ale; have := h.sm; have := h.me; have := h.eb
  have hh := h.halves s1 s2
  have lo : ∀ p, a ≤ p → p < s + (e - m) → ∃ q, a ≤ q ∧ q < s + (e - m) ∧ f3 p = rot s m e f q := fun p h1 h2 => by
    obtain ⟨q, q1, q2, q3⟩ := m1.inn p h1 h2
    exact ⟨q, q1, q2, by rw [m2.out p (by omega), q3]⟩
  have hi : ∀ p, s + (e - m) ≤ p → p < b → ∃ q, s + (e - m) ≤ q ∧ q < b ∧ f3 p = rot s m e f q := fun p h1 h2 => by
    obtain ⟨q, q1, q2, q3⟩ := m2.inn p h1 h2
    exact ⟨q, q1, q2, by rw [q3, m1.out q (by omega)]⟩
  have ri := rot_inn (f := f) h.sm h.me h.ale h.eb
  refine ⟨fun p hp => ?_, fun p h1 h2 => ?_, fun p q hp hpq hq => ?_⟩
  · rw [m2.out p (by omega), m1.out p (by omega), rot_lo (by omega) h.sm h.me]
  · by_cases c : p < s + (e - m)
    · obtain ⟨q, q1, q2, q3⟩ := lo p h1 c
      obtain ⟨r, r1, r2, r3⟩ := ri q q1 (by omega)
      exact ⟨r, r1, r2, by rw [q3, r3]⟩
    · obtain ⟨q, q1, q2, q3⟩ := hi p (by omega) h2
      obtain ⟨r, r1, r2, r3⟩ := ri q (by omega) q2
      exact ⟨r, r1, r2, by rw [q3, r3]⟩
  · by_cases c : q < s + (e - m)
    · rw [m2.out p (by omega), m2.out q (by omega)]; exact m1.ris p q hp hpq c
    · by_cases c2 : p < s + (e - m)
      · obtain ⟨p', p1, p2, p3⟩ := lo p hp c2
        obtain ⟨q', q1, q2, q3⟩ := hi q (by omega) hq
        rw [p3, q3]
        exact hh _ _ p1 p2 q1 q2
      · exact m2.ris p q (by omega) hpq hq

theorem merged_self {g : Nat → Int} {x y : Nat} (h : Rises R g x y) : Merged R g g x y := ⟨fun _ _ => rfl, fun p h1 h2 => ⟨p, h1, h2, rfl⟩, h⟩
end

/-! ### The searches -/
/-- The place of one ahead of a row that rises: those before place i are ahead of it. -/
theorem find_1 {R : Int → Int → Prop} (hR : Tot R) {f : Nat → Int} {a m b : Nat} (s2 : Rises R f m b) {h : Nat} (hm : m ≤ h) (hb : h < b) :
    (R (f h) (f a) → ∀ q, m ≤ q → q ≤ h → R (f q) (f a)) ∧ (R (f a) (f h) → ∀ q, h ≤ q → q < b → R (f a) (f q)) := by
  refine ⟨fun hr q h1 h2 => ?_, fun hr q h1 h2 => ?_⟩
  · by_cases e : q = h
    · subst e; exact hr
    · exact hR.tr _ _ _ (s2 q h h1 (by omega) hb) hr
  · by_cases e : h = q
    · subst e; exact hr
    · exact hR.tr _ _ _ hr (s2 h q hm (by omega) h2)
end Go.Proofs.Ytpfnkpkcjefelaa

/-
  Rows that rise block by block, and blocks that are merged two and two. Plain mathematics.
-/
namespace Go.Proofs.Ytpfnkpkcjefelaa
open Go.RowKit
set_option linter.unusedSimpArgs false
set_option linter.unusedVariables false
set_option linter.unusedSectionVars false

/-- [x, y) rises, and holds what it held. -/
def Blk (R : Int → Int → Prop) (f fk : Nat → Int) (x y : Nat) : Prop := (∀ p, x ≤ p → p < y → ∃ q, x ≤ q ∧ q < y ∧ fk p = f q) ∧ Rises R fk x y

/-- All blocks of s from a on rise. -/
def From2 (R : Int → Int → Prop) (f fk : Nat → Int) (s a N : Nat) : Prop := ∀ x, s ∣ x → a ≤ x → x < N → Blk R f fk x (min (x + s) N)
/-- All blocks of s ahead of a rise. -/
def Upto (R : Int → Int → Prop) (f fk : Nat → Int) (s a : Nat) : Prop := ∀ x, s ∣ x → x < a → Blk R f fk x (x + s)

section
variable {R : Int → Int → Prop} {f fk fk' : Nat → Int} {s a b m N : Nat}

theorem Blk.kept (h : Blk R f fk a b) (e : ∀ p, a ≤ p → p < b → fk' p = fk p) : Blk R f fk' a b := by
  refine ⟨fun p h1 h2 => ?_, fun p q h1 h2 h3 => ?_⟩
  · rw [e p h1 h2]; exact h.1 p h1 h2
  · rw [e p h1 (by omega), e q (by omega) h3]; exact h.2 p q h1 h2 h3

theorem dvd_same {x : Nat} (h1 : s ∣ x) (h2 : s ∣ a) (h3 : a ≤ x) (h4 : x < a + s) : x = a := by
  have h5 : s ∣ x - a := Nat.dvd_sub h1 h2
  have : x - a = 0 := Nat.eq_zero_of_dvd_of_lt h5 (by omega)
  omega

theorem dvd_next {x : Nat} (h1 : s ∣ x) (h2 : s ∣ a) (h3 : x < a) : x + s ≤ a := by
  have h5 : s ∣ a - x := Nat.dvd_sub h2 h1
  have := Nat.le_of_dvd (by omega) h5
  omega

theorem Upto.snoc (h : Upto R f fk s a) (hd : s ∣ a) (hb : Blk R f fk' a (a + s)) (he : ∀ p, p < a → fk' p = fk p) : Upto R f fk' s (a + s) := by
  intro x hx hlt
  by_cases c : x < a
  · exact (h x hx c).kept (fun p h1 h2 => he p (by have := dvd_next hx hd c; omega))
  · have := dvd_same hx hd (by omega) hlt
    subst this; exact hb

theorem From2.next (h : From2 R f fk s a N) (he : ∀ p, a + 2 * s ≤ p → fk' p = fk p) : From2 R f fk' s (a + 2 * s) N := by
  intro x hx h1 h2
  exact (h x hx (by omega) h2).kept (fun p h3 h4 => he p (by omega))

/-- Two blocks that stand beside each other: the values of the first are the lower ones. -/
theorem blk_cross (hup : ∀ p q, p < q → q < N → f p < f q) (h1 : Blk R f fk a m) (h2 : Blk R f fk m b) (hb : b ≤ N) : Cross fk a m b := by
  intro p q hp hpm hq hqb
  obtain ⟨p', a1, a2, a3⟩ := h1.1 p hp hpm
  obtain ⟨q', b1, b2, b3⟩ := h2.1 q hq hqb
  rw [a3, b3]
  exact hup p' q' (by omega) (by omega)

theorem blk_merged (h1 : Blk R f fk a m) (h2 : Blk R f fk m b) (hm : Merged R fk fk' a b) (ham : a ≤ m) (hmb : m ≤ b) : Blk R f fk' a b := by
  refine ⟨fun p hp hq => ?_, hm.ris⟩
  obtain ⟨q, q1, q2, q3⟩ := hm.inn p hp hq
  by_cases c : q < m
  · obtain ⟨r, r1, r2, r3⟩ := h1.1 q q1 c
    exact ⟨r, r1, by omega, by rw [q3, r3]⟩
  · obtain ⟨r, r1, r2, r3⟩ := h2.1 q (by omega) q2
    exact ⟨r, by omega, r2, by rw [q3, r3]⟩

/-- The blocks of 2s once a pass is at its end. -/
theorem pass_end (h : Upto R f fk s a) (hd : s ∣ a) (ha : a ≤ N) (hN : N < a + s) (hl : a < N → Blk R f fk a N) : From2 R f fk s 0 N := by
  intro x hx _ hlt
  by_cases c : x < a
  · have hn := dvd_next hx hd c
    rw [show min (x + s) N = x + s by omega]; exact h x hx c
  · have := dvd_same hx hd (by omega) (by omega)
    subst this
    rw [show min (x + s) N = N by omega]
    exact hl hlt
end
end Go.Proofs.Ytpfnkpkcjefelaa
