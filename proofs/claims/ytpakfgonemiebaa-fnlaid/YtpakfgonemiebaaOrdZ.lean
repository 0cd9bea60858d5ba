/-
  What spec.DrawLaid draws.
-/
import Derived.Test.YtpakfgonemiebaaDrPth
import Derived.Test.YtpakfgonemiebaaFlat
import Derived.Test.YtpakfgonemiebaaProg
import Derived.Lib.Bytealg
import Derived.Laws.Cover1
import Derived.Laws.Externs
import Derived.KernelRfl
import Derived.Test.YtpakfgonemiebaaTree
import Derived.Deep.QuietTactic
import Derived.BigQuiet
import Derived.WalkSmall
import Derived.Deep.RegionWith
import Derived.Test.YtpakfgonemiebaaListP
namespace Go.Proofs.Ytpakfgonemiebaa
open Go.RowKit
set_option linter.unusedSimpArgs false
set_option linter.unusedVariables false

def LaidDrawn (w : World) (e : Ending) (w' : World) : Prop := ∃ r vs KV IV u ps r2 ws KV2 IV2, e = .returned (.tuple #[r, u, r2]) ∧ Fine 40 vs ∧ Short 1001 ps ∧ Fine 80 ws ∧ Nest w.heap.size w' r vs KV IV ∧ w'.ownsRow w.heap.size 39 3 u ps.length (stepCells ps) ∧ Nest w.heap.size w' r2 ws KV2 IV2 ∧ Below w.heap.size w w'

set_option maxHeartbeats 1600000 in
theorem drawLaid_any (B : Nat) (v : Value) (n : Nat) (w : World) (h : CodeAt B w v n) (hB : B ≤ w.heap.size) :
    Calls Try.prog 9 #[v] w (LaidDrawn w) := by
  have H := hideIt h
  obtain ⟨_, a, cap, rfl, _⟩ := h
  go_enter Try.func9, Try.ntmps9
  go_wp2_with fail
  refine (l1Open_any B _ n w H.out hB).mono ?_
  rintro e w1 ⟨rfl, hr, hb⟩
  have HR := hideIt hr
  have HB := hideIt hb
  have z1 := hb.size
  have hw1 : w.heap.size < w1.heap.size := hr.lt
  clear hr hb
  go_wp2_with fail
  refine (rdMaybe_any w.heap.size n w1 ⟨0, HR.out⟩).mono ?_
  rintro e w2 ⟨⟨r, vs, KV, IV, rfl, hf, hn⟩, hd⟩
  have HF := hideIt hf
  have HN := hideIt hn
  have HD := hideIt hd
  have hl2 : vs.length ≤ 40 := hf.2.1
  have z2 := hd.only.1
  have HND := hideIt (hn.nodes (by omega) (hf.few (show 40 ≤ 80 by omega)).2)
  obtain ⟨ar, cr, er⟩ := own_slice hn.row
  obtain ⟨M, hM⟩ : ∃ M, vs.length = M := ⟨_, rfl⟩
  rw [hM] at er hl2
  subst er
  clear hf hn hd hM
  go_wp2_with fail
  refine (rdPath_any w.heap.size n w2.heap.size _ vs w2 HD.out.rd HND.out (Nat.le_refl _)).mono ?_
  rintro e w3 ⟨⟨u, ps, rfl, hsh, how⟩, hd3⟩
  have z3 := hd3.only.1
  have HN3 := hideIt (HN.out.from (hd3.from hw1))
  have HB3 := hideIt (HD.out.trans hd3)
  have HO3 := hideIt how
  have HSH := hideIt hsh
  obtain ⟨au, cu, eu⟩ := own_slice how
  obtain ⟨N, hN⟩ : ∃ N, ps.length = N := ⟨_, rfl⟩
  rw [hN] at eu
  subst eu
  clear hd3 hsh how hN
  go_wp2_with fail
  refine (rdValue_any w.heap.size n 1 (by omega) w3 HB3.out.rd).mono ?_
  rintro e w4 ⟨⟨r2, ws, KV2, IV2, rfl, hf4, hn4⟩, hd4⟩
  have HF4 : Hid (Fine 80 ws) := ⟨hf4.1, Nat.le_trans hf4.2.1 (by decide), hf4.2.2⟩
  have HN4 := hideIt ((HN3.out.from (hd4.from hw1)).low z1)
  have HW4 := hideIt (hn4.low (show w.heap.size ≤ w3.heap.size by omega))
  have HO4 := hideIt (own_mono (own_from HO3.out (hd4.from (by omega))) (show w.heap.size ≤ w2.heap.size by omega))
  have HB4 := hideIt (HB.out.trans (HB3.out.trans hd4).below)
  obtain ⟨a2, c2, e2⟩ := own_slice hn4.row
  obtain ⟨N2, hN2⟩ : ∃ N, ws.length = N := ⟨_, rfl⟩
  rw [hN2] at e2
  subst e2
  clear hf4 hn4 hd4 hN2
  go_wp2_with fail
  go_ret3
  exact ⟨_, vs, KV, IV, _, ps, _, ws, KV2, IV2, rfl, HF.out, HSH.out, HF4.out, HN4.out, HO4.out, HW4.out, HB4.out⟩
end Go.Proofs.Ytpakfgonemiebaa

/-
  Comparing numbers, texts and lists of texts: the specification's functions and the library's answer alike.
-/
namespace Go.Proofs.Ytpakfgonemiebaa
open Go.RowKit
set_option linter.unusedSimpArgs false
set_option linter.unusedVariables false

def cmpI (a b : Int) : Int := if a < b then -1 else if b < a then 1 else 0
def cmpL (x y : List UInt8) : Int := Lib.compareBytes x y
def cmpS (a b : ByteArray) : Int := cmpL a.toList b.toList

theorem cmpL_nil : cmpL [] [] = 0 := rfl
theorem cmpL_cons (a b : UInt8) (x y : List UInt8) : cmpL (a :: x) (b :: y) = if a < b then -1 else if b < a then 1 else cmpL x y := by
  unfold cmpL; rw [Lib.compareBytes]

theorem cmpL_less : ∀ x y : List UInt8, Op.bytesLess x y = decide (cmpL x y = -1) := by
  intro x
  induction x with
  | nil => intro y; cases y <;> simp [Op.bytesLess, cmpL, Lib.compareBytes]
  | cons a x ih =>
    intro y
    cases y with
    | nil => simp [Op.bytesLess, cmpL, Lib.compareBytes]
    | cons b y =>
      rw [Op.bytesLess, cmpL_cons, ih]
      by_cases h1 : a < b
      · simp [h1]
      · by_cases h2 : b < a
        · have : (a == b) = false := by simp; intro e; subst e; exact h1 h2
          simp [h1, h2, this]
        · have : a = b := UInt8.le_antisymm (UInt8.not_lt.1 h2) (UInt8.not_lt.1 h1)
          simp [h1, h2, this]

theorem cmpL_zero : ∀ x y : List UInt8, cmpL x y = 0 ↔ x = y := by
  intro x
  induction x with
  | nil => intro y; cases y <;> simp [cmpL, Lib.compareBytes]
  | cons a x ih =>
    intro y
    cases y with
    | nil => simp [cmpL, Lib.compareBytes]
    | cons b y =>
      rw [cmpL_cons]
      by_cases h1 : a < b
      · simp [h1]; intro e; subst e; exact absurd h1 (UInt8.lt_irrefl a)
      · by_cases h2 : b < a
        · simp [h1, h2]; intro e; subst e; exact absurd h2 (UInt8.lt_irrefl a)
        · have : a = b := UInt8.le_antisymm (UInt8.not_lt.1 h2) (UInt8.not_lt.1 h1)
          simp [h1, h2, this, ih]

theorem cmpL_flip : ∀ x y : List UInt8, cmpL y x = -cmpL x y := by
  intro x
  induction x with
  | nil => intro y; cases y <;> simp [cmpL, Lib.compareBytes]
  | cons a x ih =>
    intro y
    cases y with
    | nil => simp [cmpL, Lib.compareBytes]
    | cons b y =>
      rw [cmpL_cons, cmpL_cons]
      by_cases h1 : a < b
      · have h2 : ¬ b < a := UInt8.not_lt.2 (UInt8.le_of_lt h1)
        simp [h1, h2]
      · by_cases h2 : b < a
        · simp [h1, h2]
        · simp [h1, h2, ih]

theorem cmpL_range : ∀ x y : List UInt8, cmpL x y = -1 ∨ cmpL x y = 0 ∨ cmpL x y = 1 := by
  intro x
  induction x with
  | nil => intro y; cases y <;> simp [cmpL, Lib.compareBytes]
  | cons a x ih =>
    intro y
    cases y with
    | nil => simp [cmpL, Lib.compareBytes]
    | cons b y =>
      rw [cmpL_cons]
      split
      · simp
      · split
        · simp
        · exact ih y

theorem cmpI_range (a b : Int) : cmpI a b = -1 ∨ cmpI a b = 0 ∨ cmpI a b = 1 := by unfold cmpI; split <;> (try split) <;> simp
theorem cmpI_zero (a b : Int) : cmpI a b = 0 ↔ a = b := by unfold cmpI; split <;> (try split) <;> simp <;> omega

/-- Lists, by the first part that differs, then by how many there are. -/
def cmpKeys : List ByteArray → List ByteArray → Int
  | [], [] => 0
  | [], _ :: _ => -1
  | _ :: _, [] => 1
  | a :: l, b :: m => if cmpS a b ≠ 0 then cmpS a b else cmpKeys l m

theorem cmpKeys_range : ∀ l m, cmpKeys l m = -1 ∨ cmpKeys l m = 0 ∨ cmpKeys l m = 1 := by
  intro l
  induction l with
  | nil => intro m; cases m <;> simp [cmpKeys]
  | cons a l ih =>
    intro m
    cases m with
    | nil => simp [cmpKeys]
    | cons b m =>
      rw [cmpKeys]
      split
      · exact cmpL_range _ _
      · exact ih m

theorem less_of {a b : ByteArray} (h : cmpS a b = -1) : Op.bytesLess a.toList b.toList = true := by rw [cmpL_less]; exact decide_eq_true h
theorem notless_of {a b : ByteArray} (h : cmpS a b ≠ -1) : Op.bytesLess a.toList b.toList = false := by rw [cmpL_less]; exact decide_eq_false h
theorem eq_of {a b : ByteArray} (h : cmpS a b = 0) : (a.toList == b.toList) = true := by rw [beq_iff_eq]; exact (cmpL_zero _ _).1 h
theorem ne_of {a b : ByteArray} (h : cmpS a b ≠ 0) : (a.toList == b.toList) = false := by rw [beq_eq_false_iff_ne]; exact fun e => h ((cmpL_zero _ _).2 e)

end Go.Proofs.Ytpakfgonemiebaa

/-
  The order of two values, as a plain function of their nodes; lists of texts compared by the library.
-/
namespace Go.Proofs.Ytpakfgonemiebaa
open Go.RowKit
set_option linter.unusedSimpArgs false
set_option linter.unusedVariables false

theorem keyAt_get {l : List ByteArray} {j : Nat} (h : j < l.length) : keyAt l j = l[j] := by simp [keyAt, h]

theorem cmpKeys_step {l m : List ByteArray} {k : Nat} (h1 : k < l.length) (h2 : k < m.length) : cmpKeys (l.drop k) (m.drop k) = if cmpS (keyAt l k) (keyAt m k) ≠ 0 then cmpS (keyAt l k) (keyAt m k) else cmpKeys (l.drop (k + 1)) (m.drop (k + 1)) := by
  rw [List.drop_eq_getElem_cons h1, List.drop_eq_getElem_cons h2, cmpKeys, keyAt_get h1, keyAt_get h2]
theorem cmpKeys_more {l m : List ByteArray} {k : Nat} (h1 : k < l.length) (h2 : m.length ≤ k) : cmpKeys (l.drop k) (m.drop k) = 1 := by
  rw [List.drop_eq_getElem_cons h1, List.drop_of_length_le h2, cmpKeys]
theorem cmpKeys_less {l m : List ByteArray} {k : Nat} (h1 : l.length ≤ k) (h2 : k < m.length) : cmpKeys (l.drop k) (m.drop k) = -1 := by
  rw [List.drop_of_length_le h1, List.drop_eq_getElem_cons h2, cmpKeys]
theorem cmpKeys_end {l m : List ByteArray} {k : Nat} (h1 : l.length ≤ k) (h2 : m.length ≤ k) : cmpKeys (l.drop k) (m.drop k) = 0 := by
  rw [List.drop_of_length_le h1, List.drop_of_length_le h2, cmpKeys]

/-- Lists of kids, by the first two that differ, then by how many there are. -/
def cmpKids (R : Int → Int → Int) : List Int → List Int → Int
  | [], [] => 0
  | [], _ :: _ => -1
  | _ :: _, [] => 1
  | a :: l, b :: m => if R a b ≠ 0 then R a b else cmpKids R l m

theorem cmpKids_step {R : Int → Int → Int} {l m : List Int} {k : Nat} (h1 : k < l.length) (h2 : k < m.length) : cmpKids R (l.drop k) (m.drop k) = if R (intAt l k) (intAt m k) ≠ 0 then R (intAt l k) (intAt m k) else cmpKids R (l.drop (k + 1)) (m.drop (k + 1)) := by
  rw [List.drop_eq_getElem_cons h1, List.drop_eq_getElem_cons h2, cmpKids, intAt_get h1, intAt_get h2]
theorem cmpKids_more {R : Int → Int → Int} {l m : List Int} {k : Nat} (h1 : k < l.length) (h2 : m.length ≤ k) : cmpKids R (l.drop k) (m.drop k) = 1 := by
  rw [List.drop_eq_getElem_cons h1, List.drop_of_length_le h2, cmpKids]
theorem cmpKids_less {R : Int → Int → Int} {l m : List Int} {k : Nat} (h1 : l.length ≤ k) (h2 : k < m.length) : cmpKids R (l.drop k) (m.drop k) = -1 := by
  rw [List.drop_of_length_le h1, List.drop_eq_getElem_cons h2, cmpKids]
theorem cmpKids_end {R : Int → Int → Int} {l m : List Int} {k : Nat} (h1 : l.length ≤ k) (h2 : m.length ≤ k) : cmpKids R (l.drop k) (m.drop k) = 0 := by
  rw [List.drop_of_length_le h1, List.drop_of_length_le h2, cmpKids]

theorem cmpKids_range {R : Int → Int → Int} (hR : ∀ a b, -1 ≤ R a b ∧ R a b ≤ 1) : ∀ l m, -1 ≤ cmpKids R l m ∧ cmpKids R l m ≤ 1 := by
  intro l
  induction l with
  | nil => intro m; cases m <;> simp [cmpKids]
  | cons a l ih =>
    intro m
    cases m with
    | nil => simp [cmpKids]
    | cons b m =>
      rw [cmpKids]
      split
      · exact hR _ _
      · exact ih m

/-- By Kind; by N; by S; by the keys; by the kids. -/
def ord (us vs : List VN) : Nat → Nat → Nat → Int
  | 0, _, _ => 0
  | f + 1, n, m =>
    if (nodeAt us n).kind ≠ (nodeAt vs m).kind then cmpI (nodeAt us n).kind (nodeAt vs m).kind
    else if (nodeAt us n).n ≠ (nodeAt vs m).n then cmpI (nodeAt us n).n (nodeAt vs m).n
    else if cmpS (nodeAt us n).s (nodeAt vs m).s ≠ 0 then cmpS (nodeAt us n).s (nodeAt vs m).s
    else if cmpKeys (nodeAt us n).keys (nodeAt vs m).keys ≠ 0 then cmpKeys (nodeAt us n).keys (nodeAt vs m).keys
    else cmpKids (fun a b => ord us vs f a.toNat b.toNat) (nodeAt us n).kids (nodeAt vs m).kids

theorem ord_range (us vs : List VN) : ∀ f n m, -1 ≤ ord us vs f n m ∧ ord us vs f n m ≤ 1 := by
  intro f
  induction f with
  | zero => intro n m; simp [ord]
  | succ f ih =>
    intro n m
    rw [ord]
    split
    · rcases cmpI_range (nodeAt us n).kind (nodeAt vs m).kind with h | h | h <;> omega
    split
    · rcases cmpI_range (nodeAt us n).n (nodeAt vs m).n with h | h | h <;> omega
    split
    · rcases cmpL_range (nodeAt us n).s.toList (nodeAt vs m).s.toList with h | h | h <;> (unfold cmpS; omega)
    split
    · rcases cmpKeys_range (nodeAt us n).keys (nodeAt vs m).keys with h | h | h <;> omega
    · exact cmpKids_range (fun a b => ih _ _) _ _

end Go.Proofs.Ytpakfgonemiebaa

/-
  The specification's order of two right values.
-/
namespace Go.Proofs.Ytpakfgonemiebaa
open Go.RowKit
set_option linter.unusedSimpArgs false
set_option linter.unusedVariables false

/-- Two values side by side in memory: what the order asks of them. -/
structure Two (B : Nat) (w : World) (v1 v2 : Value) (us vs : List VN) : Prop where
  n1 : NodesAt B w v1 us
  n2 : NodesAt B w v2 vs
  k1 : ∀ k, k < us.length → nodeB (nodeAt us k) = true ∧ kidsIn us k = true
  k2 : ∀ k, k < vs.length → nodeB (nodeAt vs k) = true ∧ kidsIn vs k = true

theorem Two.below {B : Nat} {w w' : World} {v1 v2 : Value} {us vs : List VN} (h : Two B w v1 v2 us vs) (hb : Below B w w') : Two B w' v1 v2 us vs := ⟨h.n1.below hb, h.n2.below hb, h.k1, h.k2⟩

theorem nodeB_keys {x : VN} (h : nodeB x = true) (hk : x.kind ≠ 6) : x.keys = [] := by
  unfold nodeB unnamedB at h
  simp [hk] at h
  exact h.1.1.2

end Go.Proofs.Ytpakfgonemiebaa

/-
  spec.Order: -2 where one of the two is not right, else the order of their roots.
-/
namespace Go.Proofs.Ytpakfgonemiebaa
open Go.RowKit
set_option linter.unusedSimpArgs false
set_option linter.unusedVariables false

def orderOf (us vs : List VN) : Int := if okB us = true ∧ okB vs = true then ord us vs us.length (us.length - 1) (vs.length - 1) else -2

theorem orderOf_yes {us vs : List VN} (h1 : okB us = true) (h2 : okB vs = true) : orderOf us vs = ord us vs us.length (us.length - 1) (vs.length - 1) := if_pos ⟨h1, h2⟩
theorem orderOf_left {us vs : List VN} (h1 : okB us = false) : orderOf us vs = -2 := if_neg (by simp [h1])
theorem orderOf_right {us vs : List VN} (h2 : okB vs = false) : orderOf us vs = -2 := if_neg (by simp [h2])

end Go.Proofs.Ytpakfgonemiebaa

/-
  The order of values turned round, and of three values. Plain mathematics.
-/
namespace Go.Proofs.Ytpakfgonemiebaa
open Go.RowKit
set_option linter.unusedSimpArgs false
set_option linter.unusedVariables false

/-- The first that is not 0. -/
def comb (x y : Int) : Int := if x = 0 then y else x
def R3 (x : Int) : Prop := x = -1 ∨ x = 0 ∨ x = 1
/-- Where the two do not go apart, the third is the first of them that is not 0. -/
def Tri (x y z : Int) : Prop := ¬ (x = 1 ∧ y = -1) → ¬ (x = -1 ∧ y = 1) → z = comb x y

theorem comb_r3 {x y : Int} (hx : R3 x) (hy : R3 y) : R3 (comb x y) := by unfold comb; split <;> assumption
theorem comb_neg (x y : Int) : comb (-x) (-y) = -comb x y := by unfold comb; split <;> split <;> omega

theorem tri_lex {x1 y1 z1 x2 y2 z2 : Int} (hx1 : R3 x1) (hy1 : R3 y1) (hx2 : R3 x2) (hy2 : R3 y2) (h1 : Tri x1 y1 z1) (h2 : Tri x2 y2 z2) : Tri (comb x1 x2) (comb y1 y2) (comb z1 z2) := by
  unfold Tri comb at *
  unfold R3 at *
  intro a b
  rcases hx1 with rfl | rfl | rfl <;> rcases hy1 with rfl | rfl | rfl <;> rcases hx2 with rfl | rfl | rfl <;> rcases hy2 with rfl | rfl | rfl <;> simp at * <;> simp [*]

theorem cmpI_r3 (a b : Int) : R3 (cmpI a b) := cmpI_range a b
theorem cmpI_flip (a b : Int) : cmpI b a = -cmpI a b := by unfold cmpI; split <;> split <;> (try split) <;> omega
theorem cmpI_tri (a b c : Int) : Tri (cmpI a b) (cmpI b c) (cmpI a c) := by
  unfold Tri comb cmpI
  intro h1 h2
  split <;> split <;> (try split) <;> (try split) <;> (try split) <;> (try split) <;> simp_all <;> omega

/-- Lists, by the first that differs, then by how many there are. -/
structure IsLex {α β : Type} (C : List α → List β → Int) (r : α → β → Int) : Prop where
  nn : C [] [] = 0
  nc : ∀ b m, C [] (b :: m) = -1
  cn : ∀ a l, C (a :: l) [] = 1
  cc : ∀ a l b m, C (a :: l) (b :: m) = comb (r a b) (C l m)

theorem lex_r3 {α β : Type} {C : List α → List β → Int} {r : α → β → Int} (h : IsLex C r) (hr : ∀ a b, R3 (r a b)) : ∀ x y, R3 (C x y) := by
  intro x
  induction x with
  | nil => intro y; cases y with
    | nil => rw [h.nn]; exact Or.inr (Or.inl rfl)
    | cons b m => rw [h.nc]; exact Or.inl rfl
  | cons a l ih => intro y; cases y with
    | nil => rw [h.cn]; exact Or.inr (Or.inr rfl)
    | cons b m => rw [h.cc]; exact comb_r3 (hr a b) (ih m)

theorem lex_flip {α β : Type} {C : List α → List β → Int} {C' : List β → List α → Int} {r : α → β → Int} {r' : β → α → Int} (h : IsLex C r) (h' : IsLex C' r') (hf : ∀ a b, r' b a = -r a b) : ∀ x y, C' y x = -C x y := by
  intro x
  induction x with
  | nil => intro y; cases y with
    | nil => rw [h.nn, h'.nn]; rfl
    | cons b m => rw [h.nc, h'.cn]; rfl
  | cons a l ih => intro y; cases y with
    | nil => rw [h.cn, h'.nc]
    | cons b m => rw [h.cc, h'.cc, hf, ih, comb_neg]

theorem lex_tri {α β γ : Type} {C1 : List α → List β → Int} {C2 : List β → List γ → Int} {C3 : List α → List γ → Int} {r1 : α → β → Int} {r2 : β → γ → Int} {r3 : α → γ → Int} (h1 : IsLex C1 r1) (h2 : IsLex C2 r2) (h3 : IsLex C3 r3) (hr1 : ∀ a b, R3 (r1 a b)) (hr2 : ∀ b c, R3 (r2 b c)) (ht : ∀ a b c, Tri (r1 a b) (r2 b c) (r3 a c)) : ∀ x y z, Tri (C1 x y) (C2 y z) (C3 x z) := by
  intro x
  induction x with
  | nil =>
    intro y z
    cases y with
    | nil => cases z with
      | nil => rw [h1.nn, h2.nn, h3.nn]; intro _ _; rfl
      | cons c k => rw [h1.nn, h2.nc, h3.nc]; intro _ _; rfl
    | cons b m => cases z with
      | nil => rw [h1.nc, h2.cn]; intro _ h; exact absurd ⟨rfl, rfl⟩ h
      | cons c k => rw [h1.nc, h3.nc]; intro _ _; rfl
  | cons a l ih =>
    intro y z
    cases y with
    | nil => cases z with
      | nil => rw [h1.cn, h2.nn, h3.cn]; intro _ _; rfl
      | cons c k => rw [h1.cn, h2.nc]; intro h _; exact absurd ⟨rfl, rfl⟩ h
    | cons b m => cases z with
      | nil =>
        rw [h2.cn, h3.cn]
        intro _ h
        rcases lex_r3 h1 hr1 (a :: l) (b :: m) with e | e | e
        · exact absurd ⟨e, rfl⟩ h
        · rw [e]; rfl
        · rw [e]; rfl
      | cons c k =>
        rw [h1.cc, h2.cc, h3.cc]
        exact tri_lex (hr1 a b) (hr2 b c) (lex_r3 h1 hr1 l m) (lex_r3 h2 hr2 m k) (ht a b c) (ih m k)

theorem cmpL_lex : IsLex cmpL (fun a b => cmpI (a.toNat : Int) (b.toNat : Int)) := by
  refine ⟨rfl, fun b m => rfl, fun a l => rfl, fun a l b m => ?_⟩
  rw [cmpL_cons]
  unfold comb cmpI
  simp only [UInt8.lt_iff_toNat_lt]
  split <;> (try split) <;> (try split) <;> (try split) <;> simp_all <;> omega
theorem cmpS_r3 (a b : ByteArray) : R3 (cmpS a b) := cmpL_range _ _
theorem cmpS_flip (a b : ByteArray) : cmpS b a = -cmpS a b := cmpL_flip _ _
theorem cmpS_tri (a b c : ByteArray) : Tri (cmpS a b) (cmpS b c) (cmpS a c) := lex_tri cmpL_lex cmpL_lex cmpL_lex (fun _ _ => cmpI_r3 _ _) (fun _ _ => cmpI_r3 _ _) (fun _ _ _ => cmpI_tri _ _ _) _ _ _

theorem cmpKeys_lex : IsLex cmpKeys cmpS := by
  refine ⟨rfl, fun b m => rfl, fun a l => rfl, fun a l b m => ?_⟩
  rw [cmpKeys]
  unfold comb
  by_cases h : cmpS a b = 0 <;> simp [h]
theorem cmpKids_lex (R : Int → Int → Int) : IsLex (cmpKids R) R := by
  refine ⟨rfl, fun b m => rfl, fun a l => rfl, fun a l b m => ?_⟩
  rw [cmpKids]
  unfold comb
  by_cases h : R a b = 0 <;> simp [h]

theorem ite_comb {p : Prop} [Decidable p] {x y : Int} (h : p ↔ x ≠ 0) : (if p then x else y) = comb x y := by
  unfold comb
  by_cases e : x = 0
  · rw [if_neg (fun hp => h.1 hp e), if_pos e]
  · rw [if_pos (h.2 e), if_neg e]

theorem ord_comb (us vs : List VN) (f n m : Nat) : ord us vs (f + 1) n m = comb (cmpI (nodeAt us n).kind (nodeAt vs m).kind) (comb (cmpI (nodeAt us n).n (nodeAt vs m).n) (comb (cmpS (nodeAt us n).s (nodeAt vs m).s) (comb (cmpKeys (nodeAt us n).keys (nodeAt vs m).keys) (cmpKids (fun a b => ord us vs f a.toNat b.toNat) (nodeAt us n).kids (nodeAt vs m).kids)))) := by
  have hI : ∀ a b : Int, (a ≠ b) ↔ cmpI a b ≠ 0 := fun a b => (not_congr (cmpI_zero a b)).symm
  rw [ord, ite_comb (hI _ _), ite_comb (hI _ _), ite_comb Iff.rfl, ite_comb Iff.rfl]

theorem ord_r3 (us vs : List VN) (f n m : Nat) : R3 (ord us vs f n m) := by
  have := ord_range us vs f n m
  unfold R3; omega

theorem ord_flip (us vs : List VN) : ∀ f n m, ord vs us f m n = -ord us vs f n m := by
  intro f
  induction f with
  | zero => intro n m; rfl
  | succ f ih =>
    intro n m
    rw [ord_comb, ord_comb, cmpI_flip (nodeAt us n).kind, cmpI_flip (nodeAt us n).n, cmpS_flip (nodeAt us n).s, lex_flip cmpKeys_lex cmpKeys_lex cmpS_flip (nodeAt us n).keys, lex_flip (cmpKids_lex (fun a b => ord us vs f a.toNat b.toNat)) (cmpKids_lex (fun a b => ord vs us f a.toNat b.toNat)) (fun a b => ih a.toNat b.toNat) (nodeAt us n).kids]
    simp only [comb_neg]

theorem ord_tri (us vs ws : List VN) : ∀ f n m k, Tri (ord us vs f n m) (ord vs ws f m k) (ord us ws f n k) := by
  intro f
  induction f with
  | zero => intro n m k; intro _ _; rfl
  | succ f ih =>
    intro n m k
    rw [ord_comb, ord_comb, ord_comb]
    have hk1 := lex_r3 cmpKeys_lex cmpS_r3 (nodeAt us n).keys (nodeAt vs m).keys
    have hk2 := lex_r3 cmpKeys_lex cmpS_r3 (nodeAt vs m).keys (nodeAt ws k).keys
    have hd1 := lex_r3 (cmpKids_lex (fun a b => ord us vs f a.toNat b.toNat)) (fun a b => ord_r3 us vs f a.toNat b.toNat) (nodeAt us n).kids (nodeAt vs m).kids
    have hd2 := lex_r3 (cmpKids_lex (fun a b => ord vs ws f a.toNat b.toNat)) (fun a b => ord_r3 vs ws f a.toNat b.toNat) (nodeAt vs m).kids (nodeAt ws k).kids
    refine tri_lex (cmpI_r3 _ _) (cmpI_r3 _ _) (comb_r3 (cmpI_r3 _ _) (comb_r3 (cmpS_r3 _ _) (comb_r3 hk1 hd1))) (comb_r3 (cmpI_r3 _ _) (comb_r3 (cmpS_r3 _ _) (comb_r3 hk2 hd2))) (cmpI_tri _ _ _) ?_
    refine tri_lex (cmpI_r3 _ _) (cmpI_r3 _ _) (comb_r3 (cmpS_r3 _ _) (comb_r3 hk1 hd1)) (comb_r3 (cmpS_r3 _ _) (comb_r3 hk2 hd2)) (cmpI_tri _ _ _) ?_
    refine tri_lex (cmpS_r3 _ _) (cmpS_r3 _ _) (comb_r3 hk1 hd1) (comb_r3 hk2 hd2) (cmpS_tri _ _ _) ?_
    refine tri_lex hk1 hk2 hd1 hd2 (lex_tri cmpKeys_lex cmpKeys_lex cmpKeys_lex cmpS_r3 cmpS_r3 cmpS_tri _ _ _) ?_
    exact lex_tri (cmpKids_lex _) (cmpKids_lex _) (cmpKids_lex _) (fun a b => ord_r3 us vs f a.toNat b.toNat) (fun a b => ord_r3 vs ws f a.toNat b.toNat) (fun a b c => ih a.toNat b.toNat c.toNat) _ _ _

theorem cmpKids_congr {R R' : Int → Int → Int} : ∀ {l m : List Int}, (∀ a ∈ l, ∀ b ∈ m, R a b = R' a b) → cmpKids R l m = cmpKids R' l m := by
  intro l
  induction l with
  | nil => intro m _; cases m <;> rfl
  | cons a l ih =>
    intro m h
    cases m with
    | nil => rfl
    | cons b m =>
      rw [cmpKids, cmpKids, h a (List.mem_cons_self ..) b (List.mem_cons_self ..), ih (fun x hx y hy => h x (List.mem_cons_of_mem _ hx) y (List.mem_cons_of_mem _ hy))]

theorem kid_lt {vs : List VN} (hok : okB vs = true) {n : Nat} (hn : n < vs.length) {a : Int} (ha : a ∈ (nodeAt vs n).kids) : a.toNat < n := by
  obtain ⟨j, hj, e⟩ := List.getElem_of_mem ha
  have := kidsIn_get ((okB_parts hok).2.1 n hn).2 hj
  have e2 : intAt (nodeAt vs n).kids j = a := by unfold intAt; rw [List.getD_eq_getElem?_getD, List.getElem?_eq_getElem hj]; exact e
  rw [e2] at this
  omega

theorem ord_fuel {us vs : List VN} (hok : okB us = true) : ∀ f f' n m, n < f → n < f' → n < us.length → ord us vs f n m = ord us vs f' n m := by
  intro f
  induction f with
  | zero => intro f' n m h; omega
  | succ f ih =>
    intro f' n m h1 h2 hn
    cases f' with
    | zero => omega
    | succ f' =>
      rw [ord_comb, ord_comb]
      congr 4
      exact cmpKids_congr (fun a ha b hb => by
        have := kid_lt hok hn ha
        exact ih f' a.toNat b.toNat (by omega) (by omega) (by omega))

theorem orderOf_at {us vs : List VN} (h1 : okB us = true) (h2 : okB vs = true) {F : Nat} (hF : us.length ≤ F) : orderOf us vs = ord us vs F (us.length - 1) (vs.length - 1) := by
  rw [orderOf_yes h1 h2]
  have := (okB_parts h1).1
  exact ord_fuel h1 _ _ _ _ (by omega) (by omega) (by omega)

theorem orderOf_flip {us vs : List VN} (h1 : okB us = true) (h2 : okB vs = true) : orderOf vs us = -orderOf us vs := by
  rw [orderOf_at h1 h2 (F := us.length + vs.length) (by omega), orderOf_at h2 h1 (F := us.length + vs.length) (by omega)]
  exact ord_flip us vs _ _ _

theorem orderOf_refl {us : List VN} (h1 : okB us = true) : orderOf us us = 0 := by
  have := orderOf_flip h1 h1
  omega

theorem orderOf_r3 {us vs : List VN} (h1 : okB us = true) (h2 : okB vs = true) : R3 (orderOf us vs) := by
  rw [orderOf_yes h1 h2]; exact ord_r3 _ _ _ _ _

/-- What is ahead of one that is ahead is ahead. -/
theorem orderOf_same {us vs ws : List VN} (h1 : okB us = true) (h2 : okB vs = true) (h3 : okB ws = true) (h : orderOf us vs = orderOf vs ws) : orderOf us ws = orderOf us vs := by
  have t := ord_tri us vs ws (us.length + vs.length) (us.length - 1) (vs.length - 1) (ws.length - 1)
  rw [← orderOf_at h1 h2 (by omega), ← orderOf_at h2 h3 (by omega), ← orderOf_at h1 h3 (by omega)] at t
  have := t (by omega) (by omega)
  rw [this, ← h]
  unfold comb
  split <;> rfl
end Go.Proofs.Ytpakfgonemiebaa

/-
  Two right values are the same just where their order is 0. Plain mathematics.
-/
namespace Go.Proofs.Ytpakfgonemiebaa
open Go.RowKit
set_option linter.unusedSimpArgs false
set_option linter.unusedVariables false

theorem comb_zero {x y : Int} : comb x y = 0 ↔ x = 0 ∧ y = 0 := by
  unfold comb
  by_cases e : x = 0 <;> simp [e]

theorem cmpKeys_zero (hS : ∀ a b : ByteArray, cmpS a b = 0 → a = b) : ∀ l m, cmpKeys l m = 0 → l = m := by
  intro l
  induction l with
  | nil => intro m h; cases m with
    | nil => rfl
    | cons b m => rw [cmpKeys_lex.nc] at h; omega
  | cons a l ih => intro m h; cases m with
    | nil => rw [cmpKeys_lex.cn] at h; omega
    | cons b m =>
      rw [cmpKeys_lex.cc, comb_zero] at h
      rw [hS a b h.1, ih m h.2]

theorem cmpKids_zero {α : Type} {R : Int → Int → Int} {g g' : Int → α} (hR : ∀ a b, R a b = 0 → g a = g' b) : ∀ l m, cmpKids R l m = 0 → l.map g = m.map g' := by
  intro l
  induction l with
  | nil => intro m h; cases m with
    | nil => rfl
    | cons b m => rw [(cmpKids_lex R).nc] at h; omega
  | cons a l ih => intro m h; cases m with
    | nil => rw [(cmpKids_lex R).cn] at h; omega
    | cons b m =>
      rw [(cmpKids_lex R).cc, comb_zero] at h
      rw [List.map_cons, List.map_cons, hR a b h.1, ih m h.2]

theorem ord_zero (hS : ∀ a b : ByteArray, cmpS a b = 0 → a = b) (us vs : List VN) : ∀ f n m, ord us vs f n m = 0 → treeOf us f n = treeOf vs f m := by
  intro f
  induction f with
  | zero => intro n m _; rfl
  | succ f ih =>
    intro n m h
    rw [ord_comb, comb_zero, comb_zero, comb_zero, comb_zero] at h
    obtain ⟨h1, h2, h3, h4, h5⟩ := h
    rw [treeOf, treeOf, (cmpI_zero _ _).1 h1, (cmpI_zero _ _).1 h2, hS _ _ h3, cmpKeys_zero hS _ _ h4, cmpKids_zero (g := fun k => treeOf us f k.toNat) (g' := fun k => treeOf vs f k.toNat) (fun a b hab => ih a.toNat b.toNat hab) _ _ h5]

theorem cmpS_eq (a b : ByteArray) (h : cmpS a b = 0) : a = b := by
  have e : a.toList = b.toList := (cmpL_zero _ _).1 h
  rw [Lib.toList_data, Lib.toList_data] at e
  rw [← Lib.mk_data a, ← Lib.mk_data b, e]

theorem shift_zeroZ (x : VN) : shiftN 0 x = x := by
  unfold shiftN
  have : x.kids.map (· + (0 : Int)) = x.kids := by
    have : (fun k : Int => k + 0) = id := by funext k; simp
    rw [this, List.map_id]
  rw [this]

/-- The root's part is the whole. -/
theorem part_root {vs : List VN} (hok : okB vs = true) : partOf vs (vs.length - 1) = vs := by
  have hs := (okB_parts hok).1
  have hr : rootB vs = true := by unfold okB at hok; simp only [Bool.and_eq_true] at hok; exact hok.2
  unfold rootB at hr
  split at hr
  · rename_i p e
    simp only [Bool.and_eq_true, decide_eq_true_eq] at hr
    unfold partOf
    rw [e]
    have e0 : trF (some p) = 0 := by show (p.1 : Int) = 0; omega
    rw [e0]
    have e1 : vs.length - 1 + 1 - (0 : Int).toNat = vs.length := by simp; omega
    rw [e1]
    unfold run
    apply List.ext_getElem
    · simp
    · intro j h1 h2
      simp only [List.getElem_map, List.getElem_range', Int.neg_zero]
      rw [shift_zeroZ]
      unfold nodeAt
      rw [List.getD_eq_getElem?_getD, show (0 : Int).toNat + 1 * j = j by simp, List.getElem?_eq_getElem h2]
      rfl
  · cases hr

theorem orderOf_zero {us vs : List VN} (h1 : okB us = true) (h2 : okB vs = true) : orderOf us vs = 0 ↔ us = vs := by
  constructor
  · intro h
    rw [orderOf_at h1 h2 (F := us.length + vs.length) (by omega)] at h
    have ht := ord_zero cmpS_eq us vs _ _ _ h
    have p1 := (okB_parts h1).1
    have p2 := (okB_parts h2).1
    have l1 := (lay_part h1 (f := us.length + vs.length) (m := us.length - 1) (by omega) (by omega)).1
    have l2 := (lay_part h2 (f := us.length + vs.length) (m := vs.length - 1) (by omega) (by omega)).1
    rw [part_root h1] at l1
    rw [part_root h2] at l2
    rw [ht] at l1
    exact l1.symm.trans l2
  · intro h
    subst h
    exact orderOf_refl h1
end Go.Proofs.Ytpakfgonemiebaa
