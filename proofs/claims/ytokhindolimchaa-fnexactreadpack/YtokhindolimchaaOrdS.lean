/-
  Comparing numbers, texts and lists of texts: the specification's functions and the library's answer alike.
-/
import Derived.Test.YtokhindolimchaaFlat
import Derived.Test.YtokhindolimchaaProg
import Derived.Lib.Bytealg
import Derived.Laws.Cover1
import Derived.Laws.Externs
import Derived.KernelRfl
import Derived.Test.YtokhindolimchaaSPart
import Derived.Deep.QuietTactic
import Derived.BigQuiet
import Derived.WalkSmall
import Derived.Deep.RegionWith
namespace Go.Proofs.Ytokhindolimchaa
open Go.RowKit
set_option linter.unusedSimpArgs false
set_option linter.unusedVariables false

def cmpI (a b : Int) : Int := if a < b then -1 else if b < a then 1 else 0
def cmpL (x y : List UInt8) : Int := Lib.compareBytes x y
def cmpS (a b : ByteArray) : Int := cmpL a.toList b.toList

theorem cmpL_nil : cmpL [] [] = 0 := rfl
theorem cmpL_cons (a b : UInt8) (x y : List UInt8) : cmpL (a :: x) (b :: y) = if a < b then -1 else if b < a then 1 else cmpL x y := by
  unfold cmpL; rw [Lib.compareBytes]

theorem cmpL_less : ∀ x y : List UInt8, Op.bytesLess x y = decide (cmpL x y = -1) := by
  intro x
  induction x with
  | nil => intro y; cases y <;> simp [Op.bytesLess, cmpL, Lib.compareBytes]
  | cons a x ih =>
    intro y
    cases y with
    | nil => simp [Op.bytesLess, cmpL, Lib.compareBytes]
    | cons b y =>
      rw [Op.bytesLess, cmpL_cons, ih]
      by_cases h1 : a < b
      · simp [h1]
      · by_cases h2 : b < a
        · have : (a == b) = false := by simp; intro e; subst e; exact h1 h2
          simp [h1, h2, this]
        · have : a = b := UInt8.le_antisymm (UInt8.not_lt.1 h2) (UInt8.not_lt.1 h1)
          simp [h1, h2, this]

theorem cmpL_zero : ∀ x y : List UInt8, cmpL x y = 0 ↔ x = y := by
  intro x
  induction x with
  | nil => intro y; cases y <;> simp [cmpL, Lib.compareBytes]
  | cons a x ih =>
    intro y
    cases y with
    | nil => simp [cmpL, Lib.compareBytes]
    | cons b y =>
      rw [cmpL_cons]
      by_cases h1 : a < b
      · simp [h1]; intro e; subst e; exact absurd h1 (UInt8.lt_irrefl a)
      · by_cases h2 : b < a
        · simp [h1, h2]; intro e; subst e; exact absurd h2 (UInt8.lt_irrefl a)
        · have : a = b := UInt8.le_antisymm (UInt8.not_lt.1 h2) (UInt8.not_lt.1 h1)
          simp [h1, h2, this, ih]

theorem cmpL_flip : ∀ x y : List UInt8, cmpL y x = -cmpL x y := by
  intro x
  induction x with
  | nil => intro y; cases y <;> simp [cmpL, Lib.compareBytes]
  | cons a x ih =>
    intro y
    cases y with
    | nil => simp [cmpL, Lib.compareBytes]
    | cons b y =>
      rw [cmpL_cons, cmpL_cons]
      by_cases h1 : a < b
      · have h2 : ¬ b < a := UInt8.not_lt.2 (UInt8.le_of_lt h1)
        simp [h1, h2]
      · by_cases h2 : b < a
        · simp [h1, h2]
        · simp [h1, h2, ih]

theorem cmpL_range : ∀ x y : List UInt8, cmpL x y = -1 ∨ cmpL x y = 0 ∨ cmpL x y = 1 := by
  intro x
  induction x with
  | nil => intro y; cases y <;> simp [cmpL, Lib.compareBytes]
  | cons a x ih =>
    intro y
    cases y with
    | nil => simp [cmpL, Lib.compareBytes]
    | cons b y =>
      rw [cmpL_cons]
      split
      · simp
      · split
        · simp
        · exact ih y

theorem cmpI_range (a b : Int) : cmpI a b = -1 ∨ cmpI a b = 0 ∨ cmpI a b = 1 := by unfold cmpI; split <;> (try split) <;> simp
theorem cmpI_zero (a b : Int) : cmpI a b = 0 ↔ a = b := by unfold cmpI; split <;> (try split) <;> simp <;> omega

/-- Lists, by the first part that differs, then by how many there are. -/
def cmpKeys : List ByteArray → List ByteArray → Int
  | [], [] => 0
  | [], _ :: _ => -1
  | _ :: _, [] => 1
  | a :: l, b :: m => if cmpS a b ≠ 0 then cmpS a b else cmpKeys l m

theorem cmpKeys_range : ∀ l m, cmpKeys l m = -1 ∨ cmpKeys l m = 0 ∨ cmpKeys l m = 1 := by
  intro l
  induction l with
  | nil => intro m; cases m <;> simp [cmpKeys]
  | cons a l ih =>
    intro m
    cases m with
    | nil => simp [cmpKeys]
    | cons b m =>
      rw [cmpKeys]
      split
      · exact cmpL_range _ _
      · exact ih m

theorem less_of {a b : ByteArray} (h : cmpS a b = -1) : Op.bytesLess a.toList b.toList = true := by rw [cmpL_less]; exact decide_eq_true h
theorem notless_of {a b : ByteArray} (h : cmpS a b ≠ -1) : Op.bytesLess a.toList b.toList = false := by rw [cmpL_less]; exact decide_eq_false h
theorem eq_of {a b : ByteArray} (h : cmpS a b = 0) : (a.toList == b.toList) = true := by rw [beq_iff_eq]; exact (cmpL_zero _ _).1 h
theorem ne_of {a b : ByteArray} (h : cmpS a b ≠ 0) : (a.toList == b.toList) = false := by rw [beq_eq_false_iff_ne]; exact fun e => h ((cmpL_zero _ _).2 e)

set_option maxHeartbeats 1000000 in
set_option maxRecDepth 100000 in
theorem compareString_any (a b : ByteArray) (w : World) : Calls Try.prog 114 #[.string a, .string b] w fun e w' => e = .returned (.int .i64 (cmpS a b)) ∧ w' = w := by
  go_enter Try.func114, Try.ntmps114
  go_wp2
  rw [run_callFunc_extern Try.func117 (by kernel_rfl) (by kernel_rfl) (by kernel_rfl) (e := Extern.BytealgCompare.compare) (by kernel_rfl), Lib.run_compareString]
  simp only [Result.andThen]
  rw [Oper.upon_value]
  go_wp2
  go_ret
  exact ⟨ret_int (by simp [cmpS, cmpL, ByteArray.toList_eq]), rfl⟩

set_option maxHeartbeats 1000000 in
theorem stringsCompare_any (a b : ByteArray) (w : World) : Calls Try.prog 109 #[.string a, .string b] w fun e w' => e = .returned (.int .i64 (cmpS a b)) ∧ w' = w := by
  go_enter Try.func109, Try.ntmps109
  go_wp2_with (go_at_call 114; refine (compareString_any _ _ _).mono ?_; rintro e w' ⟨rfl, rfl⟩)
  go_ret
  exact ⟨rfl, rfl⟩
end Go.Proofs.Ytokhindolimchaa

/-
  The order of two values, as a plain function of their nodes; lists of texts compared by the library.
-/
namespace Go.Proofs.Ytokhindolimchaa
open Go.RowKit
set_option linter.unusedSimpArgs false
set_option linter.unusedVariables false

theorem keyAt_get {l : List ByteArray} {j : Nat} (h : j < l.length) : keyAt l j = l[j] := by simp [keyAt, h]

theorem cmpKeys_step {l m : List ByteArray} {k : Nat} (h1 : k < l.length) (h2 : k < m.length) : cmpKeys (l.drop k) (m.drop k) = if cmpS (keyAt l k) (keyAt m k) ≠ 0 then cmpS (keyAt l k) (keyAt m k) else cmpKeys (l.drop (k + 1)) (m.drop (k + 1)) := by
  rw [List.drop_eq_getElem_cons h1, List.drop_eq_getElem_cons h2, cmpKeys, keyAt_get h1, keyAt_get h2]
theorem cmpKeys_more {l m : List ByteArray} {k : Nat} (h1 : k < l.length) (h2 : m.length ≤ k) : cmpKeys (l.drop k) (m.drop k) = 1 := by
  rw [List.drop_eq_getElem_cons h1, List.drop_of_length_le h2, cmpKeys]
theorem cmpKeys_less {l m : List ByteArray} {k : Nat} (h1 : l.length ≤ k) (h2 : k < m.length) : cmpKeys (l.drop k) (m.drop k) = -1 := by
  rw [List.drop_of_length_le h1, List.drop_eq_getElem_cons h2, cmpKeys]
theorem cmpKeys_end {l m : List ByteArray} {k : Nat} (h1 : l.length ≤ k) (h2 : m.length ≤ k) : cmpKeys (l.drop k) (m.drop k) = 0 := by
  rw [List.drop_of_length_le h1, List.drop_of_length_le h2, cmpKeys]

/-- Lists of kids, by the first two that differ, then by how many there are. -/
def cmpKids (R : Int → Int → Int) : List Int → List Int → Int
  | [], [] => 0
  | [], _ :: _ => -1
  | _ :: _, [] => 1
  | a :: l, b :: m => if R a b ≠ 0 then R a b else cmpKids R l m

theorem cmpKids_step {R : Int → Int → Int} {l m : List Int} {k : Nat} (h1 : k < l.length) (h2 : k < m.length) : cmpKids R (l.drop k) (m.drop k) = if R (intAt l k) (intAt m k) ≠ 0 then R (intAt l k) (intAt m k) else cmpKids R (l.drop (k + 1)) (m.drop (k + 1)) := by
  rw [List.drop_eq_getElem_cons h1, List.drop_eq_getElem_cons h2, cmpKids, intAt_get h1, intAt_get h2]
theorem cmpKids_more {R : Int → Int → Int} {l m : List Int} {k : Nat} (h1 : k < l.length) (h2 : m.length ≤ k) : cmpKids R (l.drop k) (m.drop k) = 1 := by
  rw [List.drop_eq_getElem_cons h1, List.drop_of_length_le h2, cmpKids]
theorem cmpKids_less {R : Int → Int → Int} {l m : List Int} {k : Nat} (h1 : l.length ≤ k) (h2 : k < m.length) : cmpKids R (l.drop k) (m.drop k) = -1 := by
  rw [List.drop_of_length_le h1, List.drop_eq_getElem_cons h2, cmpKids]
theorem cmpKids_end {R : Int → Int → Int} {l m : List Int} {k : Nat} (h1 : l.length ≤ k) (h2 : m.length ≤ k) : cmpKids R (l.drop k) (m.drop k) = 0 := by
  rw [List.drop_of_length_le h1, List.drop_of_length_le h2, cmpKids]

theorem cmpKids_range {R : Int → Int → Int} (hR : ∀ a b, -1 ≤ R a b ∧ R a b ≤ 1) : ∀ l m, -1 ≤ cmpKids R l m ∧ cmpKids R l m ≤ 1 := by
  intro l
  induction l with
  | nil => intro m; cases m <;> simp [cmpKids]
  | cons a l ih =>
    intro m
    cases m with
    | nil => simp [cmpKids]
    | cons b m =>
      rw [cmpKids]
      split
      · exact hR _ _
      · exact ih m

/-- By Kind; by N; by S; by the keys; by the kids. -/
def ord (us vs : List VN) : Nat → Nat → Nat → Int
  | 0, _, _ => 0
  | f + 1, n, m =>
    if (nodeAt us n).kind ≠ (nodeAt vs m).kind then cmpI (nodeAt us n).kind (nodeAt vs m).kind
    else if (nodeAt us n).n ≠ (nodeAt vs m).n then cmpI (nodeAt us n).n (nodeAt vs m).n
    else if cmpS (nodeAt us n).s (nodeAt vs m).s ≠ 0 then cmpS (nodeAt us n).s (nodeAt vs m).s
    else if cmpKeys (nodeAt us n).keys (nodeAt vs m).keys ≠ 0 then cmpKeys (nodeAt us n).keys (nodeAt vs m).keys
    else cmpKids (fun a b => ord us vs f a.toNat b.toNat) (nodeAt us n).kids (nodeAt vs m).kids

theorem ord_range (us vs : List VN) : ∀ f n m, -1 ≤ ord us vs f n m ∧ ord us vs f n m ≤ 1 := by
  intro f
  induction f with
  | zero => intro n m; simp [ord]
  | succ f ih =>
    intro n m
    rw [ord]
    split
    · rcases cmpI_range (nodeAt us n).kind (nodeAt vs m).kind with h | h | h <;> omega
    split
    · rcases cmpI_range (nodeAt us n).n (nodeAt vs m).n with h | h | h <;> omega
    split
    · rcases cmpL_range (nodeAt us n).s.toList (nodeAt vs m).s.toList with h | h | h <;> (unfold cmpS; omega)
    split
    · rcases cmpKeys_range (nodeAt us n).keys (nodeAt vs m).keys with h | h | h <;> omega
    · exact cmpKids_range (fun a b => ih _ _) _ _

end Go.Proofs.Ytokhindolimchaa

/-
  The specification's order of two right values.
-/
namespace Go.Proofs.Ytokhindolimchaa
open Go.RowKit
set_option linter.unusedSimpArgs false
set_option linter.unusedVariables false

/-- Two values side by side in memory: what the order asks of them. -/
structure Two (B : Nat) (w : World) (v1 v2 : Value) (us vs : List VN) : Prop where
  n1 : NodesAt B w v1 us
  n2 : NodesAt B w v2 vs
  k1 : ∀ k, k < us.length → nodeB (nodeAt us k) = true ∧ kidsIn us k = true
  k2 : ∀ k, k < vs.length → nodeB (nodeAt vs k) = true ∧ kidsIn vs k = true

theorem Two.below {B : Nat} {w w' : World} {v1 v2 : Value} {us vs : List VN} (h : Two B w v1 v2 us vs) (hb : Below B w w') : Two B w' v1 v2 us vs := ⟨h.n1.below hb, h.n2.below hb, h.k1, h.k2⟩

theorem nodeB_keys {x : VN} (h : nodeB x = true) (hk : x.kind ≠ 6) : x.keys = [] := by
  unfold nodeB unnamedB at h
  simp [hk] at h
  exact h.1.1.2

end Go.Proofs.Ytokhindolimchaa

/-
  spec.Order: -2 where one of the two is not right, else the order of their roots.
-/
namespace Go.Proofs.Ytokhindolimchaa
open Go.RowKit
set_option linter.unusedSimpArgs false
set_option linter.unusedVariables false

def orderOf (us vs : List VN) : Int := if okB us = true ∧ okB vs = true then ord us vs us.length (us.length - 1) (vs.length - 1) else -2

theorem orderOf_yes {us vs : List VN} (h1 : okB us = true) (h2 : okB vs = true) : orderOf us vs = ord us vs us.length (us.length - 1) (vs.length - 1) := if_pos ⟨h1, h2⟩
theorem orderOf_left {us vs : List VN} (h1 : okB us = false) : orderOf us vs = -2 := if_neg (by simp [h1])
theorem orderOf_right {us vs : List VN} (h2 : okB vs = false) : orderOf us vs = -2 := if_neg (by simp [h2])

end Go.Proofs.Ytokhindolimchaa
