/-
  Comparing numbers, texts and lists of texts: the specification's functions and the library's answer alike.
-/
import Derived.Test.YtgmnihofkpjboaaGreatDoorStepC
import Derived.Test.YtgmnihofkpjboaaGreatDoorProg
import Derived.Lib.Bytealg
import Derived.Laws.Cover1
import Derived.Laws.Externs
import Derived.KernelRfl
namespace Go.Proofs.YtgmnihofkpjboaaGreatDoor
open Go.RowKit
set_option linter.unusedSimpArgs false
set_option linter.unusedVariables false

def cmpI (a b : Int) : Int := if a < b then -1 else if b < a then 1 else 0
def cmpL (x y : List UInt8) : Int := Lib.compareBytes x y
def cmpS (a b : ByteArray) : Int := cmpL a.toList b.toList

theorem cmpL_nil : cmpL [] [] = 0 := rfl
theorem cmpL_cons (a b : UInt8) (x y : List UInt8) : cmpL (a :: x) (b :: y) = if a < b then -1 else if b < a then 1 else cmpL x y := by
  unfold cmpL; rw [Lib.compareBytes]

theorem cmpL_less : ∀ x y : List UInt8, Op.bytesLess x y = decide (cmpL x y = -1) := by
  intro x
  induction x with
  | nil => intro y; cases y <;> simp [Op.bytesLess, cmpL, Lib.compareBytes]
  | cons a x ih =>
    intro y
    cases y with
    | nil => simp [Op.bytesLess, cmpL, Lib.compareBytes]
    | cons b y =>
      rw [Op.bytesLess, cmpL_cons, ih]
      by_cases h1 : a < b
      · simp [h1]
      · by_cases h2 : b < a
        · have : (a == b) = false := by simp; intro e; subst e; exact h1 h2
          simp [h1, h2, this]
        · have : a = b := UInt8.le_antisymm (UInt8.not_lt.1 h2) (UInt8.not_lt.1 h1)
          simp [h1, h2, this]

theorem cmpL_zero : ∀ x y : List UInt8, cmpL x y = 0 ↔ x = y := by
  intro x
  induction x with
  | nil => intro y; cases y <;> simp [cmpL, Lib.compareBytes]
  | cons a x ih =>
    intro y
    cases y with
    | nil => simp [cmpL, Lib.compareBytes]
    | cons b y =>
      rw [cmpL_cons]
      by_cases h1 : a < b
      · simp [h1]; intro e; subst e; exact absurd h1 (UInt8.lt_irrefl a)
      · by_cases h2 : b < a
        · simp [h1, h2]; intro e; subst e; exact absurd h2 (UInt8.lt_irrefl a)
        · have : a = b := UInt8.le_antisymm (UInt8.not_lt.1 h2) (UInt8.not_lt.1 h1)
          simp [h1, h2, this, ih]

theorem cmpL_flip : ∀ x y : List UInt8, cmpL y x = -cmpL x y := by
  intro x
  induction x with
  | nil => intro y; cases y <;> simp [cmpL, Lib.compareBytes]
  | cons a x ih =>
    intro y
    cases y with
    | nil => simp [cmpL, Lib.compareBytes]
    | cons b y =>
      rw [cmpL_cons, cmpL_cons]
      by_cases h1 : a < b
      · have h2 : ¬ b < a := UInt8.not_lt.2 (UInt8.le_of_lt h1)
        simp [h1, h2]
      · by_cases h2 : b < a
        · simp [h1, h2]
        · simp [h1, h2, ih]

theorem cmpL_range : ∀ x y : List UInt8, cmpL x y = -1 ∨ cmpL x y = 0 ∨ cmpL x y = 1 := by
  intro x
  induction x with
  | nil => intro y; cases y <;> simp [cmpL, Lib.compareBytes]
  | cons a x ih =>
    intro y
    cases y with
    | nil => simp [cmpL, Lib.compareBytes]
    | cons b y =>
      rw [cmpL_cons]
      split
      · simp
      · split
        · simp
        · exact ih y

theorem cmpI_range (a b : Int) : cmpI a b = -1 ∨ cmpI a b = 0 ∨ cmpI a b = 1 := by unfold cmpI; split <;> (try split) <;> simp
theorem cmpI_zero (a b : Int) : cmpI a b = 0 ↔ a = b := by unfold cmpI; split <;> (try split) <;> simp <;> omega

/-- Lists, by the first part that differs, then by how many there are. -/
def cmpKeys : List ByteArray → List ByteArray → Int
  | [], [] => 0
  | [], _ :: _ => -1
  | _ :: _, [] => 1
  | a :: l, b :: m => if cmpS a b ≠ 0 then cmpS a b else cmpKeys l m

theorem cmpKeys_range : ∀ l m, cmpKeys l m = -1 ∨ cmpKeys l m = 0 ∨ cmpKeys l m = 1 := by
  intro l
  induction l with
  | nil => intro m; cases m <;> simp [cmpKeys]
  | cons a l ih =>
    intro m
    cases m with
    | nil => simp [cmpKeys]
    | cons b m =>
      rw [cmpKeys]
      split
      · exact cmpL_range _ _
      · exact ih m

set_option maxHeartbeats 400000 in
theorem l1Cmp_any (a b : Int) (w : World) : Calls Tryz.prog 54 #[.int .i64 a, .int .i64 b] w fun e w' => e = .returned (.int .i64 (cmpI a b)) ∧ w' = w := by
  by_cases h1 : a < b
  · go_enter Tryz.func54, Tryz.ntmps54
    go_wp2
    go_ret
    exact ⟨ret_int (by simp [cmpI, h1]), rfl⟩
  · by_cases h2 : b < a
    · go_enter Tryz.func54, Tryz.ntmps54
      go_wp2
      go_ret
      exact ⟨ret_int (by unfold cmpI; rw [if_neg (by omega), if_pos (by omega)]), rfl⟩
    · go_enter Tryz.func54, Tryz.ntmps54
      go_wp2
      go_ret
      exact ⟨ret_int (by unfold cmpI; rw [if_neg (by omega), if_neg (by omega)]), rfl⟩

theorem less_of {a b : ByteArray} (h : cmpS a b = -1) : Op.bytesLess a.toList b.toList = true := by rw [cmpL_less]; exact decide_eq_true h
theorem notless_of {a b : ByteArray} (h : cmpS a b ≠ -1) : Op.bytesLess a.toList b.toList = false := by rw [cmpL_less]; exact decide_eq_false h
theorem eq_of {a b : ByteArray} (h : cmpS a b = 0) : (a.toList == b.toList) = true := by rw [beq_iff_eq]; exact (cmpL_zero _ _).1 h
theorem ne_of {a b : ByteArray} (h : cmpS a b ≠ 0) : (a.toList == b.toList) = false := by rw [beq_eq_false_iff_ne]; exact fun e => h ((cmpL_zero _ _).2 e)

set_option maxHeartbeats 400000 in
theorem l1CmpText_any (a b : ByteArray) (w : World) : Calls Tryz.prog 55 #[.string a, .string b] w fun e w' => e = .returned (.int .i64 (cmpS a b)) ∧ w' = w := by
  have hr := cmpL_range a.toList b.toList
  by_cases h1 : cmpS a b = -1
  · have g1 := less_of h1
    have H := hideIt h1
    clear h1 hr
    go_enter Tryz.func55, Tryz.ntmps55
    go_wp2
    go_ret
    exact ⟨ret_int H.out.symm, rfl⟩
  · have g1 := notless_of h1
    by_cases h0 : cmpS a b = 0
    · have g2 := eq_of h0
      have H := hideIt h0
      clear h1 hr h0
      go_enter Tryz.func55, Tryz.ntmps55
      go_wp2
      go_ret
      exact ⟨ret_int H.out.symm, rfl⟩
    · have g2 := ne_of h0
      have H : Hid (cmpS a b = 1) := by rcases hr with h | h | h; exact absurd h h1; exact absurd h h0; exact h
      clear h1 hr h0
      go_enter Tryz.func55, Tryz.ntmps55
      go_wp2
      go_ret
      exact ⟨ret_int H.out.symm, rfl⟩

set_option maxHeartbeats 400000 in
theorem cmpInt_any (a b : Int) (w : World) : Calls Tryz.prog 61 #[.int .i64 a, .int .i64 b] w fun e w' => e = .returned (.int .i64 (cmpI a b)) ∧ w' = w := by
  have ha : (a != a) = false := by simp
  have hb : (b != b) = false := by simp
  by_cases h1 : a < b
  · go_enter Tryz.func61, Tryz.ntmps61
    go_wp2
    go_ret
    exact ⟨ret_int (by simp [cmpI, h1]), rfl⟩
  · by_cases h2 : b < a
    · go_enter Tryz.func61, Tryz.ntmps61
      go_wp2
      go_ret
      exact ⟨ret_int (by unfold cmpI; rw [if_neg (by omega), if_pos (by omega)]), rfl⟩
    · go_enter Tryz.func61, Tryz.ntmps61
      go_wp2
      go_ret
      exact ⟨ret_int (by unfold cmpI; rw [if_neg (by omega), if_neg (by omega)]), rfl⟩

set_option maxHeartbeats 400000 in
theorem cmpStr_any (a b : ByteArray) (w : World) : Calls Tryz.prog 74 #[.string a, .string b] w fun e w' => e = .returned (.int .i64 (cmpS a b)) ∧ w' = w := by
  have hr := cmpL_range a.toList b.toList
  have qa : (a.toList == a.toList) = true := by simp
  have qb : (b.toList == b.toList) = true := by simp
  by_cases h1 : cmpS a b = -1
  · have g1 := less_of h1
    have H := hideIt h1
    clear h1 hr
    go_enter Tryz.func74, Tryz.ntmps74
    go_wp2
    go_ret
    exact ⟨ret_int H.out.symm, rfl⟩
  · have g1 := notless_of h1
    by_cases h0 : cmpS a b = 0
    · have g2 := eq_of h0
      have H := hideIt h0
      clear h1 hr h0
      go_enter Tryz.func74, Tryz.ntmps74
      go_wp2
      go_ret
      exact ⟨ret_int H.out.symm, rfl⟩
    · have g2 := ne_of h0
      have H : Hid (cmpS a b = 1) := by rcases hr with h | h | h; exact absurd h h1; exact absurd h h0; exact h
      clear h1 hr h0
      go_enter Tryz.func74, Tryz.ntmps74
      go_wp2
      go_ret
      exact ⟨ret_int H.out.symm, rfl⟩

set_option maxHeartbeats 1000000 in
set_option maxRecDepth 100000 in
theorem compareString_any (a b : ByteArray) (w : World) : Calls Tryz.prog 73 #[.string a, .string b] w fun e w' => e = .returned (.int .i64 (cmpS a b)) ∧ w' = w := by
  go_enter Tryz.func73, Tryz.ntmps73
  go_wp2
  rw [run_callFunc_extern Tryz.func79 (by kernel_rfl) (by kernel_rfl) (by kernel_rfl) (e := Extern.BytealgCompare.compare) (by kernel_rfl), Lib.run_compareString]
  simp only [Result.andThen]
  rw [Oper.upon_value]
  go_wp2
  go_ret
  exact ⟨ret_int (by simp [cmpS, cmpL, ByteArray.toList_eq]), rfl⟩

set_option maxHeartbeats 1000000 in
theorem stringsCompare_any (a b : ByteArray) (w : World) : Calls Tryz.prog 62 #[.string a, .string b] w fun e w' => e = .returned (.int .i64 (cmpS a b)) ∧ w' = w := by
  go_enter Tryz.func62, Tryz.ntmps62
  go_wp2_with (go_at_call 73; refine (compareString_any _ _ _).mono ?_; rintro e w' ⟨rfl, rfl⟩)
  go_ret
  exact ⟨rfl, rfl⟩
end Go.Proofs.YtgmnihofkpjboaaGreatDoor
