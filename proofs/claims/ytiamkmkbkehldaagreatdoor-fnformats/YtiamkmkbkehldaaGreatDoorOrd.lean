/-
  Comparing numbers, texts and lists of texts: the specification's functions and the library's answer alike.
-/
import Derived.Test.YtiamkmkbkehldaaGreatDoorStepC
import Derived.Test.YtiamkmkbkehldaaGreatDoorProg
import Derived.Lib.Bytealg
import Derived.Laws.Cover1
import Derived.Laws.Externs
import Derived.KernelRfl
import Derived.Test.YtiamkmkbkehldaaGreatDoorVal
namespace Go.Proofs.YtiamkmkbkehldaaGreatDoor
open Go.RowKit
set_option linter.unusedSimpArgs false
set_option linter.unusedVariables false

def cmpI (a b : Int) : Int := if a < b then -1 else if b < a then 1 else 0
def cmpL (x y : List UInt8) : Int := Lib.compareBytes x y
def cmpS (a b : ByteArray) : Int := cmpL a.toList b.toList

theorem cmpL_cons (a b : UInt8) (x y : List UInt8) : cmpL (a :: x) (b :: y) = if a < b then -1 else if b < a then 1 else cmpL x y := by
  unfold cmpL; rw [Lib.compareBytes]

theorem cmpL_less : ∀ x y : List UInt8, Op.bytesLess x y = decide (cmpL x y = -1) := by
  intro x
  induction x with
  | nil => intro y; cases y <;> simp [Op.bytesLess, cmpL, Lib.compareBytes]
  | cons a x ih =>
    intro y
    cases y with
    | nil => simp [Op.bytesLess, cmpL, Lib.compareBytes]
    | cons b y =>
      rw [Op.bytesLess, cmpL_cons, ih]
      by_cases h1 : a < b
      · simp [h1]
      · by_cases h2 : b < a
        · have : (a == b) = false := by simp; intro e; subst e; exact h1 h2
          simp [h1, h2, this]
        · have : a = b := UInt8.le_antisymm (UInt8.not_lt.1 h2) (UInt8.not_lt.1 h1)
          simp [h1, h2, this]

theorem cmpL_zero : ∀ x y : List UInt8, cmpL x y = 0 ↔ x = y := by
  intro x
  induction x with
  | nil => intro y; cases y <;> simp [cmpL, Lib.compareBytes]
  | cons a x ih =>
    intro y
    cases y with
    | nil => simp [cmpL, Lib.compareBytes]
    | cons b y =>
      rw [cmpL_cons]
      by_cases h1 : a < b
      · simp [h1]; intro e; subst e; exact absurd h1 (UInt8.lt_irrefl a)
      · by_cases h2 : b < a
        · simp [h1, h2]; intro e; subst e; exact absurd h2 (UInt8.lt_irrefl a)
        · have : a = b := UInt8.le_antisymm (UInt8.not_lt.1 h2) (UInt8.not_lt.1 h1)
          simp [h1, h2, this, ih]

theorem cmpL_flip : ∀ x y : List UInt8, cmpL y x = -cmpL x y := by
  intro x
  induction x with
  | nil => intro y; cases y <;> simp [cmpL, Lib.compareBytes]
  | cons a x ih =>
    intro y
    cases y with
    | nil => simp [cmpL, Lib.compareBytes]
    | cons b y =>
      rw [cmpL_cons, cmpL_cons]
      by_cases h1 : a < b
      · have h2 : ¬ b < a := UInt8.not_lt.2 (UInt8.le_of_lt h1)
        simp [h1, h2]
      · by_cases h2 : b < a
        · simp [h1, h2]
        · simp [h1, h2, ih]

theorem cmpL_range : ∀ x y : List UInt8, cmpL x y = -1 ∨ cmpL x y = 0 ∨ cmpL x y = 1 := by
  intro x
  induction x with
  | nil => intro y; cases y <;> simp [cmpL, Lib.compareBytes]
  | cons a x ih =>
    intro y
    cases y with
    | nil => simp [cmpL, Lib.compareBytes]
    | cons b y =>
      rw [cmpL_cons]
      split
      · simp
      · split
        · simp
        · exact ih y

theorem cmpI_range (a b : Int) : cmpI a b = -1 ∨ cmpI a b = 0 ∨ cmpI a b = 1 := by unfold cmpI; split <;> (try split) <;> simp
theorem cmpI_zero (a b : Int) : cmpI a b = 0 ↔ a = b := by unfold cmpI; split <;> (try split) <;> simp <;> omega

/-- Lists, by the first part that differs, then by how many there are. -/
def cmpKeys : List ByteArray → List ByteArray → Int
  | [], [] => 0
  | [], _ :: _ => -1
  | _ :: _, [] => 1
  | a :: l, b :: m => if cmpS a b ≠ 0 then cmpS a b else cmpKeys l m

theorem cmpKeys_range : ∀ l m, cmpKeys l m = -1 ∨ cmpKeys l m = 0 ∨ cmpKeys l m = 1 := by
  intro l
  induction l with
  | nil => intro m; cases m <;> simp [cmpKeys]
  | cons a l ih =>
    intro m
    cases m with
    | nil => simp [cmpKeys]
    | cons b m =>
      rw [cmpKeys]
      split
      · exact cmpL_range _ _
      · exact ih m

set_option maxHeartbeats 400000 in
theorem l1Cmp_any (a b : Int) (w : World) : Calls Tryz.prog 164 #[.int .i64 a, .int .i64 b] w fun e w' => e = .returned (.int .i64 (cmpI a b)) ∧ w' = w := by
  by_cases h1 : a < b
  · go_enter Tryz.func164, Tryz.ntmps164
    go_wp2
    go_ret
    exact ⟨ret_int (by simp [cmpI, h1]), rfl⟩
  · by_cases h2 : b < a
    · go_enter Tryz.func164, Tryz.ntmps164
      go_wp2
      go_ret
      exact ⟨ret_int (by unfold cmpI; rw [if_neg (by omega), if_pos (by omega)]), rfl⟩
    · go_enter Tryz.func164, Tryz.ntmps164
      go_wp2
      go_ret
      exact ⟨ret_int (by unfold cmpI; rw [if_neg (by omega), if_neg (by omega)]), rfl⟩

theorem less_of {a b : ByteArray} (h : cmpS a b = -1) : Op.bytesLess a.toList b.toList = true := by rw [cmpL_less]; exact decide_eq_true h
theorem notless_of {a b : ByteArray} (h : cmpS a b ≠ -1) : Op.bytesLess a.toList b.toList = false := by rw [cmpL_less]; exact decide_eq_false h
theorem eq_of {a b : ByteArray} (h : cmpS a b = 0) : (a.toList == b.toList) = true := by rw [beq_iff_eq]; exact (cmpL_zero _ _).1 h
theorem ne_of {a b : ByteArray} (h : cmpS a b ≠ 0) : (a.toList == b.toList) = false := by rw [beq_eq_false_iff_ne]; exact fun e => h ((cmpL_zero _ _).2 e)

set_option maxHeartbeats 400000 in
theorem l1CmpText_any (a b : ByteArray) (w : World) : Calls Tryz.prog 165 #[.string a, .string b] w fun e w' => e = .returned (.int .i64 (cmpS a b)) ∧ w' = w := by
  have hr := cmpL_range a.toList b.toList
  by_cases h1 : cmpS a b = -1
  · have g1 := less_of h1
    have H := hideIt h1
    clear h1 hr
    go_enter Tryz.func165, Tryz.ntmps165
    go_wp2
    go_ret
    exact ⟨ret_int H.out.symm, rfl⟩
  · have g1 := notless_of h1
    by_cases h0 : cmpS a b = 0
    · have g2 := eq_of h0
      have H := hideIt h0
      clear h1 hr h0
      go_enter Tryz.func165, Tryz.ntmps165
      go_wp2
      go_ret
      exact ⟨ret_int H.out.symm, rfl⟩
    · have g2 := ne_of h0
      have H : Hid (cmpS a b = 1) := by rcases hr with h | h | h; exact absurd h h1; exact absurd h h0; exact h
      clear h1 hr h0
      go_enter Tryz.func165, Tryz.ntmps165
      go_wp2
      go_ret
      exact ⟨ret_int H.out.symm, rfl⟩

set_option maxHeartbeats 400000 in
theorem cmpInt_any (a b : Int) (w : World) : Calls Tryz.prog 114 #[.int .i64 a, .int .i64 b] w fun e w' => e = .returned (.int .i64 (cmpI a b)) ∧ w' = w := by
  have ha : (a != a) = false := by simp
  have hb : (b != b) = false := by simp
  by_cases h1 : a < b
  · go_enter Tryz.func114, Tryz.ntmps114
    go_wp2
    go_ret
    exact ⟨ret_int (by simp [cmpI, h1]), rfl⟩
  · by_cases h2 : b < a
    · go_enter Tryz.func114, Tryz.ntmps114
      go_wp2
      go_ret
      exact ⟨ret_int (by unfold cmpI; rw [if_neg (by omega), if_pos (by omega)]), rfl⟩
    · go_enter Tryz.func114, Tryz.ntmps114
      go_wp2
      go_ret
      exact ⟨ret_int (by unfold cmpI; rw [if_neg (by omega), if_neg (by omega)]), rfl⟩

set_option maxHeartbeats 400000 in
theorem cmpStr_any (a b : ByteArray) (w : World) : Calls Tryz.prog 163 #[.string a, .string b] w fun e w' => e = .returned (.int .i64 (cmpS a b)) ∧ w' = w := by
  have hr := cmpL_range a.toList b.toList
  have qa : (a.toList == a.toList) = true := by simp
  have qb : (b.toList == b.toList) = true := by simp
  by_cases h1 : cmpS a b = -1
  · have g1 := less_of h1
    have H := hideIt h1
    clear h1 hr
    go_enter Tryz.func163, Tryz.ntmps163
    go_wp2
    go_ret
    exact ⟨ret_int H.out.symm, rfl⟩
  · have g1 := notless_of h1
    by_cases h0 : cmpS a b = 0
    · have g2 := eq_of h0
      have H := hideIt h0
      clear h1 hr h0
      go_enter Tryz.func163, Tryz.ntmps163
      go_wp2
      go_ret
      exact ⟨ret_int H.out.symm, rfl⟩
    · have g2 := ne_of h0
      have H : Hid (cmpS a b = 1) := by rcases hr with h | h | h; exact absurd h h1; exact absurd h h0; exact h
      clear h1 hr h0
      go_enter Tryz.func163, Tryz.ntmps163
      go_wp2
      go_ret
      exact ⟨ret_int H.out.symm, rfl⟩

set_option maxHeartbeats 1000000 in
set_option maxRecDepth 100000 in
theorem compareString_any (a b : ByteArray) (w : World) : Calls Tryz.prog 162 #[.string a, .string b] w fun e w' => e = .returned (.int .i64 (cmpS a b)) ∧ w' = w := by
  go_enter Tryz.func162, Tryz.ntmps162
  go_wp2
  rw [run_callFunc_extern Tryz.func194 (by kernel_rfl) (by kernel_rfl) (by kernel_rfl) (e := Extern.BytealgCompare.compare) (by kernel_rfl), Lib.run_compareString]
  simp only [Result.andThen]
  rw [Oper.upon_value]
  go_wp2
  go_ret
  exact ⟨ret_int (by simp [cmpS, cmpL, ByteArray.toList_eq]), rfl⟩

set_option maxHeartbeats 1000000 in
theorem stringsCompare_any (a b : ByteArray) (w : World) : Calls Tryz.prog 115 #[.string a, .string b] w fun e w' => e = .returned (.int .i64 (cmpS a b)) ∧ w' = w := by
  go_enter Tryz.func115, Tryz.ntmps115
  go_wp2_with (go_at_call 162; refine (compareString_any _ _ _).mono ?_; rintro e w' ⟨rfl, rfl⟩)
  go_ret
  exact ⟨rfl, rfl⟩
end Go.Proofs.YtiamkmkbkehldaaGreatDoor

/-
  The order of two values, as a plain function of their nodes; lists of texts compared by the library.
-/
namespace Go.Proofs.YtiamkmkbkehldaaGreatDoor
open Go.RowKit
set_option linter.unusedSimpArgs false
set_option linter.unusedVariables false

theorem keyAt_get {l : List ByteArray} {j : Nat} (h : j < l.length) : keyAt l j = l[j] := by simp [keyAt, h]

theorem cmpKeys_step {l m : List ByteArray} {k : Nat} (h1 : k < l.length) (h2 : k < m.length) : cmpKeys (l.drop k) (m.drop k) = if cmpS (keyAt l k) (keyAt m k) ≠ 0 then cmpS (keyAt l k) (keyAt m k) else cmpKeys (l.drop (k + 1)) (m.drop (k + 1)) := by
  rw [List.drop_eq_getElem_cons h1, List.drop_eq_getElem_cons h2, cmpKeys, keyAt_get h1, keyAt_get h2]
theorem cmpKeys_more {l m : List ByteArray} {k : Nat} (h1 : k < l.length) (h2 : m.length ≤ k) : cmpKeys (l.drop k) (m.drop k) = 1 := by
  rw [List.drop_eq_getElem_cons h1, List.drop_of_length_le h2, cmpKeys]
theorem cmpKeys_less {l m : List ByteArray} {k : Nat} (h1 : l.length ≤ k) (h2 : k < m.length) : cmpKeys (l.drop k) (m.drop k) = -1 := by
  rw [List.drop_of_length_le h1, List.drop_eq_getElem_cons h2, cmpKeys]
theorem cmpKeys_end {l m : List ByteArray} {k : Nat} (h1 : l.length ≤ k) (h2 : m.length ≤ k) : cmpKeys (l.drop k) (m.drop k) = 0 := by
  rw [List.drop_of_length_le h1, List.drop_of_length_le h2, cmpKeys]

/-- Lists of kids, by the first two that differ, then by how many there are. -/
def cmpKids (R : Int → Int → Int) : List Int → List Int → Int
  | [], [] => 0
  | [], _ :: _ => -1
  | _ :: _, [] => 1
  | a :: l, b :: m => if R a b ≠ 0 then R a b else cmpKids R l m

theorem cmpKids_step {R : Int → Int → Int} {l m : List Int} {k : Nat} (h1 : k < l.length) (h2 : k < m.length) : cmpKids R (l.drop k) (m.drop k) = if R (intAt l k) (intAt m k) ≠ 0 then R (intAt l k) (intAt m k) else cmpKids R (l.drop (k + 1)) (m.drop (k + 1)) := by
  rw [List.drop_eq_getElem_cons h1, List.drop_eq_getElem_cons h2, cmpKids, intAt_get h1, intAt_get h2]
theorem cmpKids_more {R : Int → Int → Int} {l m : List Int} {k : Nat} (h1 : k < l.length) (h2 : m.length ≤ k) : cmpKids R (l.drop k) (m.drop k) = 1 := by
  rw [List.drop_eq_getElem_cons h1, List.drop_of_length_le h2, cmpKids]
theorem cmpKids_less {R : Int → Int → Int} {l m : List Int} {k : Nat} (h1 : l.length ≤ k) (h2 : k < m.length) : cmpKids R (l.drop k) (m.drop k) = -1 := by
  rw [List.drop_of_length_le h1, List.drop_eq_getElem_cons h2, cmpKids]
theorem cmpKids_end {R : Int → Int → Int} {l m : List Int} {k : Nat} (h1 : l.length ≤ k) (h2 : m.length ≤ k) : cmpKids R (l.drop k) (m.drop k) = 0 := by
  rw [List.drop_of_length_le h1, List.drop_of_length_le h2, cmpKids]

theorem cmpKids_range {R : Int → Int → Int} (hR : ∀ a b, -1 ≤ R a b ∧ R a b ≤ 1) : ∀ l m, -1 ≤ cmpKids R l m ∧ cmpKids R l m ≤ 1 := by
  intro l
  induction l with
  | nil => intro m; cases m <;> simp [cmpKids]
  | cons a l ih =>
    intro m
    cases m with
    | nil => simp [cmpKids]
    | cons b m =>
      rw [cmpKids]
      split
      · exact hR _ _
      · exact ih m

/-- By Kind; by N; by S; by the keys; by the kids. -/
def ord (us vs : List VN) : Nat → Nat → Nat → Int
  | 0, _, _ => 0
  | f + 1, n, m =>
    if (nodeAt us n).kind ≠ (nodeAt vs m).kind then cmpI (nodeAt us n).kind (nodeAt vs m).kind
    else if (nodeAt us n).n ≠ (nodeAt vs m).n then cmpI (nodeAt us n).n (nodeAt vs m).n
    else if cmpS (nodeAt us n).s (nodeAt vs m).s ≠ 0 then cmpS (nodeAt us n).s (nodeAt vs m).s
    else if cmpKeys (nodeAt us n).keys (nodeAt vs m).keys ≠ 0 then cmpKeys (nodeAt us n).keys (nodeAt vs m).keys
    else cmpKids (fun a b => ord us vs f a.toNat b.toNat) (nodeAt us n).kids (nodeAt vs m).kids

theorem ord_range (us vs : List VN) : ∀ f n m, -1 ≤ ord us vs f n m ∧ ord us vs f n m ≤ 1 := by
  intro f
  induction f with
  | zero => intro n m; simp [ord]
  | succ f ih =>
    intro n m
    rw [ord]
    split
    · rcases cmpI_range (nodeAt us n).kind (nodeAt vs m).kind with h | h | h <;> omega
    split
    · rcases cmpI_range (nodeAt us n).n (nodeAt vs m).n with h | h | h <;> omega
    split
    · rcases cmpL_range (nodeAt us n).s.toList (nodeAt vs m).s.toList with h | h | h <;> (unfold cmpS; omega)
    split
    · rcases cmpKeys_range (nodeAt us n).keys (nodeAt vs m).keys with h | h | h <;> omega
    · exact cmpKids_range (fun a b => ih _ _) _ _

set_option maxHeartbeats 1600000 in
theorem slicesCompare_any (B : Nat) (v1 v2 : Value) (l m : List ByteArray) (w : World) (h1 : StrsAt B w v1 l) (h2 : StrsAt B w v2 m) :
    Calls Tryz.prog 116 #[v1, v2] w fun e w' => e = .returned (.int .i64 (cmpKeys l m)) ∧ w' = w := by
  obtain ⟨hl1, _, a1, c1, rfl, hc1⟩ := h1
  obtain ⟨hl2, _, a2, c2, rfl, hc2⟩ := h2
  have HC1 := hideIt hc1
  have HC2 := hideIt hc2
  clear hc1 hc2
  go_enter Tryz.func116, Tryz.ntmps116
  go_wp2_with fail
  go_loopw [11] (fun i wr => ∃ k : Nat, k ≤ l.length ∧ i = .int .i64 k ∧ Hid (k ≤ m.length ∧ cmpKeys (l.drop k) (m.drop k) = cmpKeys l m) ∧ wr = w) (fun i _ => l.length - (intOf i).toNat)
  case atStart => exact ⟨0, Nat.zero_le _, rfl, ⟨Nat.zero_le _, by simp⟩, rfl⟩
  case round =>
    obtain ⟨k, hk, rfl, HE, rfl⟩ := hrel
    by_cases hlt : k < l.length
    · obtain ⟨b1, o1, rfl, _, d1⟩ := HC1.out (by omega)
      have e1 := d1 k hlt
      clear d1
      by_cases hlm : k < m.length
      · obtain ⟨b2, o2, rfl, _, d2⟩ := HC2.out (by omega)
        have e2 := d2 k hlm
        clear d2
        have hge : ¬ (m.length : Int) ≤ (k : Int) := by omega
        have HS := hideIt (cmpKeys_step hlt hlm)
        by_cases hz : cmpS (keyAt l k) (keyAt m k) = 0
        · have HZ := hideIt hz
          clear hz
          go_wp2_with fail
          refine (cmpStr_any _ _ _).mono ?_
          rintro e w1 ⟨rfl, rfl⟩
          rw [HZ.out]
          go_wp2_with fail
          go_roundw
          case rel => exact ⟨k + 1, by omega, by go_num, ⟨by omega, by rw [← HE.out.2, HS.out]; simp [HZ.out]⟩, by trivial⟩
          case measure => simp [intOf]; omega
        · have HZ : Hid (cmpKeys l m = cmpS (keyAt l k) (keyAt m k)) := by rw [Hid, ← HE.out.2, HS.out]; simp [hz]
          have hne : (cmpS (keyAt l k) (keyAt m k) != 0) = true := by simp [hz]
          clear hz
          go_wp2_with fail
          refine (cmpStr_any _ _ _).mono ?_
          rintro e w1 ⟨rfl, rfl⟩
          go_wp2_with fail
          go_ret
          exact ⟨ret_int HZ.out.symm, rfl⟩
      · have HZ : Hid (cmpKeys l m = 1) := by rw [Hid, ← HE.out.2, cmpKeys_more hlt (by omega)]
        have hge : (m.length : Int) ≤ (k : Int) := by omega
        go_wp2_with fail
        go_ret
        exact ⟨ret_int HZ.out.symm, rfl⟩
    · obtain rfl : k = l.length := by omega
      by_cases hlm : l.length < m.length
      · have HZ : Hid (cmpKeys l m = -1) := by rw [Hid, ← HE.out.2, cmpKeys_less (Nat.le_refl _) hlm]
        go_wp2_with fail
        go_ret
        exact ⟨ret_int HZ.out.symm, rfl⟩
      · have HZ : Hid (cmpKeys l m = 0) := by rw [Hid, ← HE.out.2, cmpKeys_end (Nat.le_refl _) (by omega)]
        go_wp2_with fail
        go_ret
        exact ⟨ret_int HZ.out.symm, rfl⟩
end Go.Proofs.YtiamkmkbkehldaaGreatDoor
