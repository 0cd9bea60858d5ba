/-
  Plain: what escaping makes of bytes.
-/
import Derived.Lib.Builder
import Derived.WalkKit
import Derived.Laws.IdiomStrings
namespace Go.Proofs.YtiamkmkbkehldaaDoor
set_option linter.unusedSimpArgs false
set_option linter.unusedVariables false

/-- The sign of a number below 16. -/
def hexS : List UInt8 := [48, 49, 50, 51, 52, 53, 54, 55, 56, 57, 97, 98, 99, 100, 101, 102]
def hexB (n : Nat) : UInt8 := hexS.getD n 0
end Go.Proofs.YtiamkmkbkehldaaDoor

/-
  Texts as rows of bytes (no program).
-/
namespace Go.Proofs.YtiamkmkbkehldaaDoor
open Go.RowKit
set_option linter.unusedSimpArgs false
set_option linter.unusedVariables false

theorem hideB {p : Prop} (h : p) : Hid p := h
theorem len_is (s : ByteArray) : s.data.toList.length = s.size := Array.length_toList
/-- A text of these bytes. -/
def txt (l : List UInt8) : ByteArray := ⟨l.toArray⟩
theorem txt_size (l : List UInt8) : (txt l).size = l.length := by simp [txt, ByteArray.size]
theorem txt_app (l m : List UInt8) : txt l ++ txt m = txt (l ++ m) := by
  apply ByteArray.ext; simp [txt]
theorem txt_bytes (s : ByteArray) : txt s.data.toList = s := by
  apply ByteArray.ext; simp [txt]
theorem bytes_txt (l : List UInt8) : (txt l).data.toList = l := by simp [txt]
theorem ret_str {a b : ByteArray} (h : a = b) : Ending.returned (.string a) = Ending.returned (.string b) := by rw [h]
theorem app_txt (l : List UInt8) (s : ByteArray) : txt l ++ s = txt (l ++ s.data.toList) := by
  conv => lhs; rw [← txt_bytes s]
  exact txt_app _ _
theorem getK {s : ByteArray} {k : Nat} (h : k < s.size) (h' : k < s.data.toList.length) : s.data.toList[k] = s[k] := by
  simp [ByteArray.getElem_eq_getElem_data]
theorem str_eq {a b : ByteArray} (h : (a.toList == b.toList) = true) : a = b := by
  have h' := eq_of_beq h
  rw [ByteArray.toList_eq, ByteArray.toList_eq] at h'
  rw [← txt_bytes a, ← txt_bytes b, h']
theorem u8_ne {c d : UInt8} (h : ¬ c = d) : ¬ (c.toNat : Int) = (d.toNat : Int) := fun e => h (UInt8.toNat_inj.1 (by omega))
theorem u8_wrap {x : Int} (h0 : 0 ≤ x) (h1 : x < 256) : IntKind.u8.wrap x = x := by
  simp [IntKind.wrap, show IntKind.u8.bits = 8 from rfl, show IntKind.u8.signed = false from rfl]; omega
theorem i64_wrap {x : Int} (h0 : -4611686018427387904 ≤ x) (h1 : x < 4611686018427387904) : IntKind.i64.wrap x = x := by
  have e : IntKind.i64.bits = 64 := rfl
  have e2 : IntKind.i64.signed = true := rfl
  simp [IntKind.wrap, e, e2]; omega
theorem u8_quo (c : UInt8) : IntKind.u8.wrap ((c.toNat : Int) / 16) = (c.toNat : Int) / 16 := by
  have := c.toNat_lt; exact u8_wrap (by omega) (by omega)
theorem u8_rem (c : UInt8) : ((c.toNat : Int)).tmod 16 = (c.toNat : Int) % 16 := Int.tmod_eq_emod_of_nonneg (by omega)
end Go.Proofs.YtiamkmkbkehldaaDoor

/-
  Plain: texts in quotes, as JSON has them.
-/
namespace Go.Proofs.YtiamkmkbkehldaaDoor
set_option linter.unusedSimpArgs false
set_option linter.unusedVariables false

def quoB (c : UInt8) : List UInt8 :=
  if c = 34 then [92, 34] else if c = 92 then [92, 92] else if c = 8 then [92, 98] else if c = 9 then [92, 116] else if c = 10 then [92, 110] else if c = 12 then [92, 102] else if c = 13 then [92, 114]
  else if c < 32 ∨ c = 127 then [92, 117, 48, 48, hexB (c.toNat / 16), hexB (c.toNat % 16)] else [c]
def quo : List UInt8 → List UInt8
  | [] => []
  | c :: l => quoB c ++ quo l
/-- The text in quotes. -/
def quoT (s : ByteArray) : List UInt8 := 34 :: (quo s.data.toList ++ [34])
theorem quoB_len (c : UInt8) : 1 ≤ (quoB c).length ∧ (quoB c).length ≤ 6 := by
  unfold quoB
  repeat' split
  all_goals simp
theorem quo_app (l m : List UInt8) : quo (l ++ m) = quo l ++ quo m := by
  induction l with
  | nil => rfl
  | cons c l ih => simp [quo, ih]
theorem quo_len (l : List UInt8) : (quo l).length ≤ 6 * l.length := by
  induction l with
  | nil => simp [quo]
  | cons c l ih => have := quoB_len c; simp [quo]; omega
theorem quo_snoc (l : List UInt8) (k : Nat) (h : k < l.length) : quo (l.take (k + 1)) = quo (l.take k) ++ quoB l[k] := by
  rw [List.take_succ_eq_append_getElem h, quo_app]; simp [quo]
theorem quo_take_len (l : List UInt8) (k : Nat) : (quo (l.take k)).length ≤ 6 * l.length := by
  have := quo_len (l.take k); have h2 : (l.take k).length ≤ l.length := by rw [List.length_take]; omega
  omega
theorem quoT_len (s : ByteArray) : 2 ≤ (quoT s).length ∧ (quoT s).length ≤ 6 * s.size + 2 := by
  have h1 : s.data.toList.length = s.size := Array.length_toList
  have h2 := quo_len s.data.toList
  unfold quoT
  simp only [List.length_cons, List.length_append, List.length_nil]
  omega

/-- The place of a byte that has a letter of its own. -/
def quoS : List UInt8 := [34, 92, 8, 9, 10, 12, 13]
def quoL : List UInt8 := [34, 92, 98, 116, 110, 102, 114]
end Go.Proofs.YtiamkmkbkehldaaDoor

/-
  Plain: numbers as bytes, and MessagePack's bytes of numbers, texts and counts.
-/
namespace Go.Proofs.YtiamkmkbkehldaaDoor
set_option linter.unusedSimpArgs false
set_option linter.unusedVariables false

end Go.Proofs.YtiamkmkbkehldaaDoor
