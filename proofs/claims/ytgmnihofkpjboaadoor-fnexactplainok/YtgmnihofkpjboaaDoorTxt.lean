/-
  Texts as rows of bytes (no program).
-/
import Derived.WalkKit
import Derived.Laws.IdiomStrings
namespace Go.Proofs.YtgmnihofkpjboaaDoor
open Go.RowKit
set_option linter.unusedSimpArgs false
set_option linter.unusedVariables false

theorem hideB {p : Prop} (h : p) : Hid p := h
theorem len_is (s : ByteArray) : s.data.toList.length = s.size := Array.length_toList
/-- A text of these bytes. -/
def txt (l : List UInt8) : ByteArray := ⟨l.toArray⟩
theorem txt_size (l : List UInt8) : (txt l).size = l.length := by simp [txt, ByteArray.size]
theorem txt_app (l m : List UInt8) : txt l ++ txt m = txt (l ++ m) := by
  apply ByteArray.ext; simp [txt]
theorem txt_bytes (s : ByteArray) : txt s.data.toList = s := by
  apply ByteArray.ext; simp [txt]
theorem bytes_txt (l : List UInt8) : (txt l).data.toList = l := by simp [txt]
theorem txt_inj {l m : List UInt8} (h : txt l = txt m) : l = m := by rw [← bytes_txt l, h, bytes_txt]
theorem ret_str {a b : ByteArray} (h : a = b) : Ending.returned (.string a) = Ending.returned (.string b) := by rw [h]
theorem ret_txt {a b : List UInt8} (h : a = b) : Ending.returned (.string (txt a)) = Ending.returned (.string (txt b)) := by rw [h]
theorem str_txt {a b : ByteArray} (h : a = b) : Value.string a = Value.string b := by rw [h]
theorem app_txt (l : List UInt8) (s : ByteArray) : txt l ++ s = txt (l ++ s.data.toList) := by
  conv => lhs; rw [← txt_bytes s]
  exact txt_app _ _
theorem getK {s : ByteArray} {k : Nat} (h : k < s.size) (h' : k < s.data.toList.length) : s.data.toList[k] = s[k] := by
  simp [ByteArray.getElem_eq_getElem_data]
theorem getK? {s : ByteArray} {k : Nat} (h : k < s.size) : s.data.toList[k]? = some s[k] := by
  rw [List.getElem?_eq_getElem (by rw [len_is]; exact h), getK h]
theorem str_eq {a b : ByteArray} (h : (a.toList == b.toList) = true) : a = b := by
  have h' := eq_of_beq h
  rw [ByteArray.toList_eq, ByteArray.toList_eq] at h'
  rw [← txt_bytes a, ← txt_bytes b, h']
theorem str_ne {a b : ByteArray} (h : (a.toList == b.toList) = false) : ¬ a = b := fun e => by rw [e] at h; simp at h
theorem cut_txt (s : ByteArray) (a b : Nat) : s.extract a b = txt ((s.data.toList.drop a).take (b - a)) := by
  conv => lhs; rw [← txt_bytes s]
  exact ByteArray.extract_mk _ _ _
theorem u8_ne {c d : UInt8} (h : ¬ c = d) : ¬ (c.toNat : Int) = (d.toNat : Int) := fun e => h (UInt8.toNat_inj.1 (by omega))
theorem u8_le {c d : UInt8} (h : c ≤ d) : (c.toNat : Int) ≤ (d.toNat : Int) := by have := UInt8.le_iff_toNat_le.1 h; omega
theorem u8_not_le {c d : UInt8} (h : ¬ c ≤ d) : (d.toNat : Int) < (c.toNat : Int) := by
  have : ¬ c.toNat ≤ d.toNat := fun h' => h (UInt8.le_iff_toNat_le.2 h'); omega
theorem u8_wrap {x : Int} (h0 : 0 ≤ x) (h1 : x < 256) : IntKind.u8.wrap x = x := by
  simp [IntKind.wrap, show IntKind.u8.bits = 8 from rfl, show IntKind.u8.signed = false from rfl]; omega
theorem i64_wrap {x : Int} (h0 : -4611686018427387904 ≤ x) (h1 : x < 4611686018427387904) : IntKind.i64.wrap x = x := by
  have e : IntKind.i64.bits = 64 := rfl
  have e2 : IntKind.i64.signed = true := rfl
  simp [IntKind.wrap, e, e2]; omega
theorem u8_quo (c : UInt8) : IntKind.u8.wrap ((c.toNat : Int) / 16) = (c.toNat : Int) / 16 := by
  have := c.toNat_lt; exact u8_wrap (by omega) (by omega)
theorem u8_rem (c : UInt8) : ((c.toNat : Int)).tmod 16 = (c.toNat : Int) % 16 := Int.tmod_eq_emod_of_nonneg (by omega)
theorem run_cut {P : Program} {t : TypeId} (s : ByteArray) (a b : Nat) (h : P.underlying t = some .string) (h1 : a ≤ b) (h2 : b ≤ s.size) (w : World) :
    (Instr.slice t (.string s) (some (.int .i64 (a : Int))) (some (.int .i64 (b : Int))) none).run P w = .ok (.string (txt ((s.data.toList.drop a).take (b - a)))) w := by
  rw [run_slice_string w t s .i64 .i64 (a : Int) (b : Int) h (by omega) (by omega) (by omega), cut_txt]
  simp
theorem take_one {s : ByteArray} {k : Nat} (h : k < s.size) : (s.data.toList.drop k).take (k + 1 - k) = [s[k]] := by
  have h' : k < s.data.toList.length := by rw [len_is]; exact h
  rw [List.drop_eq_getElem_cons h', getK h]
  have : k + 1 - k = 1 := by omega
  rw [this]; rfl
theorem run_one {P : Program} {t : TypeId} {s : ByteArray} {k : Nat} (ht : P.underlying t = some .string) (h : k < s.size) {c : UInt8} (hc : s[k] = c) (w : World) :
    (Instr.slice t (.string s) (some (.int .i64 (k : Int))) (some (.int .i64 ((k : Int) + 1))) none).run P w = .ok (.string (txt [c])) w := by
  have := run_cut (P := P) (t := t) s k (k + 1) ht (by omega) (by omega) w
  rw [take_one h, hc] at this
  exact this
end Go.Proofs.YtgmnihofkpjboaaDoor
