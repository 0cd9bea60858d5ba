/-
  Plain: what escaping makes of bytes.
-/
import Derived.Lib.Builder
import Derived.WalkKit
import Derived.Laws.IdiomStrings
namespace Go.Proofs.YtehihemfepbmfaaGreatDoor
set_option linter.unusedSimpArgs false
set_option linter.unusedVariables false

/-- The sign of a number below 16. -/
def hexS : List UInt8 := [48, 49, 50, 51, 52, 53, 54, 55, 56, 57, 97, 98, 99, 100, 101, 102]
def hexB (n : Nat) : UInt8 := hexS.getD n 0
def escB (c : UInt8) : List UInt8 :=
  if c = 10 then [92, 110] else if c = 92 then [92, 92] else if 32 ≤ c ∧ c ≤ 126 then [c] else [92, 120, hexB (c.toNat / 16), hexB (c.toNat % 16)]
def esc : List UInt8 → List UInt8
  | [] => []
  | c :: l => escB c ++ esc l
theorem escB_len (c : UInt8) : (escB c).length ≤ 4 := by unfold escB; split <;> (try split) <;> (try split) <;> simp
theorem esc_app (l m : List UInt8) : esc (l ++ m) = esc l ++ esc m := by
  induction l with
  | nil => rfl
  | cons c l ih => simp [esc, ih]
theorem esc_len (l : List UInt8) : (esc l).length ≤ 4 * l.length := by
  induction l with
  | nil => simp [esc]
  | cons c l ih => have := escB_len c; simp [esc]; omega
theorem esc_snoc (l : List UInt8) (k : Nat) (h : k < l.length) : esc (l.take (k + 1)) = esc (l.take k) ++ escB l[k] := by
  rw [List.take_succ_eq_append_getElem h, esc_app]; simp [esc]
theorem esc_take_len (l : List UInt8) (k : Nat) : (esc (l.take k)).length ≤ 4 * l.length := by
  have := esc_len (l.take k); have h2 : (l.take k).length ≤ l.length := by rw [List.length_take]; omega
  omega
theorem hexB_is (n : Nat) (h : n < 16) : ∃ (h' : n < hexS.length), hexB n = hexS[n] := ⟨by simpa [hexS] using h, by simp [hexB, hexS, h]⟩
end Go.Proofs.YtehihemfepbmfaaGreatDoor

/-
  Texts as rows of bytes (no program).
-/
namespace Go.Proofs.YtehihemfepbmfaaGreatDoor
open Go.RowKit
set_option linter.unusedSimpArgs false
set_option linter.unusedVariables false

theorem hideB {p : Prop} (h : p) : Hid p := h
theorem len_is (s : ByteArray) : s.data.toList.length = s.size := Array.length_toList
/-- A text of these bytes. -/
def txt (l : List UInt8) : ByteArray := ⟨l.toArray⟩
theorem txt_size (l : List UInt8) : (txt l).size = l.length := by simp [txt, ByteArray.size]
theorem txt_app (l m : List UInt8) : txt l ++ txt m = txt (l ++ m) := by
  apply ByteArray.ext; simp [txt]
theorem txt_bytes (s : ByteArray) : txt s.data.toList = s := by
  apply ByteArray.ext; simp [txt]
theorem bytes_txt (l : List UInt8) : (txt l).data.toList = l := by simp [txt]
theorem txt_inj {l m : List UInt8} (h : txt l = txt m) : l = m := by rw [← bytes_txt l, h, bytes_txt]
theorem ret_str {a b : ByteArray} (h : a = b) : Ending.returned (.string a) = Ending.returned (.string b) := by rw [h]
theorem ret_txt {a b : List UInt8} (h : a = b) : Ending.returned (.string (txt a)) = Ending.returned (.string (txt b)) := by rw [h]
theorem str_txt {a b : ByteArray} (h : a = b) : Value.string a = Value.string b := by rw [h]
theorem app_txt (l : List UInt8) (s : ByteArray) : txt l ++ s = txt (l ++ s.data.toList) := by
  conv => lhs; rw [← txt_bytes s]
  exact txt_app _ _
theorem getK {s : ByteArray} {k : Nat} (h : k < s.size) (h' : k < s.data.toList.length) : s.data.toList[k] = s[k] := by
  simp [ByteArray.getElem_eq_getElem_data]
theorem getK? {s : ByteArray} {k : Nat} (h : k < s.size) : s.data.toList[k]? = some s[k] := by
  rw [List.getElem?_eq_getElem (by rw [len_is]; exact h), getK h]
theorem str_eq {a b : ByteArray} (h : (a.toList == b.toList) = true) : a = b := by
  have h' := eq_of_beq h
  rw [ByteArray.toList_eq, ByteArray.toList_eq] at h'
  rw [← txt_bytes a, ← txt_bytes b, h']
theorem str_ne {a b : ByteArray} (h : (a.toList == b.toList) = false) : ¬ a = b := fun e => by rw [e] at h; simp at h
theorem cut_txt (s : ByteArray) (a b : Nat) : s.extract a b = txt ((s.data.toList.drop a).take (b - a)) := by
  conv => lhs; rw [← txt_bytes s]
  exact ByteArray.extract_mk _ _ _
theorem u8_ne {c d : UInt8} (h : ¬ c = d) : ¬ (c.toNat : Int) = (d.toNat : Int) := fun e => h (UInt8.toNat_inj.1 (by omega))
theorem u8_le {c d : UInt8} (h : c ≤ d) : (c.toNat : Int) ≤ (d.toNat : Int) := by have := UInt8.le_iff_toNat_le.1 h; omega
theorem u8_not_le {c d : UInt8} (h : ¬ c ≤ d) : (d.toNat : Int) < (c.toNat : Int) := by
  have : ¬ c.toNat ≤ d.toNat := fun h' => h (UInt8.le_iff_toNat_le.2 h'); omega
theorem u8_wrap {x : Int} (h0 : 0 ≤ x) (h1 : x < 256) : IntKind.u8.wrap x = x := by
  simp [IntKind.wrap, show IntKind.u8.bits = 8 from rfl, show IntKind.u8.signed = false from rfl]; omega
theorem i64_wrap {x : Int} (h0 : -4611686018427387904 ≤ x) (h1 : x < 4611686018427387904) : IntKind.i64.wrap x = x := by
  have e : IntKind.i64.bits = 64 := rfl
  have e2 : IntKind.i64.signed = true := rfl
  simp [IntKind.wrap, e, e2]; omega
theorem u8_quo (c : UInt8) : IntKind.u8.wrap ((c.toNat : Int) / 16) = (c.toNat : Int) / 16 := by
  have := c.toNat_lt; exact u8_wrap (by omega) (by omega)
theorem u8_rem (c : UInt8) : ((c.toNat : Int)).tmod 16 = (c.toNat : Int) % 16 := Int.tmod_eq_emod_of_nonneg (by omega)
theorem run_cut {P : Program} {t : TypeId} (s : ByteArray) (a b : Nat) (h : P.underlying t = some .string) (h1 : a ≤ b) (h2 : b ≤ s.size) (w : World) :
    (Instr.slice t (.string s) (some (.int .i64 (a : Int))) (some (.int .i64 (b : Int))) none).run P w = .ok (.string (txt ((s.data.toList.drop a).take (b - a)))) w := by
  rw [run_slice_string w t s .i64 .i64 (a : Int) (b : Int) h (by omega) (by omega) (by omega), cut_txt]
  simp
theorem take_one {s : ByteArray} {k : Nat} (h : k < s.size) : (s.data.toList.drop k).take (k + 1 - k) = [s[k]] := by
  have h' : k < s.data.toList.length := by rw [len_is]; exact h
  rw [List.drop_eq_getElem_cons h', getK h]
  have : k + 1 - k = 1 := by omega
  rw [this]; rfl
theorem run_one {P : Program} {t : TypeId} {s : ByteArray} {k : Nat} (ht : P.underlying t = some .string) (h : k < s.size) {c : UInt8} (hc : s[k] = c) (w : World) :
    (Instr.slice t (.string s) (some (.int .i64 (k : Int))) (some (.int .i64 ((k : Int) + 1))) none).run P w = .ok (.string (txt [c])) w := by
  have := run_cut (P := P) (t := t) s k (k + 1) ht (by omega) (by omega) w
  rw [take_one h, hc] at this
  exact this
end Go.Proofs.YtehihemfepbmfaaGreatDoor

/-
  Plain: texts in quotes, as JSON has them.
-/
namespace Go.Proofs.YtehihemfepbmfaaGreatDoor
set_option linter.unusedSimpArgs false
set_option linter.unusedVariables false

def quoB (c : UInt8) : List UInt8 :=
  if c = 34 then [92, 34] else if c = 92 then [92, 92] else if c = 8 then [92, 98] else if c = 9 then [92, 116] else if c = 10 then [92, 110] else if c = 12 then [92, 102] else if c = 13 then [92, 114]
  else if c < 32 ∨ c = 127 then [92, 117, 48, 48, hexB (c.toNat / 16), hexB (c.toNat % 16)] else [c]
def quo : List UInt8 → List UInt8
  | [] => []
  | c :: l => quoB c ++ quo l
/-- The text in quotes. -/
def quoT (s : ByteArray) : List UInt8 := 34 :: (quo s.data.toList ++ [34])
theorem quoB_len (c : UInt8) : 1 ≤ (quoB c).length ∧ (quoB c).length ≤ 6 := by
  unfold quoB
  repeat' split
  all_goals simp
theorem quo_app (l m : List UInt8) : quo (l ++ m) = quo l ++ quo m := by
  induction l with
  | nil => rfl
  | cons c l ih => simp [quo, ih]
theorem quo_len (l : List UInt8) : (quo l).length ≤ 6 * l.length := by
  induction l with
  | nil => simp [quo]
  | cons c l ih => have := quoB_len c; simp [quo]; omega
theorem quo_snoc (l : List UInt8) (k : Nat) (h : k < l.length) : quo (l.take (k + 1)) = quo (l.take k) ++ quoB l[k] := by
  rw [List.take_succ_eq_append_getElem h, quo_app]; simp [quo]
theorem quo_take_len (l : List UInt8) (k : Nat) : (quo (l.take k)).length ≤ 6 * l.length := by
  have := quo_len (l.take k); have h2 : (l.take k).length ≤ l.length := by rw [List.length_take]; omega
  omega
theorem quoT_len (s : ByteArray) : 2 ≤ (quoT s).length ∧ (quoT s).length ≤ 6 * s.size + 2 := by
  have h1 : s.data.toList.length = s.size := Array.length_toList
  have h2 := quo_len s.data.toList
  unfold quoT
  simp only [List.length_cons, List.length_append, List.length_nil]
  omega

/-- The place of a byte that has a letter of its own. -/
def quoS : List UInt8 := [34, 92, 8, 9, 10, 12, 13]
def quoL : List UInt8 := [34, 92, 98, 116, 110, 102, 114]
theorem quo_at0 : ∀ n : Fin 256, (∃ i : Fin 7, quoS[i.val]? = some (UInt8.ofNat n.val) ∧ quoB (UInt8.ofNat n.val) = [92, quoL.getD i.val 0]) ∨ ((∀ i : Fin 7, quoS[i.val]? ≠ some (UInt8.ofNat n.val)) ∧ quoB (UInt8.ofNat n.val) = if UInt8.ofNat n.val < 32 ∨ UInt8.ofNat n.val = 127 then [92, 117, 48, 48, hexB (n.val / 16), hexB (n.val % 16)] else [UInt8.ofNat n.val]) := by decide +kernel
end Go.Proofs.YtehihemfepbmfaaGreatDoor

/-
  Plain: numbers as bytes, and MessagePack's bytes of numbers, texts and counts.
-/
namespace Go.Proofs.YtehihemfepbmfaaGreatDoor
set_option linter.unusedSimpArgs false
set_option linter.unusedVariables false

/-- The byte of a number. -/
def byI (n : Int) : UInt8 := UInt8.ofNat (n % 256).toNat
theorem byI_int (n : Int) : ((byI n).toNat : Int) = n % 256 := by
  have h1 : 0 ≤ n % 256 := Int.emod_nonneg _ (by decide)
  have h2 : n % 256 < 256 := Int.emod_lt_of_pos _ (by decide)
  unfold byI
  rw [UInt8.toNat_ofNat_of_lt' (show (n % 256).toNat < 256 by omega)]
  omega
theorem byI_of {x : UInt8} {n : Int} (h : (x.toNat : Int) = n % 256) : x = byI n := UInt8.toNat_inj.1 (by have := byI_int n; omega)
theorem pow256 (k : Nat) : (2 : Int) ^ (8 * k) = 256 ^ k := by rw [Int.pow_mul]; rfl
theorem byI_shift (n : Int) (k : Nat) : n / 2 ^ (8 * k) % 256 = ((byI (n / 256 ^ k)).toNat : Int) := by rw [byI_int, pow256]
/-- A number in so many bytes, the highest first. -/
def bigB (n : Int) : Nat → List UInt8
  | 0 => []
  | m + 1 => byI (n / 256 ^ m) :: bigB n m
theorem bigB_len (n : Int) (m : Nat) : (bigB n m).length = m := by
  induction m with
  | zero => rfl
  | succ m ih => simp [bigB, ih]
def stepI (m : Int) : Nat := if m < 256 then 0 else if m < 65536 then 1 else if m < 4294967296 then 2 else 3
theorem stepI_le (m : Int) : stepI m ≤ 3 := by unfold stepI; split <;> (try split) <;> (try split) <;> omega
def packI (n : Int) : List UInt8 :=
  if -32 ≤ n ∧ n ≤ 127 then [byI n] else if 0 ≤ n then byI (204 + stepI n) :: bigB n (2 ^ stepI n) else byI (208 + stepI (2 * (-1 - n))) :: bigB n (2 ^ stepI (2 * (-1 - n)))
def packW (s : ByteArray) : List UInt8 :=
  if s.size < 32 then byI (160 + s.size) :: s.data.toList else 217 :: (bigB s.size 1 ++ s.data.toList)
def packC (few many : UInt8) (c : Nat) : List UInt8 := if c < 16 then [byI (few.toNat + c)] else many :: bigB c 2
theorem pow_le3 {k : Nat} (h : k ≤ 3) : 2 ^ k ≤ 8 := by
  match k, h with
  | 0, _ => decide
  | 1, _ => decide
  | 2, _ => decide
  | 3, _ => decide
theorem packI_len (n : Int) : 1 ≤ (packI n).length ∧ (packI n).length ≤ 9 := by
  unfold packI
  split
  · simp
  · split
    · simp [bigB_len]; exact pow_le3 (stepI_le _)
    · simp [bigB_len]; exact pow_le3 (stepI_le _)
theorem packW_len (s : ByteArray) : 1 ≤ (packW s).length ∧ (packW s).length ≤ s.size + 2 := by
  have : s.data.toList.length = s.size := Array.length_toList
  unfold packW
  split
  · simp only [List.length_cons, this]; omega
  · simp only [List.length_cons, List.length_append, bigB_len, this]; omega
theorem packC_len (a b : UInt8) (c : Nat) : 1 ≤ (packC a b c).length ∧ (packC a b c).length ≤ 3 := by
  unfold packC
  split
  · simp
  · simp [bigB_len]
theorem byI_add (n k : Int) : byI (n + 256 * k) = byI n := by unfold byI; rw [Int.add_mul_emod_self_left]
theorem bigB_wrap (n : Int) : ∀ m, m ≤ 8 → bigB (n + 18446744073709551616) m = bigB n m := by
  intro m
  induction m with
  | zero => intro _; rfl
  | succ m ih =>
    intro hm
    rw [bigB, bigB, ih (by omega)]
    congr 1
    have hp : (18446744073709551616 : Int) = 256 ^ m * (256 * 256 ^ (7 - m)) := by
      have : m = 0 ∨ m = 1 ∨ m = 2 ∨ m = 3 ∨ m = 4 ∨ m = 5 ∨ m = 6 ∨ m = 7 := by omega
      rcases this with rfl | rfl | rfl | rfl | rfl | rfl | rfl | rfl <;> decide
    have hpos : (256 : Int) ^ m ≠ 0 := Int.pow_ne_zero (by decide)
    rw [hp, Int.add_mul_ediv_left _ _ hpos, byI_add]
end Go.Proofs.YtehihemfepbmfaaGreatDoor
