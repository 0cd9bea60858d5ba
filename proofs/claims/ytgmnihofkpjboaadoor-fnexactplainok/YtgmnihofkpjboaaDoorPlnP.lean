/-
  What a plain text is, over a list of bytes.
-/
import Derived.Lib.Case
import Derived.Lib.Bytealg
namespace Go.Proofs.YtgmnihofkpjboaaDoor
set_option linter.unusedSimpArgs false
set_option linter.unusedVariables false

def letterI (c : Int) : Bool := (decide (97 ≤ c) && decide (c ≤ 122)) || ((decide (65 ≤ c) && decide (c ≤ 90)) || decide (c = 95))
def innerI (c : Int) : Bool := letterI c || ((decide (48 ≤ c) && decide (c ≤ 57)) || (decide (c = 45) || (decide (c = 46) || (decide (c = 47) || decide (c = 32)))))

def extras : List UInt8 := [48, 49, 50, 51, 52, 53, 54, 55, 56, 57, 45, 46, 47, 32]

theorem inner_index (b : UInt8) : innerI (b.toNat : Int) = (letterI (b.toNat : Int) || !decide (Go.Lib.indexByte extras b < 0)) := by
  revert b
  have h : ∀ n : Fin 256, innerI (((UInt8.ofNat n.1).toNat : Nat) : Int) = (letterI (((UInt8.ofNat n.1).toNat : Nat) : Int) || !decide (Go.Lib.indexByte extras (UInt8.ofNat n.1) < 0)) := by decide +kernel
  intro b
  have := h ⟨b.toNat, b.toNat_lt⟩
  simpa using this

theorem inner_ascii (b : UInt8) (h : innerI (b.toNat : Int) = true) : b.toNat < 128 := by
  simp [innerI, letterI] at h
  omega

def words : List (List UInt8) := [[110, 117, 108, 108], [116, 114, 117, 101], [102, 97, 108, 115, 101]]

def byteI (l : List UInt8) (k : Nat) : Int := ((l.getD k 0).toNat : Int)

def plainL (l : List UInt8) : Bool :=
  !l.isEmpty && decide (l.length ≤ 60) && letterI (byteI l 0) && !decide (byteI l (l.length - 1) = 32) && l.all (fun b => innerI (b.toNat : Int)) && !(words.contains (Go.Lib.toLowerA l))

theorem words_is (l : List UInt8) : words.contains l = ((l == [110, 117, 108, 108]) || ((l == [116, 114, 117, 101]) || (l == [102, 97, 108, 115, 101]))) := by
  simp only [words, List.contains_cons, List.contains_nil, Bool.or_false]

theorem all_take_succ (p : UInt8 → Bool) (l : List UInt8) (k : Nat) (b : UInt8) (h : l[k]? = some b) : (l.take (k + 1)).all p = ((l.take k).all p && p b) := by
  rw [List.take_add_one, h]
  simp

theorem plain_bad {l : List UInt8} {k : Nat} {b : UInt8} (h : l[k]? = some b) (hb : innerI (b.toNat : Int) = false) : plainL l = false := by
  have : l.all (fun b => innerI (b.toNat : Int)) = false := by
    rw [List.all_eq_false]
    exact ⟨b, List.mem_of_getElem? h, by simp [hb]⟩
  simp [plainL, this]

end Go.Proofs.YtgmnihofkpjboaaDoor
