/-
  The specification's l2Scalar and l2Text: JSON's bytes of a node.
-/
import Derived.Test.YtgikginlgjglfaaDoorSDec
import Derived.Test.YtgikginlgjglfaaDoorSQuo
import Derived.Test.YtgikginlgjglfaaDoorTFt
import Derived.Test.YtgikginlgjglfaaDoorSpc3
namespace Go.Proofs.YtgikginlgjglfaaDoor
open Go.RowKit Go.WideShapes
set_option linter.unusedSimpArgs false
set_option linter.unusedVariables false

set_option maxRecDepth 100000 in
set_option maxHeartbeats 1600000 in
theorem l2Scalar_any (f deep : Nat) (lines : Bool) (kd nn : Int) (ss : ByteArray) (kv iv : Value) (keys : List ByteArray) (kids : List VT) (w : World) (h : kd = 1 ∨ (kd = 2 ∧ 0 ≤ nn ∧ nn ≤ 1) ∨ (kd = 3 ∧ -1000000000000000 ≤ nn ∧ nn ≤ 1000000000000000) ∨ (kd = 4 ∧ ss.size ≤ 60)) :
    Calls Tryd.prog 38 #[.agg #[.int .i64 kd, .int .i64 nn, .string ss, kv, iv]] w fun e w' => e = .returned (.string (txt (jsonT lines (f + 1) deep (.mk kd nn ss keys kids)))) ∧ Below w.heap.size w w' := by
  have HLF := hideIt (jsonT_leaf lines f deep (kind := kd) (n := nn) (s := ss) (keys := keys) (kids := kids))
  rcases h with rfl | ⟨rfl, h0, h1⟩ | ⟨rfl, h0, h1⟩ | ⟨rfl, h1⟩
  · have HE := hideIt (HLF.out.1 rfl)
    go_enter Tryd.func38, Tryd.ntmps38
    go_wp2_with fail
    go_ret
    exact ⟨by rw [HE.out]; rfl, (Below.refl _ _).alloc (Nat.le_refl _) _⟩
  · have HE := hideIt (HLF.out.2.1 rfl)
    rcases (show nn = 0 ∨ nn = 1 by omega) with rfl | rfl
    · go_enter Tryd.func38, Tryd.ntmps38
      go_wp2_with fail
      go_ret
      exact ⟨by rw [HE.out]; rfl, (Below.refl _ _).alloc (Nat.le_refl _) _⟩
    · go_enter Tryd.func38, Tryd.ntmps38
      go_wp2_with fail
      go_ret
      exact ⟨by rw [HE.out]; rfl, (Below.refl _ _).alloc (Nat.le_refl _) _⟩
  · have HE := hideIt (HLF.out.2.2.1 rfl)
    go_enter Tryd.func38, Tryd.ntmps38
    go_wp2_with fail
    refine (l1Dec_any nn _ (by omega) (by omega)).mono ?_
    rintro e w1 ⟨rfl, hb1⟩
    have HB := hideIt (((Below.refl _ _).alloc (Nat.le_refl _) _).trans (hb1.mono (by simp)))
    clear hb1
    go_wp2_with fail
    go_ret
    exact ⟨by rw [HE.out]; rfl, HB.out⟩
  · have HE := hideIt (HLF.out.2.2.2.1 rfl)
    go_enter Tryd.func38, Tryd.ntmps38
    go_wp2_with fail
    refine (sQuo_any ss _ (by omega)).mono ?_
    rintro e w1 ⟨rfl, hb1⟩
    have HB := hideIt (((Below.refl _ _).alloc (Nat.le_refl _) _).trans (hb1.mono (by simp)))
    clear hb1
    go_wp2_with fail
    go_ret
    exact ⟨by rw [HE.out]; rfl, HB.out⟩

/-- The blanks ahead of a line. -/
def marg (deep : Nat) : ByteArray := txt (List.replicate (2 * deep) 32)
theorem marg_size (deep : Nat) : (marg deep).size = 2 * deep := by unfold marg; rw [txt_size]; simp
theorem marg_next (deep : Nat) : marg deep ++ ⟨#[32, 32]⟩ = marg (deep + 1) := by
  unfold marg
  rw [app_txt]
  congr 1
  rw [show 2 * (deep + 1) = 2 * deep + 2 by omega, ← List.replicate_append_replicate]; rfl
theorem line_txt (o : List UInt8) (deep : Nat) : txt o ++ ⟨#[10]⟩ ++ marg deep = txt (o ++ lineJ true deep) := by
  unfold marg lineJ
  rw [app_txt, app_txt, bytes_txt]
  congr 1
  simp
theorem line_txt2 (o : List UInt8) (deep : Nat) : txt o ++ ⟨#[10]⟩ ++ marg deep ++ ⟨#[32, 32]⟩ = txt (o ++ lineJ true (deep + 1)) := by
  rw [ByteArray.append_assoc, marg_next, line_txt]

def opJ (named : Bool) : UInt8 := if named = true then 123 else 91
def endJ (named : Bool) : UInt8 := if named = true then 125 else 93
def kdJ (named : Bool) : Int := if named = true then 6 else 5
theorem jsonT_row (lines named : Bool) (f deep : Nat) (n : Int) (s : ByteArray) (keys : List ByteArray) (kids : List VT) : jsonT lines (f + 1) deep (.mk (kdJ named) n s keys kids) = opJ named :: (wholeJ (jsonT lines f (deep + 1)) lines named deep keys kids ++ [endJ named]) := by
  have h := jsonT_leaf lines f deep (kind := kdJ named) (n := n) (s := s) (keys := keys) (kids := kids)
  cases named
  · exact h.2.2.2.2.1 rfl
  · exact h.2.2.2.2.2 rfl
def SjAll (B : Nat) (vs : List VN) (lines : Bool) (f : Nat) : Prop := ∀ (v : Value) (i deep : Nat) (w : World), NodesAt B w v vs → B ≤ w.heap.size → i < f → i < vs.length → deep + i ≤ 100 →
  Calls Tryd.prog 20 #[v, .int .i64 i, .string (marg deep), .bool lines] w fun e w' => e = .returned (.string (txt (jsonT lines f deep (treeOf vs f i)))) ∧ Below w.heap.size w w'
end Go.Proofs.YtgikginlgjglfaaDoor
