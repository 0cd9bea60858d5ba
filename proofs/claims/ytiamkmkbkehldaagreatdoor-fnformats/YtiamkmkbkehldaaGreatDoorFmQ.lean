/-
  The specification's l3Head: a head.
-/
import Derived.Test.YtiamkmkbkehldaaGreatDoorCbP
import Derived.Test.YtiamkmkbkehldaaGreatDoorSPkW
import Derived.Test.YtiamkmkbkehldaaGreatDoorStepC
import Derived.Test.YtiamkmkbkehldaaGreatDoorPkT
import Derived.Test.YtiamkmkbkehldaaGreatDoorCbT
import Derived.Deep.RegionHeld3
import Derived.Test.YtiamkmkbkehldaaGreatDoorICbT
import Derived.Test.YtiamkmkbkehldaaGreatDoorLowN
import Derived.Test.YtiamkmkbkehldaaGreatDoorSpc3
import Derived.Test.YtiamkmkbkehldaaGreatDoorProg
import Derived.WalkKit
import Derived.Test.YtiamkmkbkehldaaGreatDoorPure
import Derived.Laws.IdiomStrings
import Derived.Below
import Derived.WideShapes
import Derived.Test.YtiamkmkbkehldaaGreatDoorJbP
import Derived.Test.YtiamkmkbkehldaaGreatDoorVAt
import Derived.Test.YtiamkmkbkehldaaGreatDoorFBld
import Derived.Test.YtiamkmkbkehldaaGreatDoorJrV
import Derived.Test.YtiamkmkbkehldaaGreatDoorJbQ
import Derived.Test.YtiamkmkbkehldaaGreatDoorPkY
namespace Go.Proofs.YtiamkmkbkehldaaGreatDoor
open Go.RowKit Go.WideShapes
set_option linter.unusedSimpArgs false
set_option linter.unusedVariables false

end Go.Proofs.YtiamkmkbkehldaaGreatDoor

/-
  The specification's l3Head: a head.
-/
namespace Go.Proofs.YtiamkmkbkehldaaGreatDoor
open Go.RowKit Go.WideShapes
set_option linter.unusedSimpArgs false
set_option linter.unusedVariables false

end Go.Proofs.YtiamkmkbkehldaaGreatDoor

/-
  The specification's l3Head: a head.
-/
namespace Go.Proofs.YtiamkmkbkehldaaGreatDoor
open Go.RowKit Go.WideShapes
set_option linter.unusedSimpArgs false
set_option linter.unusedVariables false

end Go.Proofs.YtiamkmkbkehldaaGreatDoor

/-
  The specification's l3Head: a head.
-/
namespace Go.Proofs.YtiamkmkbkehldaaGreatDoor
open Go.RowKit Go.WideShapes
set_option linter.unusedSimpArgs false
set_option linter.unusedVariables false

end Go.Proofs.YtiamkmkbkehldaaGreatDoor

/-
  The specification's l3Head: a head.
-/
namespace Go.Proofs.YtiamkmkbkehldaaGreatDoor
open Go.RowKit Go.WideShapes
set_option linter.unusedSimpArgs false
set_option linter.unusedVariables false

end Go.Proofs.YtiamkmkbkehldaaGreatDoor

/-
  The specification's l3Head: a head.
-/
namespace Go.Proofs.YtiamkmkbkehldaaGreatDoor
open Go.RowKit Go.WideShapes
set_option linter.unusedSimpArgs false
set_option linter.unusedVariables false

end Go.Proofs.YtiamkmkbkehldaaGreatDoor

/-
  The specification's l3Head, at every number.
-/
namespace Go.Proofs.YtiamkmkbkehldaaGreatDoor
open Go.RowKit Go.WideShapes

end Go.Proofs.YtiamkmkbkehldaaGreatDoor

/-
  The specification's l4Text: the bytes of a node.
-/
namespace Go.Proofs.YtiamkmkbkehldaaGreatDoor
open Go.RowKit Go.WideShapes
set_option linter.unusedSimpArgs false
set_option linter.unusedVariables false

end Go.Proofs.YtiamkmkbkehldaaGreatDoor

/-
  The specification's l3Text: the bytes of a node.
-/
namespace Go.Proofs.YtiamkmkbkehldaaGreatDoor
open Go.RowKit Go.WideShapes
set_option linter.unusedSimpArgs false
set_option linter.unusedVariables false

end Go.Proofs.YtiamkmkbkehldaaGreatDoor

/-
  The program's and the specification's CborText.
-/
namespace Go.Proofs.YtiamkmkbkehldaaGreatDoor
open Go.RowKit
set_option linter.unusedSimpArgs false
set_option linter.unusedVariables false

def cborV (vs : List VN) : List UInt8 := if okB vs = true then cborT vs.length (treeOf vs vs.length (vs.length - 1)) else []
theorem ft_cbor : FT 95 0 := ⟨by kernel_rfl, by decide⟩

set_option maxRecDepth 100000 in
set_option maxHeartbeats 1600000 in
theorem implCbor_any (B : Nat) (v : Value) (vs : List VN) (w : World) (h : NodesAt B w v vs) (hB : B ≤ w.heap.size) :
    Calls Tryz.prog 21 #[v] w fun e w' => e = .returned (.string (txt (cborV vs))) ∧ Below w.heap.size w w' := by
  have HV := hideIt h
  obtain ⟨_, a, cap, rfl, _⟩ := h
  have HP : Hid (cborV vs = if okB vs = true then cborT vs.length (treeOf vs vs.length (vs.length - 1)) else []) := rfl
  go_enter Tryz.func21, Tryz.ntmps21
  go_wp2_with fail
  cases ok1 : okB vs
  · refine (valueOf_no B _ vs _ HV.out hB ok1).mono ?_
    rintro e w1 ⟨rfl, hb1⟩
    rw [ok1] at HP
    go_wp2_with fail
    go_ret
    exact ⟨by rw [HP.out]; rfl, hb1⟩
  · refine (valueOf_yes B _ vs _ HV.out hB ok1).mono ?_
    rintro e w1 ⟨lo1, t, x, rfl, hl1, hl1', hv1, hb1⟩
    have z1 := hb1.size
    obtain ⟨p1, p2, _, p4⟩ := okB_parts ok1
    have ht := ValIs.tree (by omega) p2 p4 p1.2 (by omega) hv1
    have HFIT := hideIt (tfit_of ok1 vs.length (vs.length - 1) (by omega))
    have H16 := hideIt (cborT_16k ok1 (f := vs.length) (i := vs.length - 1) (by omega) (by omega))
    have HPOS : Hid (1 ≤ (cborT vs.length (treeOf vs vs.length (vs.length - 1))).length) := by
      obtain ⟨f, hf⟩ : ∃ f, vs.length = f + 1 := ⟨vs.length - 1, by omega⟩
      have := cborT_pos ok1 f (i := vs.length - 1) (by omega)
      rw [← hf] at this
      exact this
    rw [ok1, if_pos rfl] at HP
    have HB1 := hideIt hb1
    obtain ⟨W2, hW2⟩ : ∃ W2, w1.alloc (.cells #[.pointer none, .slice none 0 0] 95) = W2 := ⟨_, rfl⟩
    have HW2 := hideIt hW2
    have HT2 : Hid (TreeAt w1.heap.size W2 vs.length (treeOf vs vs.length (vs.length - 1)) (.iface t x)) := TreeAt.keep (fun c hc => by rw [← hW2]; exact Below.heap_alloc _ _ _ hc) (Nat.le_refl _) ht
    have HFB : Hid (FB 95 w1.heap.size w1.heap.size [] [] W2) := by
      refine ⟨Nat.le_refl _, .pointer none, .slice none 0 0, .inl rfl, ?_, ?_, by simp [Value.ownBlock]⟩
      · rw [← hW2]; exact heap_alloc_new w1 _
      · exact World.ownsRow_nil _ _ _ _
    have hz2 : w1.heap.size ≤ W2.heap.size := by rw [← hW2]; simp
    have HBW : Hid (Below w1.heap.size w1 W2) := by rw [Hid, ← hW2]; exact (Below.refl _ _).alloc (Nat.le_refl _) _
    clear hv1 p2 p4 hb1 ht hW2
    go_wp2_with fail
    rw [HW2.out]
    refine (cbWrite_any w1.heap.size w1.heap.size ft_cbor vs.length _ _ [] W2 HFB.out HT2.out HFIT.out hz2 (by rw [List.nil_append]; have := H16.out; omega)).mono ?_
    rintro e w3 ⟨rfl, f3, b3, _⟩
    rw [List.nil_append] at f3
    have HF3 := hideIt f3
    have HB3 := hideIt (HBW.out.trans b3)
    clear f3 b3
    go_wp2_with (go_at_call 39; refine (fb_string HF3.out (fun e => by have := HPOS.out; rw [e] at this; simp at this)).mono ?_; rintro e w4 ⟨rfl, b4⟩)
    go_ret
    exact ⟨by rw [HP.out]; rfl, HB1.out.trans ((HB3.out.trans b4).mono z1)⟩

end Go.Proofs.YtiamkmkbkehldaaGreatDoor

/-
  The program's and the specification's PackText.
-/
namespace Go.Proofs.YtiamkmkbkehldaaGreatDoor
open Go.RowKit
set_option linter.unusedSimpArgs false
set_option linter.unusedVariables false

def packV (vs : List VN) : List UInt8 := if okB vs = true then packT vs.length (treeOf vs vs.length (vs.length - 1)) else []
theorem ft_pack : FT 97 0 := ⟨by kernel_rfl, by decide⟩

set_option maxRecDepth 100000 in
set_option maxHeartbeats 1600000 in
theorem implPack_any (B : Nat) (v : Value) (vs : List VN) (w : World) (h : NodesAt B w v vs) (hB : B ≤ w.heap.size) :
    Calls Tryz.prog 22 #[v] w fun e w' => e = .returned (.string (txt (packV vs))) ∧ Below w.heap.size w w' := by
  have HV := hideIt h
  obtain ⟨_, a, cap, rfl, _⟩ := h
  have HP : Hid (packV vs = if okB vs = true then packT vs.length (treeOf vs vs.length (vs.length - 1)) else []) := rfl
  go_enter Tryz.func22, Tryz.ntmps22
  go_wp2_with fail
  cases ok1 : okB vs
  · refine (valueOf_no B _ vs _ HV.out hB ok1).mono ?_
    rintro e w1 ⟨rfl, hb1⟩
    rw [ok1] at HP
    go_wp2_with fail
    go_ret
    exact ⟨by rw [HP.out]; rfl, hb1⟩
  · refine (valueOf_yes B _ vs _ HV.out hB ok1).mono ?_
    rintro e w1 ⟨lo1, t, x, rfl, hl1, hl1', hv1, hb1⟩
    have z1 := hb1.size
    obtain ⟨p1, p2, _, p4⟩ := okB_parts ok1
    have ht := ValIs.tree (by omega) p2 p4 p1.2 (by omega) hv1
    have HFIT := hideIt (tfit_of ok1 vs.length (vs.length - 1) (by omega))
    have H16 := hideIt (packT_16k ok1 (f := vs.length) (i := vs.length - 1) (by omega) (by omega))
    have HPOS : Hid (1 ≤ (packT vs.length (treeOf vs vs.length (vs.length - 1))).length) := by
      obtain ⟨f, hf⟩ : ∃ f, vs.length = f + 1 := ⟨vs.length - 1, by omega⟩
      have := packT_pos ok1 f (i := vs.length - 1) (by omega)
      rw [← hf] at this
      exact this
    rw [ok1, if_pos rfl] at HP
    have HB1 := hideIt hb1
    obtain ⟨W2, hW2⟩ : ∃ W2, w1.alloc (.cells #[.pointer none, .slice none 0 0] 97) = W2 := ⟨_, rfl⟩
    have HW2 := hideIt hW2
    have HT2 : Hid (TreeAt w1.heap.size W2 vs.length (treeOf vs vs.length (vs.length - 1)) (.iface t x)) := TreeAt.keep (fun c hc => by rw [← hW2]; exact Below.heap_alloc _ _ _ hc) (Nat.le_refl _) ht
    have HFB : Hid (FB 97 w1.heap.size w1.heap.size [] [] W2) := by
      refine ⟨Nat.le_refl _, .pointer none, .slice none 0 0, .inl rfl, ?_, ?_, by simp [Value.ownBlock]⟩
      · rw [← hW2]; exact heap_alloc_new w1 _
      · exact World.ownsRow_nil _ _ _ _
    have hz2 : w1.heap.size ≤ W2.heap.size := by rw [← hW2]; simp
    have HBW : Hid (Below w1.heap.size w1 W2) := by rw [Hid, ← hW2]; exact (Below.refl _ _).alloc (Nat.le_refl _) _
    clear hv1 p2 p4 hb1 ht hW2
    go_wp2_with fail
    rw [HW2.out]
    refine (write_any w1.heap.size w1.heap.size ft_pack vs.length _ _ [] W2 HFB.out HT2.out HFIT.out hz2 (by rw [List.nil_append]; have := H16.out; omega)).mono ?_
    rintro e w3 ⟨rfl, f3, b3, _⟩
    rw [List.nil_append] at f3
    have HF3 := hideIt f3
    have HB3 := hideIt (HBW.out.trans b3)
    clear f3 b3
    go_wp2_with (go_at_call 39; refine (fb_string HF3.out (fun e => by have := HPOS.out; rw [e] at this; simp at this)).mono ?_; rintro e w4 ⟨rfl, b4⟩)
    go_ret
    exact ⟨by rw [HP.out]; rfl, HB1.out.trans ((HB3.out.trans b4).mono z1)⟩

end Go.Proofs.YtiamkmkbkehldaaGreatDoor

/-
  The letters: what the two functions that ask for a letter answer.
-/
namespace Go.Proofs.YtiamkmkbkehldaaGreatDoor
open Go.RowKit
set_option linter.unusedSimpArgs false
set_option linter.unusedVariables false

set_option maxRecDepth 100000 in
theorem beginsPlain_walk (c : Int) (w : World) : Calls Tryz.prog 179 #[.int .u8 c] w fun e w' => e = .returned (.bool (letterI c)) ∧ w' = w := by
  go_enter Tryz.func179, Tryz.ntmps179
  go_wp2
  all_goals (go_ret; refine ⟨?_, rfl⟩; show Ending.returned (Value.bool _) = _; congr 2; rw [Bool.eq_iff_iff]; simp [letterI]; omega)
end Go.Proofs.YtiamkmkbkehldaaGreatDoor

/-
  The specification's l5Lower: a text with small letters.
-/
namespace Go.Proofs.YtiamkmkbkehldaaGreatDoor
open Go.RowKit Go.WideShapes
set_option linter.unusedSimpArgs false
set_option linter.unusedVariables false


def lowAt (l : List UInt8) (k j : Nat) : Int := ((if j < k then Go.Lib.lowerB (l.getD j 0) else l.getD j 0).toNat : Int)

/-- The row: its first 'k' bytes turned, the others as they were. -/
structure LowRow (l : List UInt8) (b k : Nat) (w wr : World) : Prop where
  bel : Below b w wr
  cells : ∀ j, j < l.length → wr.cell? ⟨b, j, none⟩ = some (.int .u8 (lowAt l k j))
  free : ∀ j, j < l.length → wr.frozen? ⟨b, j, none⟩ = false

theorem LowRow.keep {l : List UInt8} {b k : Nat} {w wr : World} (h : LowRow l b k w wr) (hk : Go.Lib.isUpperB (l.getD k 0) = false) : LowRow l b (k + 1) w wr := by
  refine ⟨h.bel, fun j hj => ?_, h.free⟩
  rw [h.cells j hj]
  unfold lowAt
  by_cases e : j = k
  · subst e
    rw [if_neg (by omega), if_pos (by omega), Go.Lib.lowerB_of_not _ hk]
  · by_cases e2 : j < k
    · rw [if_pos e2, if_pos (by omega)]
    · rw [if_neg e2, if_neg (by omega)]

theorem LowRow.turn {l : List UInt8} {b k : Nat} {w wr : World} (h : LowRow l b k w wr) (hlt : k < l.length) (hk : Go.Lib.isUpperB (l.getD k 0) = true) :
    LowRow l b (k + 1) w (wr.setCell ⟨b, k, none⟩ (.int .u8 (((l.getD k 0).toNat : Int) + 32))) := by
  refine ⟨h.bel.setCell (Nat.le_refl _) _, fun j hj => ?_, fun j hj => ?_⟩
  · by_cases e : j = k
    · subst e
      rw [World.cell?_setCell_same _ _ _ (h.cells j hj)]
      unfold lowAt
      rw [if_pos (by omega), ← Go.Lib.lowerB_int _ hk]
    · rw [World.cell?_setCell_other _ _ _ _ (by intro e'; cases e'; exact e rfl), h.cells j hj]
      unfold lowAt
      by_cases e2 : j < k
      · rw [if_pos e2, if_pos (by omega)]
      · rw [if_neg e2, if_neg (by omega)]
  · rw [World.frozen?_setCell]; exact h.free j hj

end Go.Proofs.YtiamkmkbkehldaaGreatDoor

/-
  The specification's PlainOk.
-/
namespace Go.Proofs.YtiamkmkbkehldaaGreatDoor
open Go.RowKit
set_option linter.unusedSimpArgs false
set_option linter.unusedVariables false

theorem ret_bl {x y : Bool} (h : x = y) : Ending.returned (.bool x) = Ending.returned (.bool y) := by rw [h]



theorem byteI_at {s : ByteArray} {k : Nat} (h : k < s.size) : byteI s.data.toList k = ((s[k]'h).toNat : Int) := by
  have hb : s.data.toList[k]? = some (s[k]'h) := by
    rw [Array.getElem?_toList]
    exact Array.getElem?_eq_getElem h
  simp [byteI, List.getD, hb]

end Go.Proofs.YtiamkmkbkehldaaGreatDoor

/-
  The specification's YamlText.
-/
namespace Go.Proofs.YtiamkmkbkehldaaGreatDoor
open Go.RowKit Go.WideShapes
set_option linter.unusedSimpArgs false
set_option linter.unusedVariables false

theorem blockY_none {f pad : Nat} {t : VT} (h : (kidsY t).length = 0) : blockY f pad t = [] := by
  cases f with
  | zero => rfl
  | succ f =>
    obtain ⟨kind, n, s, keys, kids⟩ := t
    have e : kids = [] := List.eq_nil_of_length_eq_zero h
    subst e
    rfl
theorem jsonT_96k {vs : List VN} (hok : okB vs = true) {f deep i : Nat} (hi : i < vs.length) (hf : i < f) (hd : deep + i ≤ 100) : (jsonT true f deep (treeOf vs f i)).length ≤ 96000 := by
  obtain ⟨p1, _⟩ := okB_parts hok
  have h1 := jsonT_le hok true f deep i 0 hi hf hd
  have h2 := lay_part hok hf hi
  rw [h2.1] at h1
  have := h2.2
  omega
theorem blockY_96k {vs : List VN} (hok : okB vs = true) {f deep i : Nat} (hi : i < vs.length) (hf : i < f) (hd : deep + i ≤ 100) : (blockY f (2 * deep) (treeOf vs f i)).length ≤ 96000 := by
  by_cases h0 : (kidsY (treeOf vs f i)).length = 0
  · rw [blockY_none h0]; exact Nat.zero_le _
  · exact Nat.le_trans (blockY_len f deep _ (good_tree hok f i hi hf) h0) (jsonT_96k hok hi hf hd)
theorem flatY_96k {vs : List VN} (hok : okB vs = true) {f i : Nat} (hi : i < vs.length) (hf : i < f) (hd : i ≤ 100) (h0 : (kidsY (treeOf vs f i)).length = 0) : (flatY (treeOf vs f i)).length ≤ 96000 := by
  obtain ⟨g, rfl⟩ : ∃ g, f = g + 1 := ⟨f - 1, by omega⟩
  exact Nat.le_trans (flatY_len g 0 _ h0) (jsonT_96k hok hi hf (by omega))
end Go.Proofs.YtiamkmkbkehldaaGreatDoor

/-
  The specification's YamlText.
-/
namespace Go.Proofs.YtiamkmkbkehldaaGreatDoor
open Go.RowKit Go.WideShapes
set_option linter.unusedSimpArgs false
set_option linter.unusedVariables false

def yamlV (vs : List VN) : List UInt8 := if okB vs = true then yamlT vs.length (treeOf vs vs.length (vs.length - 1)) else []
theorem yamlV_yes {vs : List VN} (h : okB vs = true) : yamlV vs = yamlT vs.length (treeOf vs vs.length (vs.length - 1)) := by unfold yamlV; rw [if_pos h]
theorem yamlV_no {vs : List VN} (h : okB vs = false) : yamlV vs = [] := by unfold yamlV; rw [h]; rfl

end Go.Proofs.YtiamkmkbkehldaaGreatDoor

/-
  Plain: two right values are the same just where their bytes are, in each of the formats.
-/
namespace Go.Proofs.YtiamkmkbkehldaaGreatDoor
open Go.RowKit
set_option linter.unusedSimpArgs false
set_option linter.unusedVariables false

theorem same_tree {vs us : List VN} (h1 : okB vs = true) (h2 : okB us = true) (h : treeOf vs vs.length (vs.length - 1) = treeOf us us.length (us.length - 1)) : vs = us := by
  have a1 := whole_lay h1
  have a2 := whole_lay h2
  obtain ⟨p1, _⟩ := okB_parts h1
  obtain ⟨p2, _⟩ := okB_parts h2
  have g1 := (good_tree h1 vs.length (vs.length - 1) (by omega) (by omega)).full
  have g2 := (good_tree h2 us.length (us.length - 1) (by omega) (by omega)).full
  rw [h] at a1 g1
  rcases Nat.le_total vs.length us.length with hle | hle
  · exact (a2.symm.trans ((layT_more g1 hle 0).trans a1)).symm
  · exact a1.symm.trans ((layT_more g2 hle 0).trans a2)
theorem json_tree {ns : List VN} {lines : Bool} (hok : okB ns = true) {g : Nat} (hg : ns.length ≤ g) : ∃ q, rdJ (jsonV lines ns) g 0 = some (treeOf ns ns.length (ns.length - 1), q) := by
  obtain ⟨p1, _⟩ := okB_parts hok
  have hgt := good_tree hok ns.length (ns.length - 1) (by omega) (by omega)
  rw [jsonV_yes hok]
  obtain ⟨T, hT⟩ : ∃ T, jsonT lines ns.length 0 (treeOf ns ns.length (ns.length - 1)) = T := ⟨_, rfl⟩
  obtain ⟨L, hL⟩ : ∃ L, jsonT lines ns.length 0 (treeOf ns ns.length (ns.length - 1)) ++ (if lines = true then [10] else []) = L := ⟨_, rfl⟩
  rw [hL]
  have hL2 : L = T ++ (if lines = true then [10] else []) := by rw [← hL, hT]
  have hsit0 : Sit L 0 (T ++ (if lines = true then [10] else [])) := ⟨Nat.zero_le _, [], by rw [List.drop_zero, hL2, List.append_nil]⟩
  have hsit : Sit L 0 (jsonT lines ns.length 0 (treeOf ns ns.length (ns.length - 1))) := by rw [hT]; exact hsit0.left
  have hnd : NoDig L (0 + (jsonT lines ns.length 0 (treeOf ns ns.length (ns.length - 1))).length) := by
    rw [hT, Nat.zero_add]
    cases lines
    · intro e; have := e.1; rw [hL2] at this; simp at this
    · have h1 := hsit0.right
      rw [Nat.zero_add] at h1
      have h2 := Sit.one (x := 10) (B := []) h1
      exact nodig_of (by rw [h2.2]; rfl)
  exact ⟨_, (read_json (L := L) lines ns.length g 0 _ hg hgt 0 hsit).2 hnd⟩
theorem json_inj {vs us : List VN} {lines : Bool} (h1 : okB vs = true) (h2 : okB us = true) (h : jsonV lines vs = jsonV lines us) : vs = us := by
  obtain ⟨q1, e1⟩ := json_tree (lines := lines) h1 (g := vs.length + us.length) (by omega)
  obtain ⟨q2, e2⟩ := json_tree (lines := lines) h2 (g := vs.length + us.length) (by omega)
  rw [h, e2] at e1
  simp only [Option.some.injEq, Prod.mk.injEq] at e1
  exact same_tree h1 h2 e1.1.symm
theorem sit_all (A : List UInt8) : Sit A 0 A := by have := sit_zero A []; rwa [List.append_nil] at this
theorem cbor_inj {vs us : List VN} (h1 : okB vs = true) (h2 : okB us = true) (h : cborV vs = cborV us) : vs = us := by
  have key : ∀ ns : List VN, okB ns = true → ∀ g, ns.length ≤ g → ∃ q, rdC (cborV ns) g 0 = some (treeOf ns ns.length (ns.length - 1), q) := fun ns hok g hg => by
    obtain ⟨p1, _⟩ := okB_parts hok
    have hgt := good_tree hok ns.length (ns.length - 1) (by omega) (by omega)
    have hv : cborV ns = cborT ns.length (treeOf ns ns.length (ns.length - 1)) := by unfold cborV; rw [if_pos hok]
    have hz := cborT_16k hok (f := ns.length) (i := ns.length - 1) (by omega) (by omega)
    rw [← hv] at hz
    exact ⟨_, read_cbor (by omega) ns.length g _ 0 hg hgt (by rw [← hv]; exact sit_all _)⟩
  obtain ⟨q1, e1⟩ := key vs h1 (vs.length + us.length) (by omega)
  obtain ⟨q2, e2⟩ := key us h2 (vs.length + us.length) (by omega)
  rw [h, e2] at e1
  simp only [Option.some.injEq, Prod.mk.injEq] at e1
  exact same_tree h1 h2 e1.1.symm
theorem pack_inj {vs us : List VN} (h1 : okB vs = true) (h2 : okB us = true) (h : packV vs = packV us) : vs = us := by
  have key : ∀ ns : List VN, okB ns = true → ∀ g, ns.length ≤ g → ∃ q, rdP (packV ns) g 0 = some (treeOf ns ns.length (ns.length - 1), q) := fun ns hok g hg => by
    obtain ⟨p1, _⟩ := okB_parts hok
    have hgt := good_tree hok ns.length (ns.length - 1) (by omega) (by omega)
    have hv : packV ns = packT ns.length (treeOf ns ns.length (ns.length - 1)) := by unfold packV; rw [if_pos hok]
    have hz := packT_16k hok (f := ns.length) (i := ns.length - 1) (by omega) (by omega)
    rw [← hv] at hz
    exact ⟨_, read_pack (by omega) ns.length g _ 0 hg hgt (by rw [← hv]; exact sit_all _)⟩
  obtain ⟨q1, e1⟩ := key vs h1 (vs.length + us.length) (by omega)
  obtain ⟨q2, e2⟩ := key us h2 (vs.length + us.length) (by omega)
  rw [h, e2] at e1
  simp only [Option.some.injEq, Prod.mk.injEq] at e1
  exact same_tree h1 h2 e1.1.symm
theorem yaml_inj {vs us : List VN} (h1 : okB vs = true) (h2 : okB us = true) (h : yamlV vs = yamlV us) : vs = us := by
  obtain ⟨p1, _⟩ := okB_parts h1
  obtain ⟨p2, _⟩ := okB_parts h2
  have e1 := read_yaml (good_tree h1 vs.length (vs.length - 1) (by omega) (by omega))
  have e2 := read_yaml (good_tree h2 us.length (us.length - 1) (by omega) (by omega))
  rw [yamlV_yes h1, yamlV_yes h2] at h
  rw [h, e2] at e1
  simp only [Option.some.injEq] at e1
  exact same_tree h1 h2 e1.symm
theorem fmt_eq {A B : List UInt8} {vs us : List VN} {X : Int} (hi : A = B → vs = us) (he : vs = us → A = B) (hx : vs = us ↔ X = 0) : ((txt A).toList == (txt B).toList) = (X == 0) := by
  rw [Bool.eq_iff_iff, beq_iff_eq, beq_iff_eq, ← hx]
  constructor
  · intro h
    refine hi (txt_inj (str_eq ?_))
    rw [h]; simp
  · intro h
    rw [he h]
end Go.Proofs.YtiamkmkbkehldaaGreatDoor
