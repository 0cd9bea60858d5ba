/-
  The program's YAML: a line is told by what it begins with.
-/
import Derived.Test.YtiamkmkbkehldaaGreatDoorYiC
import Derived.Test.YtiamkmkbkehldaaGreatDoorRdN
import Derived.Test.YtiamkmkbkehldaaGreatDoorPure
import Derived.Test.YtiamkmkbkehldaaGreatDoorRd
import Derived.Test.YtiamkmkbkehldaaGreatDoorRowB
import Derived.Test.YtiamkmkbkehldaaGreatDoorCbP
namespace Go.Proofs.YtiamkmkbkehldaaGreatDoor
open Go.RowKit
set_option linter.unusedSimpArgs false
set_option linter.unusedVariables false

theorem cut_any {s : ByteArray} (c : UInt8) (hs : s.size ≤ 4000) (w' : World) :
    Calls Tryz.prog 90 #[.string s, .string ⟨#[c]⟩] w' fun e w2 => e = .returned (.tuple #[.string (txt (cutB c s.data.toList).1), .string (txt (cutB c s.data.toList).2.1), .bool (cutB c s.data.toList).2.2]) ∧ Below w'.heap.size w' w2 := cut_one s c hs w'

set_option maxRecDepth 100000 in
set_option maxHeartbeats 3200000 in
theorem yamlLineOf_yes {s : ByteArray} {k : Int} {key rest : List UInt8} (hs : s.size ≤ 4000) (hpos : 0 < s.size) (h : lineY s.data.toList = some (k, key, rest)) (ahead : Nat) (w : World) :
    Calls Tryz.prog 92 #[.int .i64 (ahead : Int), .string s] w fun e w' => e = .returned (ylV ⟨ahead, k, key, rest⟩) ∧ Below w.heap.size w w' := by
  have HBX0 := hideB (box_new w)
  have HA : Hid (Below w.heap.size w (w.alloc (.cells #[.int .i64 0, .int .i64 0, .string ⟨#[]⟩, .string ⟨#[]⟩] 128))) := (Below.refl _ _).alloc (Nat.le_refl _) _
  have hz0 : (w.alloc (.cells #[.int .i64 0, .int .i64 0, .string ⟨#[]⟩, .string ⟨#[]⟩] 128)).heap.size = w.heap.size + 1 := by simp
  have HHP := hideIt (fun w => Tryz.strings_HasPrefix s ⟨#[45, 32]⟩ w)
  have e45 : (ByteArray.mk #[45, 32]).data.toList = [45, 32] := rfl
  simp only [e45] at HHP
  have hdl : s.data.toList = s.toList := (ByteArray.toList_eq s).symm
  have hbq : ∀ l : List UInt8, (s.toList == l) = decide (s.data.toList = l) := fun l => by rw [hdl, Bool.eq_iff_iff, beq_iff_eq, decide_eq_true_iff]
  have q45 := hbq [45]
  have HFIN : Hid (∀ w4 a b c d, Below w.heap.size w w4 → Below w.heap.size w ((((w4.setCell ⟨w.heap.size, 0, none⟩ a).setCell ⟨w.heap.size, 1, none⟩ b).setCell ⟨w.heap.size, 2, none⟩ c).setCell ⟨w.heap.size, 3, none⟩ d)) := fun w4 a b c d hb => below_set (below_set (below_set (below_set hb (Nat.le_refl _) _ _) (Nat.le_refl _) _ _) (Nat.le_refl _) _ _) (Nat.le_refl _) _ _
  have hsl : ∀ w, (Instr.slice 9 (.string s) (some (.int .i64 1)) none none).run Tryz.prog w = .ok (.string (txt (s.data.toList.drop 1))) w := fun w => by
    rw [run_slice_string_l w 9 s Tryz.underlying9 .i64 1 (by omega) (by omega), show (1 : Int).toNat = 1 from rfl, from_txt (by omega)]
  clear hbq hdl
  unfold lineY at h
  by_cases c1 : s.data.toList = [45]
  · rw [if_pos (.inl c1)] at h
    simp only [Option.some.injEq, Prod.mk.injEq] at h
    obtain ⟨rfl, rfl, rfl⟩ := h
    rw [decide_eq_true c1] at q45
    rw [ylV_eq]
    simp only [show txt [] = ⟨#[]⟩ from rfl]
    obtain ⟨R, hR⟩ : ∃ R, txt (s.data.toList.drop 1) = R := ⟨_, rfl⟩
    rw [hR] at hsl ⊢
    clear c1 hR HHP
    go_enter Tryz.func92, Tryz.ntmps92
    go_wp2_with fail
    refine bodyPost_ret (v := .agg #[.int .i64 (ahead : Int), .int .i64 5, .string ⟨#[]⟩, .string R]) (by simp [results, Tryz.results92, go_sem]) rfl ?_
    exact ⟨rfl, (Below.refl _ _).alloc (Nat.le_refl _) _⟩
  rw [decide_eq_false c1] at q45
  cases c2 : Lib.hasPrefix s.data.toList [45, 32]
  rotate_left
  · rw [if_pos (.inr c2)] at h
    simp only [Option.some.injEq, Prod.mk.injEq] at h
    obtain ⟨rfl, rfl, rfl⟩ := h
    rw [ylV_eq]
    simp only [show txt [] = ⟨#[]⟩ from rfl]
    obtain ⟨R, hR⟩ : ∃ R, txt (s.data.toList.drop 1) = R := ⟨_, rfl⟩
    rw [hR] at hsl ⊢
    rw [c2] at HHP
    clear c1 c2 hR
    go_enter Tryz.func92, Tryz.ntmps92
    go_wp2_with fail
    refine (HHP.out _).mono ?_
    rintro e w2 ⟨rfl, rfl⟩
    go_wp2_with fail
    refine bodyPost_ret (v := .agg #[.int .i64 (ahead : Int), .int .i64 5, .string ⟨#[]⟩, .string R]) (by simp [results, Tryz.results92, go_sem]) rfl ?_
    exact ⟨rfl, (Below.refl _ _).alloc (Nat.le_refl _) _⟩
  rw [if_neg (by rintro (e | e); exact c1 e; rw [c2] at e; cases e)] at h
  rw [c2] at HHP
  have hb0 : byAt s.data.toList 0 = s[0].toNat := getB hpos
  rw [hb0] at h
  obtain ⟨W0, hW0⟩ : ∃ W0, w.alloc (.cells #[.int .i64 0, .int .i64 0, .string ⟨#[]⟩, .string ⟨#[]⟩] 128) = W0 := ⟨_, rfl⟩
  rw [hW0] at HBX0 HA hz0
  have f0 := Lib.frozen_of_heap HBX0.out 0
  by_cases c3 : s[0].toNat = 34
  · rw [if_pos c3] at h
    have h34 : ((s[0].toNat : Nat) : Int) = 34 := by omega
    have h34' : (((s[0].toNat : Nat) : Int) == 34) = true := by simpa using h34
    have hat : isAt s.data.toList 0 34 = true := isAt_yes.2 ⟨by rw [len_is]; exact hpos, by rw [hb0]; exact c3⟩
    have HQL : Hid (Calls Tryz.prog 156 #[.int .i64 (ahead : Int), .string s] W0 fun e w' => e = .returned (ylV ⟨ahead, k, key, rest⟩) ∧ Below W0.heap.size W0 w') := by
      cases et : txJ s.data.toList 1 with
      | none => simp only [et] at h; cases h
      | some y =>
        obtain ⟨l, q⟩ := y
        simp only [et] at h
        cases e58 : isAt s.data.toList q 58
        · rw [if_neg (by rw [e58]; decide)] at h
          simp only [Option.some.injEq, Prod.mk.injEq] at h
          obtain ⟨rfl, rfl, rfl⟩ := h
          exact quotedLine_none hs hat et e58 ahead W0
        · rw [if_pos e58] at h
          simp only [Option.some.injEq, Prod.mk.injEq] at h
          obtain ⟨rfl, rfl, rfl⟩ := h
          exact quotedLine_key hs hat et e58 ahead W0
    rw [ylV_eq] at HQL ⊢
    obtain ⟨KK, hKK⟩ : ∃ KK, txt key = KK := ⟨_, rfl⟩
    obtain ⟨RR, hRR⟩ : ∃ RR, txt rest = RR := ⟨_, rfl⟩
    simp only [hKK, hRR] at HQL ⊢
    clear c1 c2 c3 h hat hb0 hKK hRR hsl
    go_enter Tryz.func92, Tryz.ntmps92
    go_wp2_with fail
    refine (HHP.out _).mono ?_
    rintro e w2 ⟨rfl, rfl⟩
    go_wp2_with fail
    refine HQL.out.mono ?_
    rintro e w4 ⟨rfl, hb4⟩
    have HBX4 : Hid (LineBox w w4) := (hb4.block w.heap.size (by omega)).trans HBX0.out
    have HB4 := hideB (HA.out.trans (hb4.mono (by omega)))
    have g0 := Lib.frozen_of_heap HBX4.out 0
    have g1 := Lib.frozen_of_heap HBX4.out 1
    have g2 := Lib.frozen_of_heap HBX4.out 2
    have g3 := Lib.frozen_of_heap HBX4.out 3
    have d0 : w4.cell? ⟨w.heap.size, 0, none⟩ = some (.int .i64 0) := cellAt HBX4.out rfl
    have d1 : w4.cell? ⟨w.heap.size, 1, none⟩ = some (.int .i64 0) := cellAt HBX4.out rfl
    have d2 : w4.cell? ⟨w.heap.size, 2, none⟩ = some (.string ⟨#[]⟩) := cellAt HBX4.out rfl
    have d3 : w4.cell? ⟨w.heap.size, 3, none⟩ = some (.string ⟨#[]⟩) := cellAt HBX4.out rfl
    clear hb4
    go_wp2_with fail
    refine bodyPost_ret (v := .agg #[.int .i64 (ahead : Int), .int .i64 k, .string KK, .string RR]) (by simp [results, Tryz.results92, go_sem, d0, d1, d2, d3]) rfl ?_
    exact ⟨rfl, HFIN.out w4 _ _ _ _ HB4.out⟩
  rw [if_neg c3] at h
  have h34 : ¬ ((s[0].toNat : Nat) : Int) = 34 := by omega
  have h34' : (((s[0].toNat : Nat) : Int) == 34) = false := by simpa using h34
  have HCT := hideIt (cut_any (s := s) 58 hs W0)
  by_cases c4 : (58 : UInt8) ∈ s.data.toList
  rotate_left
  · rw [if_pos c4] at h
    simp only [Option.some.injEq, Prod.mk.injEq] at h
    obtain ⟨rfl, rfl, rfl⟩ := h
    rw [cutB, if_neg c4] at HCT
    rw [ylV_eq]
    simp only [show txt [] = ⟨#[]⟩ from rfl, txt_bytes] at HCT ⊢
    clear c1 c2 c3 c4 hb0 hsl
    go_enter Tryz.func92, Tryz.ntmps92
    go_wp2_with fail
    refine (HHP.out _).mono ?_
    rintro e w2 ⟨rfl, rfl⟩
    go_wp2_with fail
    refine HCT.out.mono ?_
    rintro e w4 ⟨rfl, hb4⟩
    have HBX4 : Hid (LineBox w w4) := (hb4.block w.heap.size (by omega)).trans HBX0.out
    have HB4 := hideB (HA.out.trans (hb4.mono (by omega)))
    have g0 := Lib.frozen_of_heap HBX4.out 0
    have g1 := Lib.frozen_of_heap HBX4.out 1
    have g2 := Lib.frozen_of_heap HBX4.out 2
    have g3 := Lib.frozen_of_heap HBX4.out 3
    have d0 : w4.cell? ⟨w.heap.size, 0, none⟩ = some (.int .i64 0) := cellAt HBX4.out rfl
    have d1 : w4.cell? ⟨w.heap.size, 1, none⟩ = some (.int .i64 0) := cellAt HBX4.out rfl
    have d2 : w4.cell? ⟨w.heap.size, 2, none⟩ = some (.string ⟨#[]⟩) := cellAt HBX4.out rfl
    have d3 : w4.cell? ⟨w.heap.size, 3, none⟩ = some (.string ⟨#[]⟩) := cellAt HBX4.out rfl
    clear hb4
    go_wp2_with fail
    refine bodyPost_ret (v := .agg #[.int .i64 (ahead : Int), .int .i64 0, .string ⟨#[]⟩, .string s]) (by simp [results, Tryz.results92, go_sem, d0, d1, d2, d3]) rfl ?_
    exact ⟨rfl, HFIN.out w4 _ _ _ _ HB4.out⟩
  rw [if_neg (by simpa using c4)] at h
  cases c5 : plainL (s.data.toList.takeWhile (· != 58))
  · rw [if_neg (by rw [c5]; decide)] at h; cases h
  rw [if_pos c5] at h
  simp only [Option.some.injEq, Prod.mk.injEq] at h
  obtain ⟨rfl, rfl, rfl⟩ := h
  rw [cutB, if_pos c4] at HCT
  have HPL := hideIt (fun w => iPlain_walk (txt (s.data.toList.takeWhile (· != 58))) w)
  simp only [bytes_txt, c5] at HPL
  rw [ylV_eq]
  obtain ⟨KK, hKK⟩ : ∃ KK, txt (s.data.toList.takeWhile (· != 58)) = KK := ⟨_, rfl⟩
  obtain ⟨RR, hRR⟩ : ∃ RR, txt ((s.data.toList.dropWhile (· != 58)).drop 1) = RR := ⟨_, rfl⟩
  simp only [hKK, hRR] at HCT HPL ⊢
  clear c1 c2 c3 c4 c5 hb0 hsl hKK hRR
  go_enter Tryz.func92, Tryz.ntmps92
  go_wp2_with fail
  refine (HHP.out _).mono ?_
  rintro e w2 ⟨rfl, rfl⟩
  go_wp2_with fail
  refine HCT.out.mono ?_
  rintro e w3 ⟨rfl, hb3⟩
  have HB3 := hideB hb3
  have z3 := hb3.size
  clear hb3
  go_wp2_with fail
  refine (HPL.out w3).mono ?_
  rintro e w4 ⟨rfl, hb4⟩
  have hb4 := HB3.out.trans (hb4.mono z3)
  have HBX4 : Hid (LineBox w w4) := (hb4.block w.heap.size (by omega)).trans HBX0.out
  have HB4 := hideB (HA.out.trans (hb4.mono (by omega)))
  have g0 := Lib.frozen_of_heap HBX4.out 0
  have g1 := Lib.frozen_of_heap HBX4.out 1
  have g2 := Lib.frozen_of_heap HBX4.out 2
  have g3 := Lib.frozen_of_heap HBX4.out 3
  have d0 : w4.cell? ⟨w.heap.size, 0, none⟩ = some (.int .i64 0) := cellAt HBX4.out rfl
  have d1 : w4.cell? ⟨w.heap.size, 1, none⟩ = some (.int .i64 0) := cellAt HBX4.out rfl
  have d2 : w4.cell? ⟨w.heap.size, 2, none⟩ = some (.string ⟨#[]⟩) := cellAt HBX4.out rfl
  have d3 : w4.cell? ⟨w.heap.size, 3, none⟩ = some (.string ⟨#[]⟩) := cellAt HBX4.out rfl
  clear hb4
  go_wp2_with fail
  refine bodyPost_ret (v := .agg #[.int .i64 (ahead : Int), .int .i64 6, .string KK, .string RR]) (by simp [results, Tryz.results92, go_sem, d0, d1, d2, d3]) rfl ?_
  exact ⟨rfl, HFIN.out w4 _ _ _ _ HB4.out⟩
end Go.Proofs.YtiamkmkbkehldaaGreatDoor

/-
  Plain: what a right node says by its kind.
-/
namespace Go.Proofs.YtiamkmkbkehldaaGreatDoor
open Go.RowKit
set_option linter.unusedSimpArgs false
set_option linter.unusedVariables false

theorem rise_at {keys : List ByteArray} (hr : riseB keys = true) {j : Nat} (hj : j < keys.length) : textB (keyAt keys j) = true ∧ (0 < j → lessB (keyAt keys (j - 1)) (keyAt keys j) = true) := by
  have := List.all_eq_true.1 hr j (List.mem_range.2 hj)
  unfold riseAt at this
  simp only [Bool.and_eq_true, Bool.or_eq_true, decide_eq_true_eq] at this
  exact ⟨this.1, fun h => this.2.resolve_left (by omega)⟩
theorem keys_less {keys : List ByteArray} (hr : riseB keys = true) : ∀ d a, a + d + 1 < keys.length → lessB (keyAt keys a) (keyAt keys (a + d + 1)) = true := by
  intro d
  induction d with
  | zero => intro a h; have := (rise_at hr h).2 (by omega); rwa [show a + 0 + 1 - 1 = a by omega] at this
  | succ d ih =>
    intro a h
    have h1 := ih a (by omega)
    have h2 := (rise_at hr h).2 (by omega)
    rw [show a + (d + 1) + 1 - 1 = a + d + 1 by omega] at h2
    exact less_trans h1 h2
theorem range_keys (keys : List ByteArray) : (List.range keys.length).map (keyAt keys) = keys := by
  apply List.ext_getElem?
  intro i
  rw [List.getElem?_map]
  by_cases h : i < keys.length
  · rw [List.getElem?_range h, Option.map_some]
    unfold keyAt
    rw [List.getD_eq_getElem?_getD, List.getElem?_eq_getElem h]; rfl
  · rw [List.getElem?_eq_none (by simp; omega), List.getElem?_eq_none (by omega)]; rfl
theorem range_kids (kids : List VT) : (List.range kids.length).map (kidT kids) = kids := by
  apply List.ext_getElem?
  intro i
  rw [List.getElem?_map]
  by_cases h : i < kids.length
  · rw [List.getElem?_range h, Option.map_some]
    unfold kidT
    rw [List.getD_eq_getElem?_getD, List.getElem?_eq_getElem h]; rfl
  · rw [List.getElem?_eq_none (by simp; omega), List.getElem?_eq_none (by omega)]; rfl
theorem empty_is {s : ByteArray} (h : s.toList = []) : s = ByteArray.empty := by
  exact str_eq (by rw [h, ByteArray.toList_eq]; rfl)
theorem nodeT_says {kind n : Int} {s : ByteArray} {keys : List ByteArray} {m : Nat} (h : nodeT kind n s keys m = true) :
    (kind = 1 ∧ n = 0 ∧ s = ByteArray.empty ∧ keys = [] ∧ m = 0) ∨ (kind = 2 ∧ (n = 0 ∨ n = 1) ∧ s = ByteArray.empty ∧ keys = [] ∧ m = 0) ∨ (kind = 3 ∧ (-1000000000000000 ≤ n ∧ n ≤ 1000000000000000) ∧ s = ByteArray.empty ∧ keys = [] ∧ m = 0) ∨
    (kind = 4 ∧ n = 0 ∧ s.size ≤ 60 ∧ keys = [] ∧ m = 0) ∨ (kind = 5 ∧ n = 0 ∧ s = ByteArray.empty ∧ keys = []) ∨ (kind = 6 ∧ n = 0 ∧ s = ByteArray.empty ∧ keys.length = m ∧ riseB keys = true) := by
  unfold nodeT nodeB unnamedB namedB at h
  simp only [Bool.and_eq_true, List.length_replicate] at h
  obtain ⟨⟨⟨⟨u1, u2⟩, u3⟩, u4⟩, v⟩ := h
  by_cases k1 : kind = 1
  · subst k1; simp at u1 u2 u3 u4; exact .inl ⟨rfl, u1, empty_is u2, u3, u4⟩
  by_cases k2 : kind = 2
  · subst k2; simp at u2 u3 u4 v; exact .inr (.inl ⟨rfl, v, empty_is u2, u3, u4⟩)
  by_cases k3 : kind = 3
  · subst k3; simp at u2 u3 u4 v; exact .inr (.inr (.inl ⟨rfl, v, empty_is u2, u3, u4⟩))
  by_cases k4 : kind = 4
  · subst k4; simp [textB] at u1 u3 u4 v; exact .inr (.inr (.inr (.inl ⟨rfl, u1, v.1, u3, u4⟩)))
  by_cases k5 : kind = 5
  · subst k5; simp at u1 u2 u3; exact .inr (.inr (.inr (.inr (.inl ⟨rfl, u1, empty_is u2, u3⟩))))
  by_cases k6 : kind = 6
  · subst k6; simp at u1 u2 v; exact .inr (.inr (.inr (.inr (.inr ⟨rfl, u1, empty_is u2, v.1, v.2⟩))))
  simp [k1, k2, k3, k4, k5, k6] at v
end Go.Proofs.YtiamkmkbkehldaaGreatDoor

/-
  Plain: YAML's bytes of a tree.
-/
namespace Go.Proofs.YtiamkmkbkehldaaGreatDoor
open Go.RowKit
set_option linter.unusedSimpArgs false
set_option linter.unusedVariables false

def wordY (s : ByteArray) : List UInt8 := if plainL s.data.toList = true then s.data.toList else quoT s
def kidsY : VT → List VT | .mk _ _ _ _ kids => kids
/-- What stands in one line. -/
def flatY : VT → List UInt8 | .mk kind n s keys kids => if kind = 4 then wordY s else jsonT false 1 0 (.mk kind n s keys kids)
def headY (named : Bool) (key : ByteArray) : List UInt8 := if named = true then wordY key ++ [58] else [45]
/-- What stands behind the head of a part's line. -/
def tailY (F : VT → List UInt8) (t : VT) : List UInt8 := if (kidsY t).length = 0 then 32 :: (flatY t ++ [10]) else 10 :: F t
def blkY (F : VT → List UInt8) (named : Bool) (pad : Nat) (keys : List ByteArray) (kids : List VT) : Nat → List UInt8
  | 0 => []
  | k + 1 => blkY F named pad keys kids k ++ (List.replicate pad 32 ++ (headY named (keyAt keys k) ++ tailY F (kidT kids k)))
def blockY : Nat → Nat → VT → List UInt8
  | 0, _, _ => []
  | f + 1, pad, .mk kind n s keys kids => blkY (blockY f (pad + 2)) (decide (kind = 6)) pad keys kids kids.length
def yamlT (f : Nat) (t : VT) : List UInt8 := if (kidsY t).length = 0 then flatY t ++ [10] else blockY f 0 t
theorem blkY_mono (F : VT → List UInt8) (named : Bool) (pad : Nat) (keys : List ByteArray) (kids : List VT) {j k : Nat} (h : j ≤ k) : (blkY F named pad keys kids j).length ≤ (blkY F named pad keys kids k).length := by
  induction k with
  | zero => obtain rfl : j = 0 := by omega
            exact Nat.le_refl _
  | succ k ih =>
    by_cases e : j = k + 1
    · rw [e]; exact Nat.le_refl _
    · have := ih (by omega)
      rw [blkY, List.length_append]; omega
theorem quo_ge (l : List UInt8) : l.length ≤ (quo l).length := by
  induction l with
  | nil => exact Nat.le_refl _
  | cons c l ih => have := quoB_len c; rw [quo, List.length_append, List.length_cons]; omega
theorem wordY_len (s : ByteArray) : (wordY s).length ≤ (quoT s).length := by
  unfold wordY
  split
  · have := quo_ge s.data.toList
    unfold quoT
    simp only [List.length_cons, List.length_append, List.length_nil]; omega
  · exact Nat.le_refl _
theorem flatY_len (f deep : Nat) (t : VT) (h : (kidsY t).length = 0) : (flatY t).length ≤ (jsonT true (f + 1) deep t).length := by
  obtain ⟨kind, n, s, keys, kids⟩ := t
  have hk : kids = [] := List.eq_nil_of_length_eq_zero h
  subst hk
  show (if kind = 4 then wordY s else jsonT false 1 0 (.mk kind n s keys [])).length ≤ _
  have e : ∀ F named d, wholeJ F true named d keys [] = [] := fun F named d => by unfold wholeJ; simp
  have e2 : ∀ F named d, wholeJ F false named d keys [] = [] := fun F named d => by unfold wholeJ; simp
  split
  · rename_i h4
    rw [(jsonT_leaf true f deep).2.2.2.1 h4]
    exact wordY_len s
  · rename_i h4
    rw [jsonT, jsonT, if_neg h4, if_neg h4, e, e, e2, e2]
    split
    · exact Nat.le_refl _
    split
    · exact Nat.le_refl _
    split
    · exact Nat.le_refl _
    split <;> exact Nat.le_refl _
theorem tailY_len {f deep : Nat} {t : VT} (hf : 1 ≤ f) (h : (kidsY t).length ≠ 0 → (blockY f (2 * deep + 2) t).length ≤ (jsonT true f (deep + 1) t).length) : (tailY (blockY f (2 * deep + 2)) t).length ≤ (jsonT true f (deep + 1) t).length + 2 := by
  unfold tailY
  split
  · rename_i h0
    obtain ⟨g, rfl⟩ : ∃ g, f = g + 1 := ⟨f - 1, by omega⟩
    have := flatY_len g (deep + 1) t h0
    simp only [List.length_cons, List.length_append, List.length_nil]; omega
  · rename_i h0
    have := h h0
    rw [List.length_cons]; omega
theorem headY_len (named : Bool) (key : ByteArray) : (headY named key).length + 1 ≤ (if named = true then keyJ true key else []).length + 2 := by
  have := wordY_len key
  unfold headY
  cases named
  · simp
  · unfold keyJ
    simp only [if_true, List.length_append, List.length_cons, List.length_nil]
    omega
theorem blkY_len {f deep : Nat} (hf : 1 ≤ f) {named : Bool} {keys : List ByteArray} {kids : List VT} (h : ∀ j, j < kids.length → (kidsY (kidT kids j)).length ≠ 0 → (blockY f (2 * deep + 2) (kidT kids j)).length ≤ (jsonT true f (deep + 1) (kidT kids j)).length) :
    ∀ k, k ≤ kids.length → (blkY (blockY f (2 * deep + 2)) named (2 * deep) keys kids k).length ≤ (partsJ (jsonT true f (deep + 1)) true named deep keys kids k).length := by
  intro k
  induction k with
  | zero => intro _; exact Nat.le_refl _
  | succ k ih =>
    intro hk
    have h1 := ih (by omega)
    have h2 := tailY_len hf (h k (by omega))
    have h3 := headY_len named (keyAt keys k)
    have h4 : (lineJ true (deep + 1)).length = 2 * (deep + 1) + 1 := by unfold lineJ; simp
    rw [blkY, partsJ]
    simp only [List.length_append, List.length_replicate]
    omega
theorem blockY_len : ∀ (f deep : Nat) (t : VT), goodT f t → (kidsY t).length ≠ 0 → (blockY f (2 * deep) t).length ≤ (jsonT true f deep t).length := by
  intro f
  induction f with
  | zero => intro deep t h; exact h.elim
  | succ f ih =>
    intro deep t h h0
    obtain ⟨kind, n, s, keys, kids⟩ := t
    obtain ⟨h1, h2⟩ := h
    have hf : 1 ≤ f := by
      rcases Nat.eq_zero_or_pos f with e | e
      · subst e
        exact (h2 0 (Nat.pos_of_ne_zero h0)).elim
      · exact e
    have hb := fun named => blkY_len (deep := deep) (named := named) (keys := keys) hf (fun j hj hn => ih (deep + 1) (kidT kids j) (h2 j hj) hn) kids.length (Nat.le_refl _)
    have hl := jsonT_leaf true f deep (kind := kind) (n := n) (s := s) (keys := keys) (kids := kids)
    have h00 : ¬ kids.length = 0 := h0
    have hw : ∀ named, (partsJ (jsonT true f (deep + 1)) true named deep keys kids kids.length).length ≤ (wholeJ (jsonT true f (deep + 1)) true named deep keys kids).length := fun named => by
      unfold wholeJ
      rw [if_neg h00, List.length_append]; omega
    rcases nodeT_says h1 with ⟨_, _, _, _, hm⟩ | ⟨_, _, _, _, hm⟩ | ⟨_, _, _, _, hm⟩ | ⟨_, _, _, _, hm⟩ | ⟨k, _, _, _⟩ | ⟨k, _, _, _, _⟩
    · exact absurd hm h00
    · exact absurd hm h00
    · exact absurd hm h00
    · exact absurd hm h00
    · rw [hl.2.2.2.2.1 k, blockY]
      have e : decide (kind = 6) = false := by simp; omega
      rw [e]
      have h5 := hb false
      have h6 := hw false
      rw [show 2 * deep + 2 = 2 * deep + 2 from rfl]
      simp only [List.length_cons, List.length_append, List.length_nil]
      omega
    · rw [hl.2.2.2.2.2 k, blockY]
      have e : decide (kind = 6) = true := by simp; omega
      rw [e]
      have h5 := hb true
      have h6 := hw true
      simp only [List.length_cons, List.length_append, List.length_nil]
      omega
end Go.Proofs.YtiamkmkbkehldaaGreatDoor
