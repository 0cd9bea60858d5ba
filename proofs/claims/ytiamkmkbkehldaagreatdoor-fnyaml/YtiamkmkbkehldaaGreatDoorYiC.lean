/-
  The program's YAML: what a line says.
-/
import Derived.Test.YtiamkmkbkehldaaGreatDoorYiS
namespace Go.Proofs.YtiamkmkbkehldaaGreatDoor
open Go.RowKit
set_option linter.unusedSimpArgs false
set_option linter.unusedVariables false

/-- A line as the program has it. -/
def ylV (x : YL) : Value := .agg #[.int .i64 (x.ahead : Int), .int .i64 x.kind, .string (txt x.key), .string (txt x.rest)]

theorem ylV_eq (x : YL) : ylV x = .agg #[.int .i64 (x.ahead : Int), .int .i64 x.kind, .string (txt x.key), .string (txt x.rest)] := rfl
/-- The place of the answer: four cells that nothing has touched. -/
def LineBox (w w' : World) : Prop := w'.heap[w.heap.size]? = some (.cells #[.int .i64 0, .int .i64 0, .string ⟨#[]⟩, .string ⟨#[]⟩] 128 (0, 0))
theorem box_new (w : World) : LineBox w (w.alloc (.cells #[.int .i64 0, .int .i64 0, .string ⟨#[]⟩, .string ⟨#[]⟩] 128)) := heap_alloc_new w _
theorem below_set {B b : Nat} {w w' : World} (h : Below B w w') (hb : B ≤ b) (j : Nat) (v : Value) : Below B w (w'.setCell ⟨b, j, none⟩ v) :=
  ⟨h.os, h.tape, h.output, by simpa using h.size, fun c hc => (Below.heap_setCell _ _ _ _ (by show c ≠ b; omega)).trans (h.block c hc)⟩
theorem from_txt {s : ByteArray} {a : Nat} (h : a ≤ s.size) : s.extract a s.size = txt (s.data.toList.drop a) := by
  rw [cut_txt, List.take_of_length_le (by rw [List.length_drop, len_is]; omega)]

set_option maxRecDepth 100000 in
set_option maxHeartbeats 1600000 in
theorem quotedLine_key {s : ByteArray} {l : List UInt8} {q : Nat} (hs : s.size ≤ 4000) (h0 : isAt s.data.toList 0 34 = true) (ht : txJ s.data.toList 1 = some (l, q)) (hq : isAt s.data.toList q 58 = true) (ahead : Nat) (w : World) :
    Calls Tryz.prog 156 #[.int .i64 (ahead : Int), .string s] w fun e w' => e = .returned (ylV ⟨ahead, 6, l, s.data.toList.drop (q + 1)⟩) ∧ Below w.heap.size w w' := by
  have HBX0 := hideB (box_new w)
  have HA : Hid (Below w.heap.size w (w.alloc (.cells #[.int .i64 0, .int .i64 0, .string ⟨#[]⟩, .string ⟨#[]⟩] 128))) := (Below.refl _ _).alloc (Nat.le_refl _) _
  have hz0 : (w.alloc (.cells #[.int .i64 0, .int .i64 0, .string ⟨#[]⟩, .string ⟨#[]⟩] 128)).heap.size = w.heap.size + 1 := by simp
  have HNS := hideB (fun w => gSign_any s ⟨#[]⟩ w)
  have H0 := hideB h0
  have HT := hideB ht
  obtain ⟨q1, q2⟩ := isAt_yes.1 hq
  rw [len_is] at q1
  have HQ := hideB q2
  have HLN : Hid (s.extract (q + 1) s.size = txt (s.data.toList.drop (q + 1))) := from_txt (by omega)
  obtain ⟨K, hK⟩ : ∃ K, txt l = K := ⟨_, rfl⟩
  obtain ⟨R, hR⟩ : ∃ R, txt (s.data.toList.drop (q + 1)) = R := ⟨_, rfl⟩
  rw [ylV_eq]
  simp only [hK, hR]
  rw [hR] at HLN
  have HKK := hideB hK
  have hsl : ∀ w, (Instr.slice 9 (.string s) (some (.int .i64 ((q : Int) + 1))) none none).run Tryz.prog w = .ok (.string R) w := fun w => by
    rw [run_slice_string_l w 9 s Tryz.underlying9 .i64 ((q : Int) + 1) (by omega) (by omega), show ((q : Int) + 1).toNat = q + 1 by omega, HLN.out]
  clear h0 ht hq q2 hK hR
  go_enter Tryz.func156, Tryz.ntmps156
  go_wp2_with fail
  refine (HNS.out _).mono ?_
  rintro e w1 ⟨rfl, hb1⟩
  have HB1 := hideB (HA.out.trans (hb1.mono (by omega)))
  have hw1 : w.heap.size + 1 ≤ w1.heap.size := by rw [← hz0]; exact hb1.size
  have HBX1 : Hid (LineBox w w1) := (hb1.block w.heap.size (by omega)).trans HBX0.out
  clear hb1
  have HC := hideIt (gText_any (sg_new w1 s ⟨#[]⟩ 227) hs)
  have HBA : Hid (Below w1.heap.size w1 (w1.alloc (.cells #[.string s, .int .i64 0, .string ⟨#[]⟩] 227))) := (Below.refl _ _).alloc (Nat.le_refl _) _
  have hz1 : (w1.alloc (.cells #[.string s, .int .i64 0, .string ⟨#[]⟩] 227)).heap.size = w1.heap.size + 1 := by simp
  go_wp2_with fail
  refine HC.out.mono ?_
  rintro e w3 ⟨⟨l', q', a1, a2, rfl, hs3⟩ | ⟨hno, rfl⟩, hb3⟩
  rotate_left
  · exfalso
    rcases hno with hno | hno
    · rw [H0.out] at hno; cases hno
    · rw [HT.out] at hno; cases hno
  rw [HT.out] at a2
  simp only [Option.some.injEq, Prod.mk.injEq] at a2
  obtain ⟨rfl, rfl⟩ := a2
  rw [HKK.out]
  have HPK := hideB (peek_any hs3.br (by omega))
  rw [HQ.out] at HPK
  have HB3 : Hid (Below w1.heap.size w1 w3) := HBA.out.trans ((hb3.below (by omega)).mono (Nat.le_refl _))
  have HS3 := hideB hs3
  have z3 := HB3.out.size
  have HBX3 : Hid (LineBox w w3) := (HB3.out.block w.heap.size (by omega)).trans HBX1.out
  clear a1 hs3 hb3
  go_wp2_with fail
  refine HPK.out.mono ?_
  rintro e w4 ⟨rfl, hb4⟩
  have HB4 := hideB (HB1.out.trans ((HB3.out.trans (hb4.mono z3)).mono (by omega)))
  have k1 := (HS3.out.below hb4).br.place
  have HBX4 : Hid (LineBox w w4) := (hb4.block w.heap.size (by omega)).trans HBX3.out
  have f0 := Lib.frozen_of_heap HBX4.out 0
  have f1 := Lib.frozen_of_heap HBX4.out 1
  have f2 := Lib.frozen_of_heap HBX4.out 2
  have f3 := Lib.frozen_of_heap HBX4.out 3
  have c0 : w4.cell? ⟨w.heap.size, 0, none⟩ = some (.int .i64 0) := cellAt HBX4.out rfl
  have c1 : w4.cell? ⟨w.heap.size, 1, none⟩ = some (.int .i64 0) := cellAt HBX4.out rfl
  have c2 : w4.cell? ⟨w.heap.size, 2, none⟩ = some (.string ⟨#[]⟩) := cellAt HBX4.out rfl
  have c3 : w4.cell? ⟨w.heap.size, 3, none⟩ = some (.string ⟨#[]⟩) := cellAt HBX4.out rfl
  clear hb4
  go_wp2_with fail
  refine bodyPost_ret (v := .agg #[.int .i64 (ahead : Int), .int .i64 6, .string K, .string R]) (by simp [results, Tryz.results156, go_sem, c0, c1, c2, c3]) rfl ?_
  exact ⟨rfl, below_set (below_set (below_set (below_set HB4.out (Nat.le_refl _) _ _) (Nat.le_refl _) _ _) (Nat.le_refl _) _ _) (Nat.le_refl _) _ _⟩
set_option maxRecDepth 100000 in
set_option maxHeartbeats 1600000 in
theorem quotedLine_none {s : ByteArray} {l : List UInt8} {q : Nat} (hs : s.size ≤ 4000) (h0 : isAt s.data.toList 0 34 = true) (ht : txJ s.data.toList 1 = some (l, q)) (hq : isAt s.data.toList q 58 = false) (ahead : Nat) (w : World) :
    Calls Tryz.prog 156 #[.int .i64 (ahead : Int), .string s] w fun e w' => e = .returned (ylV ⟨ahead, 0, [], s.data.toList⟩) ∧ Below w.heap.size w w' := by
  have HBX0 := hideB (box_new w)
  have HA : Hid (Below w.heap.size w (w.alloc (.cells #[.int .i64 0, .int .i64 0, .string ⟨#[]⟩, .string ⟨#[]⟩] 128))) := (Below.refl _ _).alloc (Nat.le_refl _) _
  have hz0 : (w.alloc (.cells #[.int .i64 0, .int .i64 0, .string ⟨#[]⟩, .string ⟨#[]⟩] 128)).heap.size = w.heap.size + 1 := by simp
  have HNS := hideB (fun w => gSign_any s ⟨#[]⟩ w)
  have H0 := hideB h0
  have HT := hideB ht
  have q2 : byAt s.data.toList q ≠ 58 := by
    intro e
    by_cases hl : q < s.data.toList.length
    · exact (isAt_no.1 hq) ⟨hl, e⟩
    · rw [byAt_past (by omega)] at e; cases e
  obtain ⟨Q, hQ⟩ : ∃ Q, byAt s.data.toList q = Q := ⟨_, rfl⟩
  rw [hQ] at q2
  have HQ := hideB hQ
  have hq58 : ¬ (Q : Int) = 58 := by omega
  have hq58' : ((Q : Int) != 58) = true := by simpa using hq58
  obtain ⟨K, hK⟩ : ∃ K, txt l = K := ⟨_, rfl⟩
  have e0 : txt [] = ⟨#[]⟩ := rfl
  rw [ylV_eq]
  simp only [txt_bytes, e0]
  have HKK := hideB hK
  clear h0 ht hq q2 hK hQ e0
  go_enter Tryz.func156, Tryz.ntmps156
  go_wp2_with fail
  refine (HNS.out _).mono ?_
  rintro e w1 ⟨rfl, hb1⟩
  have HB1 := hideB (HA.out.trans (hb1.mono (by omega)))
  have hw1 : w.heap.size + 1 ≤ w1.heap.size := by rw [← hz0]; exact hb1.size
  have HBX1 : Hid (LineBox w w1) := (hb1.block w.heap.size (by omega)).trans HBX0.out
  clear hb1
  have HC := hideIt (gText_any (sg_new w1 s ⟨#[]⟩ 227) hs)
  have HBA : Hid (Below w1.heap.size w1 (w1.alloc (.cells #[.string s, .int .i64 0, .string ⟨#[]⟩] 227))) := (Below.refl _ _).alloc (Nat.le_refl _) _
  have hz1 : (w1.alloc (.cells #[.string s, .int .i64 0, .string ⟨#[]⟩] 227)).heap.size = w1.heap.size + 1 := by simp
  go_wp2_with fail
  refine HC.out.mono ?_
  rintro e w3 ⟨⟨l', q', a1, a2, rfl, hs3⟩ | ⟨hno, rfl⟩, hb3⟩
  rotate_left
  · exfalso
    rcases hno with hno | hno
    · rw [H0.out] at hno; cases hno
    · rw [HT.out] at hno; cases hno
  rw [HT.out] at a2
  simp only [Option.some.injEq, Prod.mk.injEq] at a2
  obtain ⟨rfl, rfl⟩ := a2
  rw [HKK.out]
  have HPK := hideB (peek_any hs3.br (by omega))
  rw [HQ.out] at HPK
  have HB3 : Hid (Below w1.heap.size w1 w3) := HBA.out.trans ((hb3.below (by omega)).mono (Nat.le_refl _))
  have HS3 := hideB hs3
  have z3 := HB3.out.size
  have HBX3 : Hid (LineBox w w3) := (HB3.out.block w.heap.size (by omega)).trans HBX1.out
  clear a1 hs3 hb3
  go_wp2_with fail
  refine HPK.out.mono ?_
  rintro e w4 ⟨rfl, hb4⟩
  have HB4 := hideB (HB1.out.trans ((HB3.out.trans (hb4.mono z3)).mono (by omega)))
  have k1 := (HS3.out.below hb4).br.place
  have HBX4 : Hid (LineBox w w4) := (hb4.block w.heap.size (by omega)).trans HBX3.out
  have f0 := Lib.frozen_of_heap HBX4.out 0
  have f1 := Lib.frozen_of_heap HBX4.out 1
  have f2 := Lib.frozen_of_heap HBX4.out 2
  have f3 := Lib.frozen_of_heap HBX4.out 3
  have c0 : w4.cell? ⟨w.heap.size, 0, none⟩ = some (.int .i64 0) := cellAt HBX4.out rfl
  have c1 : w4.cell? ⟨w.heap.size, 1, none⟩ = some (.int .i64 0) := cellAt HBX4.out rfl
  have c2 : w4.cell? ⟨w.heap.size, 2, none⟩ = some (.string ⟨#[]⟩) := cellAt HBX4.out rfl
  have c3 : w4.cell? ⟨w.heap.size, 3, none⟩ = some (.string ⟨#[]⟩) := cellAt HBX4.out rfl
  clear hb4
  go_wp2_with fail
  refine bodyPost_ret (v := .agg #[.int .i64 (ahead : Int), .int .i64 0, .string ⟨#[]⟩, .string s]) (by simp [results, Tryz.results156, go_sem, c0, c1, c2, c3]) rfl ?_
  exact ⟨rfl, below_set (below_set (below_set (below_set HB4.out (Nat.le_refl _) _ _) (Nat.le_refl _) _ _) (Nat.le_refl _) _ _) (Nat.le_refl _) _ _⟩
end Go.Proofs.YtiamkmkbkehldaaGreatDoor

/-
  strings.Cut at a sign of one byte (it reads no variable then).
-/
namespace Go.Proofs.YtiamkmkbkehldaaGreatDoor
open Go.RowKit
set_option linter.unusedSimpArgs false
set_option linter.unusedVariables false

theorem take_while (c : UInt8) : ∀ s : List UInt8, s.take (s.takeWhile (· != c)).length = s.takeWhile (· != c) ∧ s.drop (s.takeWhile (· != c)).length = s.dropWhile (· != c) := by
  intro s
  have h := List.takeWhile_append_dropWhile (p := (· != c)) (l := s)
  obtain ⟨A, hA⟩ : ∃ A, s.takeWhile (· != c) = A := ⟨_, rfl⟩
  obtain ⟨B, hB⟩ : ∃ B, s.dropWhile (· != c) = B := ⟨_, rfl⟩
  rw [hA, hB] at h ⊢
  rw [← h]
  exact ⟨List.take_left, List.drop_left⟩
/-- What Cut answers. -/
def cutB (c : UInt8) (s : List UInt8) : List UInt8 × List UInt8 × Bool := if c ∈ s then (s.takeWhile (· != c), (s.dropWhile (· != c)).drop 1, true) else (s, [], false)
theorem ixb_is (c : UInt8) : ∀ s : List UInt8, Lib.indexByte s c = if c ∈ s then (((s.takeWhile (· != c)).length : Nat) : Int) else -1 := by
  intro s
  induction s with
  | nil => rfl
  | cons b l ih =>
    rw [Lib.indexByte]
    by_cases h : b = c
    · subst h
      simp
    · have hb : (b != c) = true := by simpa using h
      have hb2 : (b == c) = false := by simpa using h
      rw [List.takeWhile_cons_of_pos (p := (· != c)) hb, List.length_cons]
      by_cases hm : c ∈ l
      · rw [if_pos hm] at ih
        simp only [hb2, Bool.false_eq_true, if_false, ih, List.mem_cons, hm, or_true, if_true]
        split
        · rename_i e; simp at e
        · omega
      · rw [if_neg hm] at ih
        have : ¬ (c = b) := fun e => h e.symm
        simp [hb2, ih, hm, this]

set_option maxRecDepth 100000 in
set_option maxHeartbeats 3200000 in
theorem idx_one (s : ByteArray) (c : UInt8) (hs : s.size ≤ 4000) (w : World) : Calls Tryz.prog 188 #[.string s, .string ⟨#[c]⟩] w fun e w' => e = .returned (.int .i64 (Lib.indexByte s.data.toList c)) ∧ w' = w := by
  have HC : Hid (∀ w, Calls Tryz.prog 200 #[.string s, .int .u8 (c.toNat : Int)] w fun e w' => e = .returned (.int .i64 (Lib.indexByte s.data.toList c)) ∧ w' = w) := fun w => by
    have := Any.stringslite_IndexByte (P := Tryz.prog) { Tryz.lays137 with } s (c.toNat : Int) w
    have e : ((c.toNat : Int).toNat.toUInt8) = c := by simp
    rw [e] at this
    exact this
  go_enter Tryz.func188, Tryz.ntmps188
  have hl1 : (ByteArray.mk #[c]).size = 1 := rfl
  have hdl : s.data.toList = s.toList := (ByteArray.toList_eq s).symm
  by_cases h1 : [c] = s.toList
  · have q1 : ([c] == s.toList) = true := by rw [h1]; simp
    have HI : Hid (Lib.indexByte s.data.toList c = 0) := by rw [Hid, hdl, ← h1]; simp [Lib.indexByte]
    rw [HI.out]
    clear h1 hdl
    go_wp2_with fail
    go_ret
    exact ⟨rfl, rfl⟩
  · have q1 : ([c] == s.toList) = false := by rw [beq_eq_false_iff_ne]; exact h1
    clear h1 hdl
    obtain ⟨I, hI⟩ : ∃ I, Lib.indexByte s.data.toList c = I := ⟨_, rfl⟩
    rw [hI] at HC ⊢
    clear hI
    go_wp2_with fail
    refine (HC.out _).mono ?_
    rintro e w1 ⟨rfl, rfl⟩
    go_wp2_with fail
    go_ret
    exact ⟨rfl, rfl⟩

set_option maxRecDepth 100000 in
set_option maxHeartbeats 3200000 in
theorem cut_lite (s : ByteArray) (c : UInt8) (hs : s.size ≤ 4000) (w : World) : Calls Tryz.prog 151 #[.string s, .string ⟨#[c]⟩] w fun e w' => e = .returned (.tuple #[.string (txt (cutB c s.data.toList).1), .string (txt (cutB c s.data.toList).2.1), .bool (cutB c s.data.toList).2.2]) ∧ Below w.heap.size w w' := by
  have HC := hideIt (idx_one s c hs w)
  rw [ixb_is] at HC
  have hl1 : (ByteArray.mk #[c]).size = 1 := rfl
  unfold cutB
  by_cases hm : c ∈ s.data.toList
  · rw [if_pos hm] at HC ⊢
    obtain ⟨K, hK⟩ : ∃ K, (s.data.toList.takeWhile (· != c)).length = K := ⟨_, rfl⟩
    obtain ⟨t1, t2⟩ := take_while c s.data.toList
    have hle : K + 1 ≤ s.size := by
      have h1 := List.takeWhile_append_dropWhile (p := (· != c)) (l := s.data.toList)
      have h2 : s.data.toList.dropWhile (· != c) ≠ [] := by
        intro e
        rw [e, List.append_nil] at h1
        rw [← h1] at hm
        have : ∀ r : List UInt8, c ∉ r.takeWhile (· != c) := by
          intro r
          induction r with
          | nil => simp
          | cons a r ih =>
            rw [List.takeWhile_cons]
            split
            · rename_i ha
              simp only [List.mem_cons, not_or]
              exact ⟨by intro e; rw [e] at ha; simp at ha, ih⟩
            · simp
        exact this _ hm
      have h3 := congrArg List.length h1
      rw [List.length_append, hK, len_is] at h3
      have h4 : 0 < (s.data.toList.dropWhile (· != c)).length := List.length_pos_iff.2 h2
      omega
    rw [hK] at t1 t2 HC
    have e1 : s.extract 0 K = txt (s.data.toList.takeWhile (· != c)) := by rw [cut_txt, List.drop_zero, Nat.sub_zero, t1]
    have e2 : s.extract (K + 1) s.size = txt ((s.data.toList.dropWhile (· != c)).drop 1) := by rw [from_txt hle, ← t2, List.drop_drop]
    obtain ⟨A, hA⟩ : ∃ A, txt (s.data.toList.takeWhile (· != c)) = A := ⟨_, rfl⟩
    obtain ⟨R, hR⟩ : ∃ R, txt ((s.data.toList.dropWhile (· != c)).drop 1) = R := ⟨_, rfl⟩
    dsimp only
    rw [hA, hR]
    rw [hA] at e1
    rw [hR] at e2
    have s1 : ∀ w, (Instr.slice 9 (.string s) none (some (.int .i64 (K : Int))) none).run Tryz.prog w = .ok (.string A) w := fun w => by
      rw [run_slice_string_h w 9 s Tryz.underlying9 .i64 (K : Int) (by omega) (by omega), Int.toNat_natCast, e1]
    have s2 : ∀ w, (Instr.slice 9 (.string s) (some (.int .i64 ((K : Int) + 1))) none none).run Tryz.prog w = .ok (.string R) w := fun w => by
      rw [run_slice_string_l w 9 s Tryz.underlying9 .i64 ((K : Int) + 1) (by omega) (by omega), show ((K : Int) + 1).toNat = K + 1 by omega, e2]
    have hk0 : (0 : Int) ≤ (K : Int) := by omega
    clear e1 e2 t1 t2 hA hR hK hm
    go_enter Tryz.func151, Tryz.ntmps151
    go_wp2_with fail
    refine HC.out.mono ?_
    rintro e w1 ⟨rfl, rfl⟩
    go_wp2_with fail
    go_quiet (fail)
    have HD := hideB (below_drewB (w := w1) nq)
    go_wp2_with fail
    refine bodyPost_ret (v := .tuple #[.string A, .string R, .bool true]) (by simp [results, Tryz.results151, go_sem]) rfl ?_
    exact ⟨rfl, HD.out⟩
  · rw [if_neg hm] at HC ⊢
    dsimp only
    rw [txt_bytes]
    clear hm
    go_enter Tryz.func151, Tryz.ntmps151
    go_wp2_with fail
    refine HC.out.mono ?_
    rintro e w1 ⟨rfl, rfl⟩
    go_wp2_with fail
    refine bodyPost_ret (v := .tuple #[.string s, .string ⟨#[]⟩, .bool false]) (by simp [results, Tryz.results151, go_sem]) rfl ?_
    exact ⟨rfl, Below.refl _ _⟩
set_option maxRecDepth 100000 in
theorem cut_one (s : ByteArray) (c : UInt8) (hs : s.size ≤ 4000) (w : World) : Calls Tryz.prog 90 #[.string s, .string ⟨#[c]⟩] w fun e w' => e = .returned (.tuple #[.string (txt (cutB c s.data.toList).1), .string (txt (cutB c s.data.toList).2.1), .bool (cutB c s.data.toList).2.2]) ∧ Below w.heap.size w w' := by
  have HC := hideIt (cut_lite s c hs w)
  obtain ⟨A, hA⟩ : ∃ A, txt (cutB c s.data.toList).1 = A := ⟨_, rfl⟩
  obtain ⟨R, hR⟩ : ∃ R, txt (cutB c s.data.toList).2.1 = R := ⟨_, rfl⟩
  obtain ⟨b, hb⟩ : ∃ b, (cutB c s.data.toList).2.2 = b := ⟨_, rfl⟩
  rw [hA, hR, hb] at HC ⊢
  clear hA hR hb
  go_enter Tryz.func90, Tryz.ntmps90
  go_wp2_with fail
  refine HC.out.mono ?_
  rintro e w1 ⟨rfl, hb1⟩
  have HB1 := hideIt hb1
  clear hb1
  go_wp2_with fail
  refine bodyPost_ret (v := .tuple #[.string A, .string R, .bool b]) (by simp [results, Tryz.results90, go_sem]) rfl ?_
  exact ⟨rfl, HB1.out⟩
end Go.Proofs.YtiamkmkbkehldaaGreatDoor
