/-
  The program's checks of one node of a filter.
-/
import Derived.Test.YtbclgogolimbgaaFP
import Derived.Deep.Light
import Derived.Lib.Strings
namespace Go.Proofs.Ytbclgogolimbgaa
open Go.RowKit
set_option linter.unusedSimpArgs false
set_option linter.unusedVariables false

set_option maxHeartbeats 1600000 in
theorem beginsPlain_any (c : Nat) (w : World) (hc : c < 256) :
    Calls Try.prog 113 #[.int .u8 c] w fun e w' => e = .returned (.bool (letN c)) ∧ w' = w := by
  go_enter Try.func113, Try.ntmps113
  go_wp2_with fail
  all_goals
    go_ret
    refine ⟨ret_bool ?_, rfl⟩
    rw [Bool.eq_iff_iff]
    simp [letN]
    omega

set_option maxHeartbeats 1600000 in
theorem isDigit_any (c : Nat) (w : World) (hc : c < 256) :
    Calls Try.prog 121 #[.int .u8 c] w fun e w' => e = .returned (.bool (digN c)) ∧ w' = w := by
  go_enter Try.func121, Try.ntmps121
  go_wp2_with fail
  all_goals
    go_ret
    refine ⟨ret_bool ?_, rfl⟩
    rw [Bool.eq_iff_iff]
    simp [digN]
    omega

set_option maxHeartbeats 1600000 in
theorem inName_any (c : Nat) (w : World) (hc : c < 256) :
    Calls Try.prog 114 #[.int .u8 c] w fun e w' => e = .returned (.bool (letN c || digN c)) ∧ w' = w := by
  go_enter Try.func114, Try.ntmps114
  go_wp2_with fail
  refine (beginsPlain_any c w hc).mono ?_
  rintro e w1 ⟨rfl, rfl⟩
  cases hl : letN c
  · go_wp2_with fail
    refine (isDigit_any c w1 hc).mono ?_
    rintro e w2 ⟨rfl, rfl⟩
    go_wp2_with fail
    go_ret
    exact ⟨ret_bool (by rw [hl]; rfl), rfl⟩
  · go_wp2_with fail
    go_ret
    exact ⟨ret_bool (by rw [hl]; rfl), rfl⟩

theorem nil_size {s : ByteArray} : s.toList = [] ↔ s.size = 0 := by
  rw [Lib.toList_data]
  constructor
  · intro h
    have := congrArg List.length h
    simpa using this
  · intro h
    apply List.eq_nil_of_length_eq_zero
    simpa using h

theorem nameB_no {s : ByteArray} {j : Nat} (hj : j < s.size) (h : (letN (byteAt s j) || digN (byteAt s j)) = false) : nameB s = false := by
  unfold nameB
  rw [show ((List.range s.size).all fun j => letN (byteAt s j) || digN (byteAt s j)) = false from ?_, Bool.and_false]
  rw [List.all_eq_false]
  exact ⟨j, List.mem_range.2 hj, by rw [h]; exact Bool.false_ne_true⟩

theorem nameB_yes {s : ByteArray} (h0 : 0 < s.size) (h1 : s.size ≤ 60) (h2 : letN (byteAt s 0) = true) (h : ∀ j, j < s.size → (letN (byteAt s j) || digN (byteAt s j)) = true) : nameB s = true := by
  unfold nameB
  rw [show ((List.range s.size).all fun j => letN (byteAt s j) || digN (byteAt s j)) = true from ?_, h2]
  · simp [h0, h1]
  · rw [List.all_eq_true]
    exact fun j hj => h j (List.mem_range.1 hj)

theorem u8_lt (c : UInt8) : c.toNat < 256 := c.toNat_lt

set_option maxHeartbeats 1600000 in
theorem nameOk_any (s : ByteArray) (w : World) (hs : s.size ≤ 140737488355328) :
    Calls Try.prog 95 #[.string s] w fun e w' => e = .returned (.bool (nameB s)) ∧ w' = w := by
  by_cases h0 : s.size = 0
  · have hz : (s.toList == []) = true := by simpa using nil_size.2 h0
    have H : Hid (nameB s = false) := by simp [Hid, nameB, h0]
    clear h0
    go_enter Try.func95, Try.ntmps95
    go_wp2
    go_ret
    exact ⟨ret_bool H.out.symm, rfl⟩
  have hz : (s.toList == []) = false := by simpa using fun e => h0 (nil_size.1 e)
  by_cases h60 : 60 < s.size
  · have H : Hid (nameB s = false) := by simp [Hid, nameB]; omega
    have h' : (60 : Int) < (s.size : Int) := by omega
    go_enter Try.func95, Try.ntmps95
    go_wp2
    go_ret
    exact ⟨ret_bool H.out.symm, rfl⟩
  have h' : ¬ (60 : Int) < (s.size : Int) := by omega
  have hp : 0 < s.size := by omega
  have hb0 := byteAt_get hp
  cases hl : letN (byteAt s 0)
  · have H : Hid (nameB s = false) := by rw [Hid, nameB, hl]; simp
    have HB := hideIt hb0
    have HL := hideIt hl
    clear hl hb0
    go_enter Try.func95, Try.ntmps95
    go_wp2_with fail
    refine (beginsPlain_any _ w (u8_lt _)).mono ?_
    rintro e w1 ⟨rfl, rfl⟩
    rw [HB.out, HL.out]
    go_wp2_with fail
    go_ret
    exact ⟨ret_bool H.out.symm, rfl⟩
  have HB := hideIt hb0
  have HL := hideIt hl
  clear hl hb0
  go_enter Try.func95, Try.ntmps95
  go_wp2_with fail
  refine (beginsPlain_any _ w (u8_lt _)).mono ?_
  rintro e w1 ⟨rfl, rfl⟩
  rw [HB.out, HL.out]
  go_wp2_with fail
  go_loopw [19] (fun i wr => ∃ k : Nat, k ≤ s.size ∧ i = .int .i64 k ∧ Hid (∀ j, j < k → (letN (byteAt s j) || digN (byteAt s j)) = true) ∧ wr = w1) (fun i _ => s.size - (intOf i).toNat)
  case atStart => exact ⟨0, Nat.zero_le _, rfl, fun j h => absurd h (by omega), rfl⟩
  case round =>
    obtain ⟨k, hk, rfl, HA, rfl⟩ := hrel
    by_cases hlt : k < s.size
    · have hbk := hideIt (byteAt_get hlt)
      go_wp2_with fail
      refine (inName_any _ _ (u8_lt _)).mono ?_
      rintro e w2 ⟨rfl, rfl⟩
      rw [hbk.out]
      cases hc : (letN (byteAt s k) || digN (byteAt s k))
      · have H : Hid (nameB s = false) := nameB_no hlt hc
        clear hc
        go_wp2_with fail
        go_ret
        exact ⟨ret_bool H.out.symm, rfl⟩
      · have HA2 : Hid (∀ j, j < k + 1 → (letN (byteAt s j) || digN (byteAt s j)) = true) := fun j hj => by
          by_cases e : j = k
          · subst e; exact hc
          · exact HA.out j (by omega)
        clear hc
        go_wp2_with fail
        go_roundw
        case rel => exact ⟨k + 1, by omega, by go_num, HA2, by trivial⟩
        case measure => simp [intOf]; omega
    · have H : Hid (nameB s = true) := nameB_yes hp (by omega) HL.out (fun j hj => HA.out j (by omega))
      go_wp2_with fail
      go_ret
      exact ⟨ret_bool H.out.symm, rfl⟩

theorem allN_false {l : List ByteArray} {k : Nat} (hk : k < l.length) (h : nameB (keyAt l k) = false) : namesB l = false := by
  unfold namesB
  rw [nriseB_false hk (by unfold nriseAt; rw [h, Bool.false_and]), Bool.and_false]

theorem allN_true {l : List ByteArray} (h5 : l.length ≤ 5) (h : ∀ j, j < l.length → nameB (keyAt l j) = true) : namesB l = riseB l := by
  unfold namesB
  rw [nriseB_eq, show ((List.range l.length).all fun j => nameB (keyAt l j)) = true from List.all_eq_true.2 (fun j hj => h j (List.mem_range.1 hj))]
  simp [h5]

set_option maxHeartbeats 1600000 in
theorem namesOk_any (B : Nat) (v : Value) (l : List ByteArray) (w : World) (h : StrsAt B w v l) :
    Calls Try.prog 97 #[v] w fun e w' => e = .returned (.bool (namesB l)) ∧ w' = w := by
  have HS := hideIt h
  obtain ⟨hkn, hks, a1, c1, rfl, hcell⟩ := h
  by_cases h5 : 5 < l.length
  · have H : Hid (namesB l = false) := by simp [Hid, namesB]; omega
    have h' : (5 : Int) < (l.length : Int) := by omega
    go_enter Try.func97, Try.ntmps97
    go_wp2_with fail
    go_ret
    exact ⟨ret_bool H.out.symm, rfl⟩
  have h' : ¬ (5 : Int) < (l.length : Int) := by omega
  have HC := hideIt hcell
  clear hcell
  go_enter Try.func97, Try.ntmps97
  go_wp2_with fail
  go_loopw [10] (fun i wr => ∃ k : Nat, k ≤ l.length ∧ i = .int .i64 k ∧ Hid (∀ j, j < k → nameB (keyAt l j) = true) ∧ wr = w) (fun i _ => l.length - (intOf i).toNat)
  case atStart => exact ⟨0, Nat.zero_le _, rfl, fun j h => absurd h (by omega), rfl⟩
  case round =>
    obtain ⟨k, hk, rfl, HA, rfl⟩ := hrel
    by_cases hlt : k < l.length
    · obtain ⟨b, o, rfl, hbB, hc⟩ := HC.out (by omega)
      have hck := hc k hlt
      have hs := hks k hlt
      clear hc
      go_wp2_with fail
      refine (nameOk_any _ _ hs).mono ?_
      rintro e w2 ⟨rfl, rfl⟩
      cases hn : nameB (keyAt l k)
      · have H : Hid (namesB l = false) := allN_false hlt hn
        clear hn
        go_wp2_with fail
        go_ret
        exact ⟨ret_bool H.out.symm, rfl⟩
      · have HA2 : Hid (∀ j, j < k + 1 → nameB (keyAt l j) = true) := fun j hj => by
          by_cases e : j = k
          · subst e; exact hn
          · exact HA.out j (by omega)
        clear hn
        go_wp2_with fail
        go_roundw
        case rel => exact ⟨k + 1, by omega, by go_num, HA2, by trivial⟩
        case measure => simp [intOf]; omega
    · have H : Hid (namesB l = riseB l) := allN_true (by omega) (fun j hj => HA.out j (by omega))
      go_wp2_with fail
      refine (keysRise_any B _ l _ HS.out).mono ?_
      rintro e w2 ⟨rfl, rfl⟩
      go_wp2_with fail
      go_ret
      exact ⟨ret_bool H.out.symm, rfl⟩

set_option maxHeartbeats 1600000 in
theorem constOk_any (B : Nat) (v : Value) (vs : List VN) (w : World) (h : NodesAt B w v vs) (hB : B ≤ w.heap.size) :
    Calls Try.prog 96 #[v] w fun e w' => e = .returned (.bool (cstB vs)) ∧ Below w.heap.size w w' := by
  have HS := hideIt h
  obtain ⟨hkn, a1, c1, rfl, hcell⟩ := h
  by_cases h1 : vs.length = 1
  · have HC := hideIt hcell
    clear hcell
    have HL := hideIt h1
    have q1 : ((vs.length : Int) == 1) = true := by simp [h1]
    have hp : 0 < vs.length := by omega
    clear h1
    cases hok : okB vs
    · have H : Hid (cstB vs = false) := by simp [Hid, cstB, hok]
      have HK := hideIt hok
      clear hok
      go_enter Try.func96, Try.ntmps96
      go_wp2_with fail
      refine (implOk_any B _ vs w HS.out hB).mono ?_
      rintro e w1 ⟨rfl, hb⟩
      rw [HK.out]
      go_wp2_with fail
      go_ret
      exact ⟨ret_bool H.out.symm, hb⟩
    · have HK := hideIt hok
      have H : Hid (cstB vs = (decide ((nodeAt vs 0).kind ≠ 5) && decide ((nodeAt vs 0).kind ≠ 6))) := by simp [Hid, cstB, HK.out, HL.out]
      clear hok
      obtain ⟨b, o, rfl, hbB, hc⟩ := HC.out hp
      obtain ⟨ka, ki, hn⟩ := hc 0 hp
      have c0 := hn.c0
      clear hc hn
      rw [Nat.zero_mul, Nat.add_zero] at c0
      go_enter Try.func96, Try.ntmps96
      go_wp2_with fail
      refine (implOk_any B _ vs w HS.out hB).mono ?_
      rintro e w1 ⟨rfl, hb⟩
      rw [HK.out]
      have d0 := (below_cell hb (show b < w.heap.size by omega)).trans c0
      clear c0
      by_cases k5 : (nodeAt vs 0).kind = 5
      · have q5 : ((nodeAt vs 0).kind != 5) = false := by simp [k5]
        have H2 : Hid (cstB vs = false) := by rw [Hid, H.out]; simp [k5]
        clear k5
        go_wp2_with fail
        go_ret
        exact ⟨ret_bool H2.out.symm, hb⟩
      · have q5 : ((nodeAt vs 0).kind != 5) = true := by simp [k5]
        by_cases k6 : (nodeAt vs 0).kind = 6
        · have q6 : ((nodeAt vs 0).kind != 6) = false := by simp [k6]
          have H2 : Hid (cstB vs = false) := by rw [Hid, H.out]; simp [k6]
          clear k5 k6
          go_wp2_with fail
          go_ret
          exact ⟨ret_bool H2.out.symm, hb⟩
        · have q6 : ((nodeAt vs 0).kind != 6) = true := by simp [k6]
          have H2 : Hid (cstB vs = true) := by rw [Hid, H.out]; simp [k5, k6]
          clear k5 k6
          go_wp2_with fail
          go_ret
          exact ⟨ret_bool H2.out.symm, hb⟩
  · have q1 : ((vs.length : Int) == 1) = false := by rw [beq_eq_false_iff_ne]; omega
    have H : Hid (cstB vs = false) := by simp [Hid, cstB, h1]
    clear h1 hcell
    go_enter Try.func96, Try.ntmps96
    go_wp2_with fail
    go_ret
    exact ⟨ret_bool H.out.symm, Below.refl _ _⟩

set_option maxHeartbeats 3200000 in
theorem othersZero_any (B : Nat) (x : FN) (kc kn ki : Value) (w : World) (h : FNodeIn B w x kc kn ki) :
    Calls Try.prog 69 #[.agg #[.int .i64 x.kind, .string x.name, .int .i64 x.place, kc, kn, ki]] w fun e w' => e = .returned (.bool (zeroF x)) ∧ Below w.heap.size w w' := by
  obtain ⟨_, a0, c0, e0, _⟩ := h.cst
  obtain ⟨_, _, a1, c1, e1, _⟩ := h.names
  obtain ⟨_, _, a2, c2, e2, _⟩ := h.kids
  subst e0 e1 e2
  clear h
  go_enter Try.func69, Try.ntmps69
  go_wp2_with fail
  all_goals
    go_ret
    refine ⟨ret_bool ?_, (Below.refl _ _).alloc (Nat.le_refl _) _⟩
    go_light
    simp_all [zeroF]

set_option maxHeartbeats 3200000 in
theorem ownFieldsOk_any (B : Nat) (x : FN) (kc kn ki : Value) (w : World) (h : FNodeIn B w x kc kn ki) (hB : B ≤ w.heap.size) :
    Calls Try.prog 70 #[.agg #[.int .i64 x.kind, .string x.name, .int .i64 x.place, kc, kn, ki]] w fun e w' => e = .returned (.bool (ownF x)) ∧ Below w.heap.size w w' := by
  have hsz := h.size
  have HC := hideIt h.cst
  have HK := hideIt h.names
  obtain ⟨_, a0, c0, e0, _⟩ := h.cst
  obtain ⟨_, _, a1, c1, e1, _⟩ := h.names
  obtain ⟨_, _, a2, c2, e2, _⟩ := h.kids
  subst e0 e1 e2
  clear h
  have hw1 : ∀ o, Below w.heap.size w (w.alloc o) := fun o => (Below.refl _ _).alloc (Nat.le_refl _) o
  by_cases k2 : x.kind = 2
  · have q2 : (x.kind == 2) = true := by simp [k2]
    have H : Hid (ownF x = nameB x.name) := by simp [Hid, ownF, k2]
    clear k2
    go_enter Try.func70, Try.ntmps70
    go_wp2_with fail
    refine (nameOk_any _ _ hsz).mono ?_
    rintro e w1 ⟨rfl, rfl⟩
    go_wp2_with fail
    go_ret
    exact ⟨ret_bool H.out.symm, hw1 _⟩
  have q2 : (x.kind == 2) = false := by simp [k2]
  by_cases k3 : x.kind = 3
  · have q3 : (x.kind == 3) = true := by simp [k3]
    have H : Hid (ownF x = (decide (-80 ≤ x.place) && decide (x.place ≤ 80))) := by simp [Hid, ownF, k3]
    clear k2 k3
    go_enter Try.func70, Try.ntmps70
    go_wp2_with fail
    all_goals
      go_ret
      refine ⟨ret_bool ?_, hw1 _⟩
      rw [H.out, Bool.eq_iff_iff]
      simp
      omega
  have q3 : (x.kind == 3) = false := by simp [k3]
  by_cases k5 : x.kind = 5
  · have q5 : (x.kind == 5) = true := by simp [k5]
    have H : Hid (ownF x = cstB x.cst) := by simp [Hid, ownF, k5]
    clear k2 k3 k5
    go_enter Try.func70, Try.ntmps70
    go_wp2_with fail
    refine (constOk_any B _ x.cst _ (HC.out.below ((hw1 _).mono hB)) (by simp; omega)).mono ?_
    rintro e w1 ⟨rfl, hb1⟩
    go_wp2_with fail
    go_ret
    exact ⟨ret_bool H.out.symm, (hw1 _).trans (hb1.mono (by simp))⟩
  have q5 : (x.kind == 5) = false := by simp [k5]
  by_cases k9 : x.kind = 9
  · have q9 : (x.kind == 9) = true := by simp [k9]
    have H : Hid (ownF x = namesB x.names) := by simp [Hid, ownF, k9]
    clear k2 k3 k5 k9
    go_enter Try.func70, Try.ntmps70
    go_wp2_with fail
    refine (namesOk_any B _ x.names _ (HK.out.below ((hw1 _).mono hB))).mono ?_
    rintro e w1 ⟨rfl, rfl⟩
    go_wp2_with fail
    go_ret
    exact ⟨ret_bool H.out.symm, hw1 _⟩
  have q9 : (x.kind == 9) = false := by simp [k9]
  have H : Hid (ownF x = true) := by simp [Hid, ownF, k2, k3, k5, k9]
  clear k2 k3 k5 k9
  go_enter Try.func70, Try.ntmps70
  go_wp2_with fail
  go_ret
  exact ⟨ret_bool H.out.symm, hw1 _⟩

set_option maxHeartbeats 6400000 in
theorem kidsFit_any (B : Nat) (x : FN) (kc kn ki : Value) (w : World) (h : FNodeIn B w x kc kn ki) :
    Calls Try.prog 71 #[.agg #[.int .i64 x.kind, .string x.name, .int .i64 x.place, kc, kn, ki]] w fun e w' => e = .returned (.bool (fitF x)) ∧ Below w.heap.size w w' := by
  obtain ⟨_, a0, c0, e0, _⟩ := h.cst
  obtain ⟨_, _, a1, c1, e1, _⟩ := h.names
  obtain ⟨_, _, a2, c2, e2, _⟩ := h.kids
  subst e0 e1 e2
  clear h
  go_enter Try.func71, Try.ntmps71
  go_wp2_with fail
  all_goals
    go_ret
    refine ⟨ret_bool ?_, (Below.refl _ _).alloc (Nat.le_refl _) _⟩
    go_light
    simp_all [fitF, kidsN] <;> first | omega | (rw [Bool.eq_iff_iff]; simp; done) | (rw [Bool.eq_iff_iff]; simp; omega)
end Go.Proofs.Ytbclgogolimbgaa
