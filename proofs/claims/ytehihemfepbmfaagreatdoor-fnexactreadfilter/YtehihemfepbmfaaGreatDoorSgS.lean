/-
  The specification's l7Rf: the sign of a level. (Made by mksgs.py.)
-/
import Derived.Test.YtehihemfepbmfaaGreatDoorSgK
import Derived.Test.YtehihemfepbmfaaGreatDoorSgJ
namespace Go.Proofs.YtehihemfepbmfaaGreatDoor
open Go.RowKit
set_option linter.unusedSimpArgs false
set_option linter.unusedVariables false

theorem wordAt_two {L : List UInt8} {p : Nat} {c d : UInt8} : wordAt L p [c, d] = (isAt L p c.toNat && isAt L (p + 1) d.toNat) := by
  rw [← wordAt_one, ← wordAt_one]
  unfold wordAt
  rw [Bool.eq_iff_iff]
  simp only [Bool.and_eq_true, decide_eq_true_eq]
  rw [show L.drop (p + 1) = (L.drop p).drop 1 by rw [List.drop_drop]]
  cases L.drop p with
  | nil => simp
  | cons a l =>
    cases l with
    | nil => simp
    | cons b l => simp
/-- Two signs. -/
theorem lfIs2 {rb base p : Nat} {Z : Nat → Prop} {s : ByteArray} {fs : List FN} {w : World} (c d : UInt8) (h : LfAt w rb base Z s p false fs) (hs : s.size ≤ 4000) :
    Calls Tryz.prog 79 #[.pointer (some ⟨rb, 0, none⟩), .string ⟨#[c, d]⟩] w fun e w' => e = .returned (.bool (isAt s.data.toList (skF s.data.toList p) c.toNat && isAt s.data.toList (skF s.data.toList p + 1) d.toNat)) ∧ LfAt w' rb base Z s (if (isAt s.data.toList (skF s.data.toList p) c.toNat && isAt s.data.toList (skF s.data.toList p + 1) d.toNat) = true then skF s.data.toList p + 2 else skF s.data.toList p) false fs ∧ LB rb base Z w w' := by
  have hw : wordAt s.data.toList (skF s.data.toList p) (⟨#[c, d]⟩ : ByteArray).data.toList = (isAt s.data.toList (skF s.data.toList p) c.toNat && isAt s.data.toList (skF s.data.toList p + 1) d.toNat) := wordAt_two
  cases hi : (isAt s.data.toList (skF s.data.toList p) c.toNat && isAt s.data.toList (skF s.data.toList p + 1) d.toNat)
  · refine (lfIs_no (u := ⟨#[c, d]⟩) h hs (by show (2 : Nat) ≤ 100; omega) (.inr (by rw [hw]; exact hi))).mono ?_
    rintro e w1 ⟨rfl, h1, h2⟩
    exact ⟨rfl, h1, h2⟩
  · refine (lfIs_yes (u := ⟨#[c, d]⟩) h hs (by show (2 : Nat) ≤ 100; omega) (by rw [hw]; exact hi)).mono ?_
    rintro e w1 ⟨rfl, h1, h2⟩
    exact ⟨rfl, h1, h2⟩
/-- What 'sign' leaves: the sign of level l at q, or none. -/
def SgnOr (l : Int) (rb base : Nat) (Z : Nat → Prop) (s : ByteArray) (q : Nat) (fs : List FN) (w : World) (e : Ending) (w' : World) : Prop :=
  LB rb base Z w w' ∧ ((sgnAt l s.data.toList q = none ∧ e = .returned (.int .i64 0) ∧ LfAt w' rb base Z s q false fs) ∨ ∃ k len, sgnAt l s.data.toList q = some (k, len) ∧ k ≠ 0 ∧ 1 ≤ len ∧ e = .returned (.int .i64 k) ∧ LfAt w' rb base Z s (q + len) false fs)
set_option maxRecDepth 100000 in
set_option maxHeartbeats 6400000 in
theorem lfSign_1 {rb base p q : Nat} {Z : Nat → Prop} {s : ByteArray} {fs : List FN} {w : World} (h : LfAt w rb base Z s p false fs) (hs : s.size ≤ 4000) (hq : skF s.data.toList p = q) :
    Calls Tryz.prog 81 #[.pointer (some ⟨rb, 0, none⟩), .int .i64 1] w (SgnOr 1 rb base Z s q fs w) := by
  have HBK := hideB (lfBlanks_any h hs)
  have HLN := hideB (len_is s)
  have HQQ : Hid (skF s.data.toList q = q) := by rw [Hid, ← hq]; exact skF_idem _ _
  have hql : q ≤ s.size := by rw [← hq, ← HLN.out]; exact skF_le (by rw [HLN.out]; exact h.le)
  rw [hq] at HBK
  clear h hq
  by_cases hlt : q + 1 < s.size
  focus
    have hlt0 : (q : Int) < (s.size : Int) := by omega
    have hlt1 : (q : Int) + 1 < (s.size : Int) := by omega
    have hd1 : decide ((q : Int) + 1 < (s.size : Int)) = true := by simpa using hlt1
    have HBA := hideB (byS (show q < s.size by omega))
    have HBB := hideB (byS hlt)
    obtain ⟨c, hc⟩ : ∃ c, s[q].toNat = c := ⟨_, rfl⟩
    obtain ⟨d, hd⟩ : ∃ d, s[q + 1].toNat = d := ⟨_, rfl⟩
    have HC : Hid (byAt s.data.toList q = c) := by rw [Hid, ← HBA.out]; exact hc
    have HD : Hid (byAt s.data.toList (q + 1) = d) := by rw [Hid, ← HBB.out]; exact hd
    have et : ((q : Int) + 1).toNat = q + 1 := by omega
    by_cases e1 : c = 47
    focus
      have n1 : ((c : Int) == 47) = true := by rw [e1]; rfl
      have n1' : (c : Int) = 47 := by omega
      by_cases e2 : d = 47
      focus
        have n2 : ((d : Int) == 47) = true := by rw [e2]; rfl
        have n2' : (d : Int) = 47 := by omega
        have HTW : Hid ((isAt s.data.toList q 47 && isAt s.data.toList (q + 1) 47) = true) := by
          rw [Hid, Bool.and_eq_true]; exact ⟨isAt_yes.2 ⟨by rw [HLN.out]; omega, by rw [HC.out, e1]⟩, isAt_yes.2 ⟨by rw [HLN.out]; omega, by rw [HD.out, e2]⟩⟩
        go_enter Tryz.func81, Tryz.ntmps81
        go_wp2_with fail
        refine HBK.out.mono ?_
        rintro e w1 ⟨rfl, h, b⟩
        have HF1 := hideB h
        have HB1 := hideB b
        obtain ⟨c0, c1, c2⟩ := h.cells
        clear h b
        go_wp2_with fail
        go_quiet (fail)
      rotate_left
      focus
        have n2 : ((d : Int) == 47) = false := by simp; omega
        have n2' : ¬ (d : Int) = 47 := by omega
        have HTW : Hid ((isAt s.data.toList q 47 && isAt s.data.toList (q + 1) 47) = false) := by
          rw [Hid, Bool.and_eq_false_iff]; right; rw [isAt_no]; rintro ⟨_, e⟩; rw [HD.out] at e; exact e2 e
        go_enter Tryz.func81, Tryz.ntmps81
        go_wp2_with fail
        refine HBK.out.mono ?_
        rintro e w1 ⟨rfl, h, b⟩
        have HF1 := hideB h
        have HB1 := hideB b
        obtain ⟨c0, c1, c2⟩ := h.cells
        clear h b
        go_wp2_with fail
        go_quiet (fail)
    rotate_left 2
    focus
      have n1 : ((c : Int) == 47) = false := by simp; omega
      have n1' : ¬ (c : Int) = 47 := by omega
      have HTW : Hid ((isAt s.data.toList q 47 && isAt s.data.toList (q + 1) 47) = false) := by
        rw [Hid, Bool.and_eq_false_iff]; left; rw [isAt_no]; rintro ⟨_, e⟩; rw [HC.out] at e; exact e1 e
      go_enter Tryz.func81, Tryz.ntmps81
      go_wp2_with fail
      refine HBK.out.mono ?_
      rintro e w1 ⟨rfl, h, b⟩
      have HF1 := hideB h
      have HB1 := hideB b
      obtain ⟨c0, c1, c2⟩ := h.cells
      clear h b
      go_wp2_with fail
      go_quiet (fail)
  rotate_left 3
  focus
    have hlt1 : ¬ (q : Int) + 1 < (s.size : Int) := by omega
    have hd1 : decide ((q : Int) + 1 < (s.size : Int)) = false := by simpa using hlt1
    have HTW : Hid ((isAt s.data.toList q 47 && isAt s.data.toList (q + 1) 47) = false) := by
      rw [Hid, Bool.and_eq_false_iff]; right; rw [isAt_no]; rintro ⟨e, _⟩; rw [HLN.out] at e; omega
    go_enter Tryz.func81, Tryz.ntmps81
    go_wp2_with fail
    refine HBK.out.mono ?_
    rintro e w1 ⟨rfl, h, b⟩
    have HF1 := hideB h
    have HB1 := hideB b
    obtain ⟨c0, c1, c2⟩ := h.cells
    clear h b
    go_wp2_with fail
    go_quiet (fail)
  all_goals
    have HDD := hideB (below_drewB (w := w1) nq)
    have HF2 := hideB (HF1.out.below HDD.out)
    have HB2 := hideB (HB1.out.trans (LB.of_below HDD.out))
    clear c0 c1 c2
    generalize w1.drewN nq = W0 at HDD HF2 HB2 ⊢
    clear nq
    have hi := lfIs1 124 HF2.out (by omega)
    rw [HQQ.out, show (124 : UInt8).toNat = 124 from rfl] at hi
    cases a0 : (isAt s.data.toList q 124)
    rotate_left
    · have HEQ : Hid (sgnAt 1 s.data.toList q = some (6, 1)) := by rw [Hid, sgn1]; rw [if_pos a0]
      rw [a0] at hi
      have HI := hideB hi
      clear hi a0
      go_wp2_with fail
      refine HI.out.mono ?_
      rintro e w3 ⟨rfl, h3, b3⟩
      have h9 : LfAt w3 rb base Z s (q + 1) false fs := h3
      have HF3 := hideB h9
      have HB3 := hideB (HB2.out.trans b3)
      clear h3 b3 h9
      go_wp2_with fail
      go_ret
      exact ⟨HB3.out, .inr ⟨6, 1, HEQ.out, by decide, by decide, rfl, HF3.out⟩⟩
    rw [a0] at hi
    have HI0 := hideB hi
    have HA0 := hideB a0
    clear hi a0
    go_wp2_with fail
    refine HI0.out.mono ?_
    rintro e v0 ⟨rfl, h3, b3⟩
    have h9 : LfAt v0 rb base Z s q false fs := h3
    have HG0 := hideB h9
    have HC0 := hideB (HB2.out.trans b3)
    clear h3 b3 h9
    have HEQ : Hid (sgnAt 1 s.data.toList q = none) := by rw [Hid, sgn1]; rw [if_neg (by rw [HA0.out]; decide)]
    go_wp2_with fail
    go_ret
    exact ⟨HC0.out, .inl ⟨HEQ.out, rfl, HG0.out⟩⟩
set_option maxRecDepth 100000 in
set_option maxHeartbeats 6400000 in
theorem lfSign_2 {rb base p q : Nat} {Z : Nat → Prop} {s : ByteArray} {fs : List FN} {w : World} (h : LfAt w rb base Z s p false fs) (hs : s.size ≤ 4000) (hq : skF s.data.toList p = q) :
    Calls Tryz.prog 81 #[.pointer (some ⟨rb, 0, none⟩), .int .i64 2] w (SgnOr 2 rb base Z s q fs w) := by
  have HBK := hideB (lfBlanks_any h hs)
  have HLN := hideB (len_is s)
  have HQQ : Hid (skF s.data.toList q = q) := by rw [Hid, ← hq]; exact skF_idem _ _
  have hql : q ≤ s.size := by rw [← hq, ← HLN.out]; exact skF_le (by rw [HLN.out]; exact h.le)
  rw [hq] at HBK
  clear h hq
  by_cases hlt : q + 1 < s.size
  focus
    have hlt0 : (q : Int) < (s.size : Int) := by omega
    have hlt1 : (q : Int) + 1 < (s.size : Int) := by omega
    have hd1 : decide ((q : Int) + 1 < (s.size : Int)) = true := by simpa using hlt1
    have HBA := hideB (byS (show q < s.size by omega))
    have HBB := hideB (byS hlt)
    obtain ⟨c, hc⟩ : ∃ c, s[q].toNat = c := ⟨_, rfl⟩
    obtain ⟨d, hd⟩ : ∃ d, s[q + 1].toNat = d := ⟨_, rfl⟩
    have HC : Hid (byAt s.data.toList q = c) := by rw [Hid, ← HBA.out]; exact hc
    have HD : Hid (byAt s.data.toList (q + 1) = d) := by rw [Hid, ← HBB.out]; exact hd
    have et : ((q : Int) + 1).toNat = q + 1 := by omega
    by_cases e1 : c = 47
    focus
      have n1 : ((c : Int) == 47) = true := by rw [e1]; rfl
      have n1' : (c : Int) = 47 := by omega
      by_cases e2 : d = 47
      focus
        have n2 : ((d : Int) == 47) = true := by rw [e2]; rfl
        have n2' : (d : Int) = 47 := by omega
        have HTW : Hid ((isAt s.data.toList q 47 && isAt s.data.toList (q + 1) 47) = true) := by
          rw [Hid, Bool.and_eq_true]; exact ⟨isAt_yes.2 ⟨by rw [HLN.out]; omega, by rw [HC.out, e1]⟩, isAt_yes.2 ⟨by rw [HLN.out]; omega, by rw [HD.out, e2]⟩⟩
        go_enter Tryz.func81, Tryz.ntmps81
        go_wp2_with fail
        refine HBK.out.mono ?_
        rintro e w1 ⟨rfl, h, b⟩
        have HF1 := hideB h
        have HB1 := hideB b
        obtain ⟨c0, c1, c2⟩ := h.cells
        clear h b
        go_wp2_with fail
        go_quiet (fail)
      rotate_left
      focus
        have n2 : ((d : Int) == 47) = false := by simp; omega
        have n2' : ¬ (d : Int) = 47 := by omega
        have HTW : Hid ((isAt s.data.toList q 47 && isAt s.data.toList (q + 1) 47) = false) := by
          rw [Hid, Bool.and_eq_false_iff]; right; rw [isAt_no]; rintro ⟨_, e⟩; rw [HD.out] at e; exact e2 e
        go_enter Tryz.func81, Tryz.ntmps81
        go_wp2_with fail
        refine HBK.out.mono ?_
        rintro e w1 ⟨rfl, h, b⟩
        have HF1 := hideB h
        have HB1 := hideB b
        obtain ⟨c0, c1, c2⟩ := h.cells
        clear h b
        go_wp2_with fail
        go_quiet (fail)
    rotate_left 2
    focus
      have n1 : ((c : Int) == 47) = false := by simp; omega
      have n1' : ¬ (c : Int) = 47 := by omega
      have HTW : Hid ((isAt s.data.toList q 47 && isAt s.data.toList (q + 1) 47) = false) := by
        rw [Hid, Bool.and_eq_false_iff]; left; rw [isAt_no]; rintro ⟨_, e⟩; rw [HC.out] at e; exact e1 e
      go_enter Tryz.func81, Tryz.ntmps81
      go_wp2_with fail
      refine HBK.out.mono ?_
      rintro e w1 ⟨rfl, h, b⟩
      have HF1 := hideB h
      have HB1 := hideB b
      obtain ⟨c0, c1, c2⟩ := h.cells
      clear h b
      go_wp2_with fail
      go_quiet (fail)
  rotate_left 3
  focus
    have hlt1 : ¬ (q : Int) + 1 < (s.size : Int) := by omega
    have hd1 : decide ((q : Int) + 1 < (s.size : Int)) = false := by simpa using hlt1
    have HTW : Hid ((isAt s.data.toList q 47 && isAt s.data.toList (q + 1) 47) = false) := by
      rw [Hid, Bool.and_eq_false_iff]; right; rw [isAt_no]; rintro ⟨e, _⟩; rw [HLN.out] at e; omega
    go_enter Tryz.func81, Tryz.ntmps81
    go_wp2_with fail
    refine HBK.out.mono ?_
    rintro e w1 ⟨rfl, h, b⟩
    have HF1 := hideB h
    have HB1 := hideB b
    obtain ⟨c0, c1, c2⟩ := h.cells
    clear h b
    go_wp2_with fail
    go_quiet (fail)
  all_goals
    have HDD := hideB (below_drewB (w := w1) nq)
    have HF2 := hideB (HF1.out.below HDD.out)
    have HB2 := hideB (HB1.out.trans (LB.of_below HDD.out))
    clear c0 c1 c2
    generalize w1.drewN nq = W0 at HDD HF2 HB2 ⊢
    clear nq
    have hi := lfIs1 44 HF2.out (by omega)
    rw [HQQ.out, show (44 : UInt8).toNat = 44 from rfl] at hi
    cases a0 : (isAt s.data.toList q 44)
    rotate_left
    · have HEQ : Hid (sgnAt 2 s.data.toList q = some (7, 1)) := by rw [Hid, sgn2]; rw [if_pos a0]
      rw [a0] at hi
      have HI := hideB hi
      clear hi a0
      go_wp2_with fail
      refine HI.out.mono ?_
      rintro e w3 ⟨rfl, h3, b3⟩
      have h9 : LfAt w3 rb base Z s (q + 1) false fs := h3
      have HF3 := hideB h9
      have HB3 := hideB (HB2.out.trans b3)
      clear h3 b3 h9
      go_wp2_with fail
      go_ret
      exact ⟨HB3.out, .inr ⟨7, 1, HEQ.out, by decide, by decide, rfl, HF3.out⟩⟩
    rw [a0] at hi
    have HI0 := hideB hi
    have HA0 := hideB a0
    clear hi a0
    go_wp2_with fail
    refine HI0.out.mono ?_
    rintro e v0 ⟨rfl, h3, b3⟩
    have h9 : LfAt v0 rb base Z s q false fs := h3
    have HG0 := hideB h9
    have HC0 := hideB (HB2.out.trans b3)
    clear h3 b3 h9
    have HEQ : Hid (sgnAt 2 s.data.toList q = none) := by rw [Hid, sgn2]; rw [if_neg (by rw [HA0.out]; decide)]
    go_wp2_with fail
    go_ret
    exact ⟨HC0.out, .inl ⟨HEQ.out, rfl, HG0.out⟩⟩
set_option maxRecDepth 100000 in
set_option maxHeartbeats 6400000 in
theorem lfSign_3 {rb base p q : Nat} {Z : Nat → Prop} {s : ByteArray} {fs : List FN} {w : World} (h : LfAt w rb base Z s p false fs) (hs : s.size ≤ 4000) (hq : skF s.data.toList p = q) :
    Calls Tryz.prog 81 #[.pointer (some ⟨rb, 0, none⟩), .int .i64 3] w (SgnOr 3 rb base Z s q fs w) := by
  have HBK := hideB (lfBlanks_any h hs)
  have HLN := hideB (len_is s)
  have HQQ : Hid (skF s.data.toList q = q) := by rw [Hid, ← hq]; exact skF_idem _ _
  have hql : q ≤ s.size := by rw [← hq, ← HLN.out]; exact skF_le (by rw [HLN.out]; exact h.le)
  rw [hq] at HBK
  clear h hq
  by_cases hlt : q + 1 < s.size
  focus
    have hlt0 : (q : Int) < (s.size : Int) := by omega
    have hlt1 : (q : Int) + 1 < (s.size : Int) := by omega
    have hd1 : decide ((q : Int) + 1 < (s.size : Int)) = true := by simpa using hlt1
    have HBA := hideB (byS (show q < s.size by omega))
    have HBB := hideB (byS hlt)
    obtain ⟨c, hc⟩ : ∃ c, s[q].toNat = c := ⟨_, rfl⟩
    obtain ⟨d, hd⟩ : ∃ d, s[q + 1].toNat = d := ⟨_, rfl⟩
    have HC : Hid (byAt s.data.toList q = c) := by rw [Hid, ← HBA.out]; exact hc
    have HD : Hid (byAt s.data.toList (q + 1) = d) := by rw [Hid, ← HBB.out]; exact hd
    have et : ((q : Int) + 1).toNat = q + 1 := by omega
    by_cases e1 : c = 47
    focus
      have n1 : ((c : Int) == 47) = true := by rw [e1]; rfl
      have n1' : (c : Int) = 47 := by omega
      by_cases e2 : d = 47
      focus
        have n2 : ((d : Int) == 47) = true := by rw [e2]; rfl
        have n2' : (d : Int) = 47 := by omega
        have HTW : Hid ((isAt s.data.toList q 47 && isAt s.data.toList (q + 1) 47) = true) := by
          rw [Hid, Bool.and_eq_true]; exact ⟨isAt_yes.2 ⟨by rw [HLN.out]; omega, by rw [HC.out, e1]⟩, isAt_yes.2 ⟨by rw [HLN.out]; omega, by rw [HD.out, e2]⟩⟩
        go_enter Tryz.func81, Tryz.ntmps81
        go_wp2_with fail
        refine HBK.out.mono ?_
        rintro e w1 ⟨rfl, h, b⟩
        have HF1 := hideB h
        have HB1 := hideB b
        obtain ⟨c0, c1, c2⟩ := h.cells
        clear h b
        go_wp2_with fail
        go_quiet (fail)
      rotate_left
      focus
        have n2 : ((d : Int) == 47) = false := by simp; omega
        have n2' : ¬ (d : Int) = 47 := by omega
        have HTW : Hid ((isAt s.data.toList q 47 && isAt s.data.toList (q + 1) 47) = false) := by
          rw [Hid, Bool.and_eq_false_iff]; right; rw [isAt_no]; rintro ⟨_, e⟩; rw [HD.out] at e; exact e2 e
        go_enter Tryz.func81, Tryz.ntmps81
        go_wp2_with fail
        refine HBK.out.mono ?_
        rintro e w1 ⟨rfl, h, b⟩
        have HF1 := hideB h
        have HB1 := hideB b
        obtain ⟨c0, c1, c2⟩ := h.cells
        clear h b
        go_wp2_with fail
        go_quiet (fail)
    rotate_left 2
    focus
      have n1 : ((c : Int) == 47) = false := by simp; omega
      have n1' : ¬ (c : Int) = 47 := by omega
      have HTW : Hid ((isAt s.data.toList q 47 && isAt s.data.toList (q + 1) 47) = false) := by
        rw [Hid, Bool.and_eq_false_iff]; left; rw [isAt_no]; rintro ⟨_, e⟩; rw [HC.out] at e; exact e1 e
      go_enter Tryz.func81, Tryz.ntmps81
      go_wp2_with fail
      refine HBK.out.mono ?_
      rintro e w1 ⟨rfl, h, b⟩
      have HF1 := hideB h
      have HB1 := hideB b
      obtain ⟨c0, c1, c2⟩ := h.cells
      clear h b
      go_wp2_with fail
      go_quiet (fail)
  rotate_left 3
  focus
    have hlt1 : ¬ (q : Int) + 1 < (s.size : Int) := by omega
    have hd1 : decide ((q : Int) + 1 < (s.size : Int)) = false := by simpa using hlt1
    have HTW : Hid ((isAt s.data.toList q 47 && isAt s.data.toList (q + 1) 47) = false) := by
      rw [Hid, Bool.and_eq_false_iff]; right; rw [isAt_no]; rintro ⟨e, _⟩; rw [HLN.out] at e; omega
    go_enter Tryz.func81, Tryz.ntmps81
    go_wp2_with fail
    refine HBK.out.mono ?_
    rintro e w1 ⟨rfl, h, b⟩
    have HF1 := hideB h
    have HB1 := hideB b
    obtain ⟨c0, c1, c2⟩ := h.cells
    clear h b
    go_wp2_with fail
    go_quiet (fail)
  all_goals
    have HDD := hideB (below_drewB (w := w1) nq)
    have HF2 := hideB (HF1.out.below HDD.out)
    have HB2 := hideB (HB1.out.trans (LB.of_below HDD.out))
    clear c0 c1 c2
    generalize w1.drewN nq = W0 at HDD HF2 HB2 ⊢
    clear nq
    have HEQ : Hid (sgnAt 3 s.data.toList q = if (isAt s.data.toList q 47 && isAt s.data.toList (q + 1) 47) = true then some (21, 2) else none) := by rw [Hid, sgn3]; simp only [Bool.and_eq_true]
    rw [HTW.out] at HEQ
    have hi := lfIs2 47 47 HF2.out (by omega)
    rw [HQQ.out, show (47 : UInt8).toNat = 47 from rfl] at hi
    rw [HTW.out] at hi
    have HI := hideB hi
    clear hi
    first
      | (go_wp2_with fail
         go_ret
         exact ⟨HB2.out, .inl ⟨HEQ.out, rfl, HF2.out⟩⟩)
      | (go_wp2_with fail
         refine HI.out.mono ?_
         rintro e w3 ⟨rfl, h3, b3⟩
         have h9 : LfAt w3 rb base Z s (q + 2) false fs := h3
         have HF3 := hideB h9
         have HB3 := hideB (HB2.out.trans b3)
         clear h3 b3 h9
         go_wp2_with fail
         go_ret
         exact ⟨HB3.out, .inr ⟨21, 2, HEQ.out, by decide, by decide, rfl, HF3.out⟩⟩)
set_option maxRecDepth 100000 in
set_option maxHeartbeats 6400000 in
theorem lfSign_4 {rb base p q : Nat} {Z : Nat → Prop} {s : ByteArray} {fs : List FN} {w : World} (h : LfAt w rb base Z s p false fs) (hs : s.size ≤ 4000) (hq : skF s.data.toList p = q) :
    Calls Tryz.prog 81 #[.pointer (some ⟨rb, 0, none⟩), .int .i64 4] w (SgnOr 4 rb base Z s q fs w) := by
  have HBK := hideB (lfBlanks_any h hs)
  have HLN := hideB (len_is s)
  have HQQ : Hid (skF s.data.toList q = q) := by rw [Hid, ← hq]; exact skF_idem _ _
  have hql : q ≤ s.size := by rw [← hq, ← HLN.out]; exact skF_le (by rw [HLN.out]; exact h.le)
  rw [hq] at HBK
  clear h hq
  by_cases hlt : q + 1 < s.size
  focus
    have hlt0 : (q : Int) < (s.size : Int) := by omega
    have hlt1 : (q : Int) + 1 < (s.size : Int) := by omega
    have hd1 : decide ((q : Int) + 1 < (s.size : Int)) = true := by simpa using hlt1
    have HBA := hideB (byS (show q < s.size by omega))
    have HBB := hideB (byS hlt)
    obtain ⟨c, hc⟩ : ∃ c, s[q].toNat = c := ⟨_, rfl⟩
    obtain ⟨d, hd⟩ : ∃ d, s[q + 1].toNat = d := ⟨_, rfl⟩
    have HC : Hid (byAt s.data.toList q = c) := by rw [Hid, ← HBA.out]; exact hc
    have HD : Hid (byAt s.data.toList (q + 1) = d) := by rw [Hid, ← HBB.out]; exact hd
    have et : ((q : Int) + 1).toNat = q + 1 := by omega
    by_cases e1 : c = 47
    focus
      have n1 : ((c : Int) == 47) = true := by rw [e1]; rfl
      have n1' : (c : Int) = 47 := by omega
      by_cases e2 : d = 47
      focus
        have n2 : ((d : Int) == 47) = true := by rw [e2]; rfl
        have n2' : (d : Int) = 47 := by omega
        have HTW : Hid ((isAt s.data.toList q 47 && isAt s.data.toList (q + 1) 47) = true) := by
          rw [Hid, Bool.and_eq_true]; exact ⟨isAt_yes.2 ⟨by rw [HLN.out]; omega, by rw [HC.out, e1]⟩, isAt_yes.2 ⟨by rw [HLN.out]; omega, by rw [HD.out, e2]⟩⟩
        go_enter Tryz.func81, Tryz.ntmps81
        go_wp2_with fail
        refine HBK.out.mono ?_
        rintro e w1 ⟨rfl, h, b⟩
        have HF1 := hideB h
        have HB1 := hideB b
        obtain ⟨c0, c1, c2⟩ := h.cells
        clear h b
        go_wp2_with fail
        go_quiet (fail)
      rotate_left
      focus
        have n2 : ((d : Int) == 47) = false := by simp; omega
        have n2' : ¬ (d : Int) = 47 := by omega
        have HTW : Hid ((isAt s.data.toList q 47 && isAt s.data.toList (q + 1) 47) = false) := by
          rw [Hid, Bool.and_eq_false_iff]; right; rw [isAt_no]; rintro ⟨_, e⟩; rw [HD.out] at e; exact e2 e
        go_enter Tryz.func81, Tryz.ntmps81
        go_wp2_with fail
        refine HBK.out.mono ?_
        rintro e w1 ⟨rfl, h, b⟩
        have HF1 := hideB h
        have HB1 := hideB b
        obtain ⟨c0, c1, c2⟩ := h.cells
        clear h b
        go_wp2_with fail
        go_quiet (fail)
    rotate_left 2
    focus
      have n1 : ((c : Int) == 47) = false := by simp; omega
      have n1' : ¬ (c : Int) = 47 := by omega
      have HTW : Hid ((isAt s.data.toList q 47 && isAt s.data.toList (q + 1) 47) = false) := by
        rw [Hid, Bool.and_eq_false_iff]; left; rw [isAt_no]; rintro ⟨_, e⟩; rw [HC.out] at e; exact e1 e
      go_enter Tryz.func81, Tryz.ntmps81
      go_wp2_with fail
      refine HBK.out.mono ?_
      rintro e w1 ⟨rfl, h, b⟩
      have HF1 := hideB h
      have HB1 := hideB b
      obtain ⟨c0, c1, c2⟩ := h.cells
      clear h b
      go_wp2_with fail
      go_quiet (fail)
  rotate_left 3
  focus
    have hlt1 : ¬ (q : Int) + 1 < (s.size : Int) := by omega
    have hd1 : decide ((q : Int) + 1 < (s.size : Int)) = false := by simpa using hlt1
    have HTW : Hid ((isAt s.data.toList q 47 && isAt s.data.toList (q + 1) 47) = false) := by
      rw [Hid, Bool.and_eq_false_iff]; right; rw [isAt_no]; rintro ⟨e, _⟩; rw [HLN.out] at e; omega
    go_enter Tryz.func81, Tryz.ntmps81
    go_wp2_with fail
    refine HBK.out.mono ?_
    rintro e w1 ⟨rfl, h, b⟩
    have HF1 := hideB h
    have HB1 := hideB b
    obtain ⟨c0, c1, c2⟩ := h.cells
    clear h b
    go_wp2_with fail
    go_quiet (fail)
  all_goals
    have HDD := hideB (below_drewB (w := w1) nq)
    have HF2 := hideB (HF1.out.below HDD.out)
    have HB2 := hideB (HB1.out.trans (LB.of_below HDD.out))
    clear c0 c1 c2
    generalize w1.drewN nq = W0 at HDD HF2 HB2 ⊢
    clear nq
    have hi := lfIs2 61 61 HF2.out (by omega)
    rw [HQQ.out, show (61 : UInt8).toNat = 61 from rfl] at hi
    cases a0 : (isAt s.data.toList q 61 && isAt s.data.toList (q + 1) 61)
    rotate_left
    · have HEQ : Hid (sgnAt 4 s.data.toList q = some (17, 2)) := by rw [Hid, sgn4]; rw [Bool.and_eq_true] at a0; rw [if_pos a0]
      rw [a0] at hi
      have HI := hideB hi
      clear hi a0
      go_wp2_with fail
      refine HI.out.mono ?_
      rintro e w3 ⟨rfl, h3, b3⟩
      have h9 : LfAt w3 rb base Z s (q + 2) false fs := h3
      have HF3 := hideB h9
      have HB3 := hideB (HB2.out.trans b3)
      clear h3 b3 h9
      go_wp2_with fail
      go_ret
      exact ⟨HB3.out, .inr ⟨17, 2, HEQ.out, by decide, by decide, rfl, HF3.out⟩⟩
    rw [a0] at hi
    have HI0 := hideB hi
    have HA0 := hideB a0
    clear hi a0
    go_wp2_with fail
    refine HI0.out.mono ?_
    rintro e v0 ⟨rfl, h3, b3⟩
    have h9 : LfAt v0 rb base Z s q false fs := h3
    have HG0 := hideB h9
    have HC0 := hideB (HB2.out.trans b3)
    clear h3 b3 h9
    have hi := lfIs2 33 61 HG0.out (by omega)
    rw [HQQ.out, show (33 : UInt8).toNat = 33 from rfl, show (61 : UInt8).toNat = 61 from rfl] at hi
    cases a1 : (isAt s.data.toList q 33 && isAt s.data.toList (q + 1) 61)
    rotate_left
    · have HEQ : Hid (sgnAt 4 s.data.toList q = some (18, 2)) := by have a0 := HA0.out; rw [Hid, sgn4]; rw [if_neg (fun e => by rw [e.1, e.2] at a0; cases a0)]; rw [Bool.and_eq_true] at a1; rw [if_pos a1]
      rw [a1] at hi
      have HI := hideB hi
      clear hi a1
      go_wp2_with fail
      refine HI.out.mono ?_
      rintro e w3 ⟨rfl, h3, b3⟩
      have h9 : LfAt w3 rb base Z s (q + 2) false fs := h3
      have HF3 := hideB h9
      have HB3 := hideB (HC0.out.trans b3)
      clear h3 b3 h9
      go_wp2_with fail
      go_ret
      exact ⟨HB3.out, .inr ⟨18, 2, HEQ.out, by decide, by decide, rfl, HF3.out⟩⟩
    rw [a1] at hi
    have HI1 := hideB hi
    have HA1 := hideB a1
    clear hi a1
    go_wp2_with fail
    refine HI1.out.mono ?_
    rintro e v1 ⟨rfl, h3, b3⟩
    have h9 : LfAt v1 rb base Z s q false fs := h3
    have HG1 := hideB h9
    have HC1 := hideB (HC0.out.trans b3)
    clear h3 b3 h9
    have hi := lfIs2 60 61 HG1.out (by omega)
    rw [HQQ.out, show (60 : UInt8).toNat = 60 from rfl, show (61 : UInt8).toNat = 61 from rfl] at hi
    cases a2 : (isAt s.data.toList q 60 && isAt s.data.toList (q + 1) 61)
    rotate_left
    · have HEQ : Hid (sgnAt 4 s.data.toList q = some (20, 2)) := by have a0 := HA0.out; have a1 := HA1.out; rw [Hid, sgn4]; rw [if_neg (fun e => by rw [e.1, e.2] at a0; cases a0)]; rw [if_neg (fun e => by rw [e.1, e.2] at a1; cases a1)]; rw [Bool.and_eq_true] at a2; rw [if_pos a2]
      rw [a2] at hi
      have HI := hideB hi
      clear hi a2
      go_wp2_with fail
      refine HI.out.mono ?_
      rintro e w3 ⟨rfl, h3, b3⟩
      have h9 : LfAt w3 rb base Z s (q + 2) false fs := h3
      have HF3 := hideB h9
      have HB3 := hideB (HC1.out.trans b3)
      clear h3 b3 h9
      go_wp2_with fail
      go_ret
      exact ⟨HB3.out, .inr ⟨20, 2, HEQ.out, by decide, by decide, rfl, HF3.out⟩⟩
    rw [a2] at hi
    have HI2 := hideB hi
    have HA2 := hideB a2
    clear hi a2
    go_wp2_with fail
    refine HI2.out.mono ?_
    rintro e v2 ⟨rfl, h3, b3⟩
    have h9 : LfAt v2 rb base Z s q false fs := h3
    have HG2 := hideB h9
    have HC2 := hideB (HC1.out.trans b3)
    clear h3 b3 h9
    have hi := lfIs1 60 HG2.out (by omega)
    rw [HQQ.out, show (60 : UInt8).toNat = 60 from rfl] at hi
    cases a3 : (isAt s.data.toList q 60)
    rotate_left
    · have HEQ : Hid (sgnAt 4 s.data.toList q = some (19, 1)) := by have a0 := HA0.out; have a1 := HA1.out; have a2 := HA2.out; rw [Hid, sgn4]; rw [if_neg (fun e => by rw [e.1, e.2] at a0; cases a0)]; rw [if_neg (fun e => by rw [e.1, e.2] at a1; cases a1)]; rw [if_neg (fun e => by rw [e.1, e.2] at a2; cases a2)]; rw [if_pos a3]
      rw [a3] at hi
      have HI := hideB hi
      clear hi a3
      go_wp2_with fail
      refine HI.out.mono ?_
      rintro e w3 ⟨rfl, h3, b3⟩
      have h9 : LfAt w3 rb base Z s (q + 1) false fs := h3
      have HF3 := hideB h9
      have HB3 := hideB (HC2.out.trans b3)
      clear h3 b3 h9
      go_wp2_with fail
      go_ret
      exact ⟨HB3.out, .inr ⟨19, 1, HEQ.out, by decide, by decide, rfl, HF3.out⟩⟩
    rw [a3] at hi
    have HI3 := hideB hi
    have HA3 := hideB a3
    clear hi a3
    go_wp2_with fail
    refine HI3.out.mono ?_
    rintro e v3 ⟨rfl, h3, b3⟩
    have h9 : LfAt v3 rb base Z s q false fs := h3
    have HG3 := hideB h9
    have HC3 := hideB (HC2.out.trans b3)
    clear h3 b3 h9
    have HEQ : Hid (sgnAt 4 s.data.toList q = none) := by rw [Hid, sgn4]; rw [if_neg (fun e => by have := HA0.out; rw [e.1, e.2] at this; cases this)]; rw [if_neg (fun e => by have := HA1.out; rw [e.1, e.2] at this; cases this)]; rw [if_neg (fun e => by have := HA2.out; rw [e.1, e.2] at this; cases this)]; rw [if_neg (by rw [HA3.out]; decide)]
    go_wp2_with fail
    go_ret
    exact ⟨HC3.out, .inl ⟨HEQ.out, rfl, HG3.out⟩⟩
set_option maxRecDepth 100000 in
set_option maxHeartbeats 6400000 in
theorem lfSign_5 {rb base p q : Nat} {Z : Nat → Prop} {s : ByteArray} {fs : List FN} {w : World} (h : LfAt w rb base Z s p false fs) (hs : s.size ≤ 4000) (hq : skF s.data.toList p = q) :
    Calls Tryz.prog 81 #[.pointer (some ⟨rb, 0, none⟩), .int .i64 5] w (SgnOr 5 rb base Z s q fs w) := by
  have HBK := hideB (lfBlanks_any h hs)
  have HLN := hideB (len_is s)
  have HQQ : Hid (skF s.data.toList q = q) := by rw [Hid, ← hq]; exact skF_idem _ _
  have hql : q ≤ s.size := by rw [← hq, ← HLN.out]; exact skF_le (by rw [HLN.out]; exact h.le)
  rw [hq] at HBK
  clear h hq
  by_cases hlt : q + 1 < s.size
  focus
    have hlt0 : (q : Int) < (s.size : Int) := by omega
    have hlt1 : (q : Int) + 1 < (s.size : Int) := by omega
    have hd1 : decide ((q : Int) + 1 < (s.size : Int)) = true := by simpa using hlt1
    have HBA := hideB (byS (show q < s.size by omega))
    have HBB := hideB (byS hlt)
    obtain ⟨c, hc⟩ : ∃ c, s[q].toNat = c := ⟨_, rfl⟩
    obtain ⟨d, hd⟩ : ∃ d, s[q + 1].toNat = d := ⟨_, rfl⟩
    have HC : Hid (byAt s.data.toList q = c) := by rw [Hid, ← HBA.out]; exact hc
    have HD : Hid (byAt s.data.toList (q + 1) = d) := by rw [Hid, ← HBB.out]; exact hd
    have et : ((q : Int) + 1).toNat = q + 1 := by omega
    by_cases e1 : c = 47
    focus
      have n1 : ((c : Int) == 47) = true := by rw [e1]; rfl
      have n1' : (c : Int) = 47 := by omega
      by_cases e2 : d = 47
      focus
        have n2 : ((d : Int) == 47) = true := by rw [e2]; rfl
        have n2' : (d : Int) = 47 := by omega
        have HTW : Hid ((isAt s.data.toList q 47 && isAt s.data.toList (q + 1) 47) = true) := by
          rw [Hid, Bool.and_eq_true]; exact ⟨isAt_yes.2 ⟨by rw [HLN.out]; omega, by rw [HC.out, e1]⟩, isAt_yes.2 ⟨by rw [HLN.out]; omega, by rw [HD.out, e2]⟩⟩
        go_enter Tryz.func81, Tryz.ntmps81
        go_wp2_with fail
        refine HBK.out.mono ?_
        rintro e w1 ⟨rfl, h, b⟩
        have HF1 := hideB h
        have HB1 := hideB b
        obtain ⟨c0, c1, c2⟩ := h.cells
        clear h b
        go_wp2_with fail
        go_quiet (fail)
      rotate_left
      focus
        have n2 : ((d : Int) == 47) = false := by simp; omega
        have n2' : ¬ (d : Int) = 47 := by omega
        have HTW : Hid ((isAt s.data.toList q 47 && isAt s.data.toList (q + 1) 47) = false) := by
          rw [Hid, Bool.and_eq_false_iff]; right; rw [isAt_no]; rintro ⟨_, e⟩; rw [HD.out] at e; exact e2 e
        go_enter Tryz.func81, Tryz.ntmps81
        go_wp2_with fail
        refine HBK.out.mono ?_
        rintro e w1 ⟨rfl, h, b⟩
        have HF1 := hideB h
        have HB1 := hideB b
        obtain ⟨c0, c1, c2⟩ := h.cells
        clear h b
        go_wp2_with fail
        go_quiet (fail)
    rotate_left 2
    focus
      have n1 : ((c : Int) == 47) = false := by simp; omega
      have n1' : ¬ (c : Int) = 47 := by omega
      have HTW : Hid ((isAt s.data.toList q 47 && isAt s.data.toList (q + 1) 47) = false) := by
        rw [Hid, Bool.and_eq_false_iff]; left; rw [isAt_no]; rintro ⟨_, e⟩; rw [HC.out] at e; exact e1 e
      go_enter Tryz.func81, Tryz.ntmps81
      go_wp2_with fail
      refine HBK.out.mono ?_
      rintro e w1 ⟨rfl, h, b⟩
      have HF1 := hideB h
      have HB1 := hideB b
      obtain ⟨c0, c1, c2⟩ := h.cells
      clear h b
      go_wp2_with fail
      go_quiet (fail)
  rotate_left 3
  focus
    have hlt1 : ¬ (q : Int) + 1 < (s.size : Int) := by omega
    have hd1 : decide ((q : Int) + 1 < (s.size : Int)) = false := by simpa using hlt1
    have HTW : Hid ((isAt s.data.toList q 47 && isAt s.data.toList (q + 1) 47) = false) := by
      rw [Hid, Bool.and_eq_false_iff]; right; rw [isAt_no]; rintro ⟨e, _⟩; rw [HLN.out] at e; omega
    go_enter Tryz.func81, Tryz.ntmps81
    go_wp2_with fail
    refine HBK.out.mono ?_
    rintro e w1 ⟨rfl, h, b⟩
    have HF1 := hideB h
    have HB1 := hideB b
    obtain ⟨c0, c1, c2⟩ := h.cells
    clear h b
    go_wp2_with fail
    go_quiet (fail)
  all_goals
    have HDD := hideB (below_drewB (w := w1) nq)
    have HF2 := hideB (HF1.out.below HDD.out)
    have HB2 := hideB (HB1.out.trans (LB.of_below HDD.out))
    clear c0 c1 c2
    generalize w1.drewN nq = W0 at HDD HF2 HB2 ⊢
    clear nq
    have hi := lfIs1 43 HF2.out (by omega)
    rw [HQQ.out, show (43 : UInt8).toNat = 43 from rfl] at hi
    cases a0 : (isAt s.data.toList q 43)
    rotate_left
    · have HEQ : Hid (sgnAt 5 s.data.toList q = some (15, 1)) := by rw [Hid, sgn5]; rw [if_pos a0]
      rw [a0] at hi
      have HI := hideB hi
      clear hi a0
      go_wp2_with fail
      refine HI.out.mono ?_
      rintro e w3 ⟨rfl, h3, b3⟩
      have h9 : LfAt w3 rb base Z s (q + 1) false fs := h3
      have HF3 := hideB h9
      have HB3 := hideB (HB2.out.trans b3)
      clear h3 b3 h9
      go_wp2_with fail
      go_ret
      exact ⟨HB3.out, .inr ⟨15, 1, HEQ.out, by decide, by decide, rfl, HF3.out⟩⟩
    rw [a0] at hi
    have HI0 := hideB hi
    have HA0 := hideB a0
    clear hi a0
    go_wp2_with fail
    refine HI0.out.mono ?_
    rintro e v0 ⟨rfl, h3, b3⟩
    have h9 : LfAt v0 rb base Z s q false fs := h3
    have HG0 := hideB h9
    have HC0 := hideB (HB2.out.trans b3)
    clear h3 b3 h9
    have hi := lfIs1 45 HG0.out (by omega)
    rw [HQQ.out, show (45 : UInt8).toNat = 45 from rfl] at hi
    cases a1 : (isAt s.data.toList q 45)
    rotate_left
    · have HEQ : Hid (sgnAt 5 s.data.toList q = some (16, 1)) := by have a0 := HA0.out; rw [Hid, sgn5]; rw [if_neg (by rw [a0]; decide)]; rw [if_pos a1]
      rw [a1] at hi
      have HI := hideB hi
      clear hi a1
      go_wp2_with fail
      refine HI.out.mono ?_
      rintro e w3 ⟨rfl, h3, b3⟩
      have h9 : LfAt w3 rb base Z s (q + 1) false fs := h3
      have HF3 := hideB h9
      have HB3 := hideB (HC0.out.trans b3)
      clear h3 b3 h9
      go_wp2_with fail
      go_ret
      exact ⟨HB3.out, .inr ⟨16, 1, HEQ.out, by decide, by decide, rfl, HF3.out⟩⟩
    rw [a1] at hi
    have HI1 := hideB hi
    have HA1 := hideB a1
    clear hi a1
    go_wp2_with fail
    refine HI1.out.mono ?_
    rintro e v1 ⟨rfl, h3, b3⟩
    have h9 : LfAt v1 rb base Z s q false fs := h3
    have HG1 := hideB h9
    have HC1 := hideB (HC0.out.trans b3)
    clear h3 b3 h9
    have HEQ : Hid (sgnAt 5 s.data.toList q = none) := by rw [Hid, sgn5]; rw [if_neg (by rw [HA0.out]; decide)]; rw [if_neg (by rw [HA1.out]; decide)]
    go_wp2_with fail
    go_ret
    exact ⟨HC1.out, .inl ⟨HEQ.out, rfl, HG1.out⟩⟩
/-- The sign of any level from 1 to 5. -/
theorem lfSign_any {rb base p q : Nat} {Z : Nat → Prop} {s : ByteArray} {fs : List FN} {w : World} {l : Int} (h1 : 1 ≤ l) (h5 : l ≤ 5) (h : LfAt w rb base Z s p false fs) (hs : s.size ≤ 4000) (hq : skF s.data.toList p = q) :
    Calls Tryz.prog 81 #[.pointer (some ⟨rb, 0, none⟩), .int .i64 l] w (SgnOr l rb base Z s q fs w) := by
  rcases (show l = 1 ∨ l = 2 ∨ l = 3 ∨ l = 4 ∨ l = 5 by omega) with rfl | rfl | rfl | rfl | rfl
  · exact lfSign_1 h hs hq
  · exact lfSign_2 h hs hq
  · exact lfSign_3 h hs hq
  · exact lfSign_4 h hs hq
  · exact lfSign_5 h hs hq
end Go.Proofs.YtehihemfepbmfaaGreatDoor
