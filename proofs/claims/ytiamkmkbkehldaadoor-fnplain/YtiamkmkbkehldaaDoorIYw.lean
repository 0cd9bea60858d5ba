/-
  The program's YAML: a word, a short value's line, the head of a part's line.
-/
import Derived.Test.YtiamkmkbkehldaaDoorYmP
import Derived.Test.YtiamkmkbkehldaaDoorIPlY
import Derived.Test.YtiamkmkbkehldaaDoorLowN
namespace Go.Proofs.YtiamkmkbkehldaaDoor
open Go.RowKit
set_option linter.unusedSimpArgs false
set_option linter.unusedVariables false

set_option maxRecDepth 100000 in
set_option maxHeartbeats 800000 in
theorem plainOrQuoted_any (s : ByteArray) (w : World) (hs : s.size ≤ 60) : Calls Tryd.prog 39 #[.string s] w fun e w' => e = .returned (.string (txt (wordY s))) ∧ Below w.heap.size w w' := by
  have HP := hideIt (iPlain_walk s w)
  cases hp : plainL s.data.toList
  · have HW : Hid (wordY s = quoT s) := by rw [Hid]; unfold wordY; rw [hp]; rfl
    rw [hp] at HP
    go_enter Tryd.func39, Tryd.ntmps39
    go_wp2_with fail
    refine HP.out.mono ?_
    rintro e w1 ⟨rfl, hb1⟩
    have HB1 := hideIt hb1
    have z1 := hb1.size
    clear hb1
    go_wp2_with fail
    refine (iQuo_any s _ (by omega)).mono ?_
    rintro e w2 ⟨rfl, hb2⟩
    have HB2 := hideIt (HB1.out.trans (hb2.mono z1))
    clear hb2
    go_wp2_with fail
    go_ret
    exact ⟨by rw [HW.out]; rfl, HB2.out⟩
  · have HW : Hid (wordY s = s.data.toList) := by rw [Hid]; unfold wordY; rw [hp]; rfl
    rw [hp] at HP
    go_enter Tryd.func39, Tryd.ntmps39
    go_wp2_with fail
    refine HP.out.mono ?_
    rintro e w1 ⟨rfl, hb1⟩
    have HB1 := hideIt hb1
    clear hb1
    go_wp2_with fail
    go_ret
    exact ⟨by rw [HW.out, txt_bytes]; rfl, HB1.out⟩

set_option maxRecDepth 100000 in
set_option maxHeartbeats 1600000 in
theorem isShort_any (B f : Nat) (t : VT) (v : Value) (w : World) (h : TreeAt B w (f + 1) t v) : Calls Tryd.prog 23 #[v] w fun e w' => e = .returned (.bool (decide ((kidsY t).length = 0))) ∧ Below w.heap.size w w' := by
  obtain ⟨kind, n, s, keys, kids⟩ := t
  rcases h with ⟨rfl, rfl, rfl, rfl, rfl, rfl⟩ | ⟨rfl, rfl, rfl, rfl, rfl⟩ | ⟨rfl, rfl, rfl, rfl, rfl⟩ | ⟨rfl, rfl, rfl, rfl, rfl⟩ | ⟨rfl, rfl, rfl, rfl, it, rfl, hi⟩ | ⟨rfl, rfl, rfl, ks, it, rfl, hk, hi⟩
  · go_enter Tryd.func23, Tryd.ntmps23
    go_wp2_with fail
    refine (parts1_any _).mono ?_
    rintro e w1 ⟨rfl, hb1⟩
    go_wp2_with fail
    go_ret
    exact ⟨rfl, hb1⟩
  · go_enter Tryd.func23, Tryd.ntmps23
    go_wp2_with fail
    refine (parts2_any _ _).mono ?_
    rintro e w1 ⟨rfl, hb1⟩
    go_wp2_with fail
    go_ret
    exact ⟨rfl, hb1⟩
  · go_enter Tryd.func23, Tryd.ntmps23
    go_wp2_with fail
    refine (parts3_any _ _).mono ?_
    rintro e w1 ⟨rfl, hb1⟩
    go_wp2_with fail
    go_ret
    exact ⟨rfl, hb1⟩
  · go_enter Tryd.func23, Tryd.ntmps23
    go_wp2_with fail
    refine (parts4_any _ _).mono ?_
    rintro e w1 ⟨rfl, hb1⟩
    go_wp2_with fail
    go_ret
    exact ⟨rfl, hb1⟩
  · obtain ⟨h0, ai, ci, rfl, _⟩ := hi
    obtain ⟨M, hM⟩ : ∃ M, kids.length = M := ⟨_, rfl⟩
    have HK : Hid ((kidsY (.mk 5 0 ByteArray.empty [] kids)).length = M) := hM
    rw [HK.out]
    rw [hM]
    clear hM HK
    go_enter Tryd.func23, Tryd.ntmps23
    go_wp2_with fail
    refine (parts5_any _ _ _ _).mono ?_
    rintro e w1 ⟨rfl, hb1⟩
    go_wp2_with fail
    go_ret
    refine ⟨?_, hb1⟩
    show Ending.returned (.bool _) = Ending.returned (.bool _)
    congr 2
    by_cases e : M = 0
    · subst e; rfl
    · simp [e]
  · obtain ⟨h0, ai, ci, rfl, _⟩ := hi
    obtain ⟨_, _, aK, cK, rfl, _⟩ := hk
    obtain ⟨M, hM⟩ : ∃ M, kids.length = M := ⟨_, rfl⟩
    have HK : Hid ((kidsY (.mk 6 0 ByteArray.empty keys kids)).length = M) := hM
    rw [HK.out]
    rw [hM]
    clear hM HK
    go_enter Tryd.func23, Tryd.ntmps23
    go_wp2_with fail
    refine (parts6_any _ _ _ _ _ _ _).mono ?_
    rintro e w1 ⟨rfl, hb1⟩
    go_wp2_with fail
    go_ret
    refine ⟨?_, hb1⟩
    show Ending.returned (.bool _) = Ending.returned (.bool _)
    congr 2
    by_cases e : M = 0
    · subst e; rfl
    · simp [e]
end Go.Proofs.YtiamkmkbkehldaaDoor
