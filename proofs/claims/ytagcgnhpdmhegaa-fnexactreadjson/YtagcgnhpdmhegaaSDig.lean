/-
  The specification's l2Rj: its place in memory, blanks, signs.
-/
import Derived.Test.YtagcgnhpdmhegaaJrP
import Derived.Test.YtagcgnhpdmhegaaJrT
import Derived.Test.YtagcgnhpdmhegaaJrX
import Derived.Test.YtagcgnhpdmhegaaProg
import Derived.Test.YtagcgnhpdmhegaaStepC
import Derived.Test.YtagcgnhpdmhegaaStb
import Derived.Laws.IdiomStrings
import Derived.Below
import Derived.WideShapes
import Derived.WalkKit
import Derived.Deep.QuietTactic
import Derived.BigQuiet
import Derived.Deep.RegionWith
namespace Go.Proofs.Ytagcgnhpdmhegaa
open Go.RowKit
set_option linter.unusedSimpArgs false
set_option linter.unusedVariables false

/-- The reader of the text 's' in block 'rb': behind 'p' bytes, spoilt or not, so many values so far. -/
structure SjAt (w : World) (rb : Nat) (s : ByteArray) (p : Nat) (bad : Bool) (c : Nat) : Prop where
  blk : w.heap[rb]? = some (.cells #[.string s, .int .i64 p, .bool bad, .int .i64 c] 30 (0, 0))
  le : p ≤ s.size
  few : c ≤ 5000
theorem SjAt.lt {w : World} {rb p c : Nat} {s : ByteArray} {bad : Bool} (h : SjAt w rb s p bad c) : rb < w.heap.size := ltH h.blk
theorem SjAt.cells {w : World} {rb p c : Nat} {s : ByteArray} {bad : Bool} (h : SjAt w rb s p bad c) : w.cell? ⟨rb, 0, none⟩ = some (.string s) ∧ w.cell? ⟨rb, 1, none⟩ = some (.int .i64 p) ∧ w.cell? ⟨rb, 2, none⟩ = some (.bool bad) ∧ w.cell? ⟨rb, 3, none⟩ = some (.int .i64 c) :=
  ⟨cellSc h.blk rfl, cellSc h.blk rfl, cellSc h.blk rfl, cellSc h.blk rfl⟩
theorem SjAt.free {w : World} {rb p c : Nat} {s : ByteArray} {bad : Bool} (h : SjAt w rb s p bad c) (i : Nat) : w.frozen? ⟨rb, i, none⟩ = false := Lib.frozen_of_heap h.blk i
theorem SjAt.keep {w w' : World} {rb p c : Nat} {s : ByteArray} {bad : Bool} (h : SjAt w rb s p bad c) (hb : w'.heap[rb]? = w.heap[rb]?) : SjAt w' rb s p bad c := ⟨hb.trans h.blk, h.le, h.few⟩
theorem SjAt.below {w w' : World} {rb p c : Nat} {s : ByteArray} {bad : Bool} (h : SjAt w rb s p bad c) (hb : Below w.heap.size w w') : SjAt w' rb s p bad c := h.keep (hb.block rb h.lt)
theorem SjAt.setP {w : World} {rb p c q : Nat} {s : ByteArray} {bad : Bool} (h : SjAt w rb s p bad c) (hq : q ≤ s.size) : SjAt (w.setCell ⟨rb, 1, none⟩ (.int .i64 q)) rb s q bad c := ⟨setH h.blk _, hq, h.few⟩
theorem SjAt.setB {w : World} {rb p c : Nat} {s : ByteArray} {bad : Bool} (h : SjAt w rb s p bad c) (x : Bool) : SjAt (w.setCell ⟨rb, 2, none⟩ (.bool x)) rb s p x c := ⟨setH h.blk _, h.le, h.few⟩
theorem SjAt.setN {w : World} {rb p c d : Nat} {s : ByteArray} {bad : Bool} (h : SjAt w rb s p bad c) (hd : d ≤ 5000) : SjAt (w.setCell ⟨rb, 3, none⟩ (.int .i64 d)) rb s p bad d := ⟨setH h.blk _, h.le, hd⟩
theorem SjAt.placeOf {w : World} {rb p c : Nat} {s : ByteArray} {bad : Bool} (h : SjAt w rb s p bad c) : placeOf w rb = p := by unfold Go.Proofs.Ytagcgnhpdmhegaa.placeOf; rw [h.cells.2.1]; simp [intOf]

set_option maxRecDepth 100000 in
set_option maxHeartbeats 3200000 in
theorem sjBlanks_any {rb p c : Nat} {s : ByteArray} {bad : Bool} {w : World} (h : SjAt w rb s p bad c) (hs : s.size ≤ 4000) :
    Calls Try.prog 19 #[.pointer (some ⟨rb, 0, none⟩)] w fun e w' => e = .returned (.tuple #[]) ∧ SjAt w' rb s (skipJ s.data.toList p) bad c ∧ But rb w w' := by
  have H := hideB h
  clear h
  go_enter Try.func19, Try.ntmps19
  go_wp2_with fail
  go_loopw [] (fun wr => ∃ q, SjAt wr rb s q bad c ∧ Hid (skipJ s.data.toList q = skipJ s.data.toList p) ∧ But rb w wr) (fun wr => s.size - placeOf wr rb)
  case atStart => exact ⟨p, H.out, rfl, But.refl _ _⟩
  case round =>
    obtain ⟨q, hsr, HK, hbt⟩ := hrel
    have HS := hideB hsr
    have HBT := hideB hbt
    have h1 := hsr.cells.1
    have h2 := hsr.cells.2.1
    have h3 := hsr.free 1
    have h4 := hsr.lt
    have h5 := hsr.le
    clear hsr hbt
    by_cases hq : q < s.size
    · have hq' : (q : Int) < (s.size : Int) := by omega
      have HB := hideB (byS hq)
      by_cases hb0 : s[q].toNat = 32
      · have hbb := hb0
        clear hb0
        have HNX : Hid (skipJ s.data.toList q = skipJ s.data.toList (q + 1)) := runJ_yes (by rw [len_is]; exact hq) (by rw [← HB.out, hbb]; rfl)
        have d0 : ((s[q].toNat : Int) == 32) = true := by rw [hbb]; rfl
        have e0 : (s[q].toNat : Int) = 32 := by rw [hbb]; rfl
        clear hbb
        go_wp2_with fail
        go_quiet (fail)
        have HD := hideB (below_drewB (w := wr) nq)
        have HR := hideB (HS.out.below HD.out)
        have k1 := HR.out.cells.1
        have k2 := HR.out.cells.2.1
        have k3 := HR.out.free 1
        generalize wr.drewN nq = W1 at HR HD k1 k2 k3 ⊢
        clear nq h1 h2 h3
        go_wp2_with fail
        go_roundw
        case rel =>
          have e : ((q : Int) + 1) = ((q + 1 : Nat) : Int) := by omega
          refine ⟨q + 1, ?_, by rw [Hid, ← HNX.out]; exact HK.out, (HBT.out.trans (But.of_below HD.out)).trans (But.of_set _ _)⟩
          rw [e]
          exact HR.out.setP hq
        case measure =>
          have e : ((q : Int) + 1) = ((q + 1 : Nat) : Int) := by omega
          rw [HS.out.placeOf, e, (HR.out.setP hq).placeOf]
          omega
      by_cases hb1 : s[q].toNat = 9
      · have hbb := hb1
        clear hb1
        have HNX : Hid (skipJ s.data.toList q = skipJ s.data.toList (q + 1)) := runJ_yes (by rw [len_is]; exact hq) (by rw [← HB.out, hbb]; rfl)
        have d0 : ((s[q].toNat : Int) == 32) = false := by simp; omega
        have e0 : ¬ (s[q].toNat : Int) = 32 := by omega
        have d1 : ((s[q].toNat : Int) == 9) = true := by rw [hbb]; rfl
        have e1 : (s[q].toNat : Int) = 9 := by rw [hbb]; rfl
        clear hbb
        go_wp2_with fail
        go_quiet (fail)
        have HD := hideB (below_drewB (w := wr) nq)
        have HR := hideB (HS.out.below HD.out)
        have k1 := HR.out.cells.1
        have k2 := HR.out.cells.2.1
        have k3 := HR.out.free 1
        generalize wr.drewN nq = W1 at HR HD k1 k2 k3 ⊢
        clear nq h1 h2 h3
        go_wp2_with fail
        go_roundw
        case rel =>
          have e : ((q : Int) + 1) = ((q + 1 : Nat) : Int) := by omega
          refine ⟨q + 1, ?_, by rw [Hid, ← HNX.out]; exact HK.out, (HBT.out.trans (But.of_below HD.out)).trans (But.of_set _ _)⟩
          rw [e]
          exact HR.out.setP hq
        case measure =>
          have e : ((q : Int) + 1) = ((q + 1 : Nat) : Int) := by omega
          rw [HS.out.placeOf, e, (HR.out.setP hq).placeOf]
          omega
      by_cases hb2 : s[q].toNat = 10
      · have hbb := hb2
        clear hb2
        have HNX : Hid (skipJ s.data.toList q = skipJ s.data.toList (q + 1)) := runJ_yes (by rw [len_is]; exact hq) (by rw [← HB.out, hbb]; rfl)
        have d0 : ((s[q].toNat : Int) == 32) = false := by simp; omega
        have e0 : ¬ (s[q].toNat : Int) = 32 := by omega
        have d1 : ((s[q].toNat : Int) == 9) = false := by simp; omega
        have e1 : ¬ (s[q].toNat : Int) = 9 := by omega
        have d2 : ((s[q].toNat : Int) == 10) = true := by rw [hbb]; rfl
        have e2 : (s[q].toNat : Int) = 10 := by rw [hbb]; rfl
        clear hbb
        go_wp2_with fail
        go_quiet (fail)
        have HD := hideB (below_drewB (w := wr) nq)
        have HR := hideB (HS.out.below HD.out)
        have k1 := HR.out.cells.1
        have k2 := HR.out.cells.2.1
        have k3 := HR.out.free 1
        generalize wr.drewN nq = W1 at HR HD k1 k2 k3 ⊢
        clear nq h1 h2 h3
        go_wp2_with fail
        go_roundw
        case rel =>
          have e : ((q : Int) + 1) = ((q + 1 : Nat) : Int) := by omega
          refine ⟨q + 1, ?_, by rw [Hid, ← HNX.out]; exact HK.out, (HBT.out.trans (But.of_below HD.out)).trans (But.of_set _ _)⟩
          rw [e]
          exact HR.out.setP hq
        case measure =>
          have e : ((q : Int) + 1) = ((q + 1 : Nat) : Int) := by omega
          rw [HS.out.placeOf, e, (HR.out.setP hq).placeOf]
          omega
      by_cases hb3 : s[q].toNat = 13
      · have hbb := hb3
        clear hb3
        have HNX : Hid (skipJ s.data.toList q = skipJ s.data.toList (q + 1)) := runJ_yes (by rw [len_is]; exact hq) (by rw [← HB.out, hbb]; rfl)
        have d0 : ((s[q].toNat : Int) == 32) = false := by simp; omega
        have e0 : ¬ (s[q].toNat : Int) = 32 := by omega
        have d1 : ((s[q].toNat : Int) == 9) = false := by simp; omega
        have e1 : ¬ (s[q].toNat : Int) = 9 := by omega
        have d2 : ((s[q].toNat : Int) == 10) = false := by simp; omega
        have e2 : ¬ (s[q].toNat : Int) = 10 := by omega
        have d3 : ((s[q].toNat : Int) == 13) = true := by rw [hbb]; rfl
        have e3 : (s[q].toNat : Int) = 13 := by rw [hbb]; rfl
        clear hbb
        go_wp2_with fail
        go_quiet (fail)
        have HD := hideB (below_drewB (w := wr) nq)
        have HR := hideB (HS.out.below HD.out)
        have k1 := HR.out.cells.1
        have k2 := HR.out.cells.2.1
        have k3 := HR.out.free 1
        generalize wr.drewN nq = W1 at HR HD k1 k2 k3 ⊢
        clear nq h1 h2 h3
        go_wp2_with fail
        go_roundw
        case rel =>
          have e : ((q : Int) + 1) = ((q + 1 : Nat) : Int) := by omega
          refine ⟨q + 1, ?_, by rw [Hid, ← HNX.out]; exact HK.out, (HBT.out.trans (But.of_below HD.out)).trans (But.of_set _ _)⟩
          rw [e]
          exact HR.out.setP hq
        case measure =>
          have e : ((q : Int) + 1) = ((q + 1 : Nat) : Int) := by omega
          rw [HS.out.placeOf, e, (HR.out.setP hq).placeOf]
          omega
      · have HNX : Hid (skipJ s.data.toList q = q) := runJ_no (fun e => by
          have := e.2
          rw [← HB.out] at this
          unfold blankC at this
          simp at this
          omega)
        have d0 : ((s[q].toNat : Int) == 32) = false := by simp; omega
        have e0 : ¬ (s[q].toNat : Int) = 32 := by omega
        have d1 : ((s[q].toNat : Int) == 9) = false := by simp; omega
        have e1 : ¬ (s[q].toNat : Int) = 9 := by omega
        have d2 : ((s[q].toNat : Int) == 10) = false := by simp; omega
        have e2 : ¬ (s[q].toNat : Int) = 10 := by omega
        have d3 : ((s[q].toNat : Int) == 13) = false := by simp; omega
        have e3 : ¬ (s[q].toNat : Int) = 13 := by omega
        clear hb0 hb1 hb2 hb3
        go_wp2_with fail
        go_quiet (fail)
        have HD := hideB (below_drewB (w := wr) nq)
        go_wp2_with fail
        go_end0
        exact ⟨rfl, by rw [← HK.out, HNX.out]; exact HS.out.below HD.out, HBT.out.trans (But.of_below HD.out)⟩
    · obtain rfl : q = s.size := by omega
      have HNX : Hid (skipJ s.data.toList s.size = s.size) := runJ_past (by rw [len_is]; omega)
      go_wp2_with fail
      go_quiet (fail)
      have HD := hideB (below_drewB (w := wr) nq)
      go_wp2_with fail
      go_end0
      exact ⟨rfl, by rw [← HK.out, HNX.out]; exact HS.out.below HD.out, HBT.out.trans (But.of_below HD.out)⟩
end Go.Proofs.Ytagcgnhpdmhegaa

/-
  The specification's l2Rj: does a word stand at its place?
-/
namespace Go.Proofs.Ytagcgnhpdmhegaa
open Go.RowKit
set_option linter.unusedSimpArgs false
set_option linter.unusedVariables false

theorem wordAt_one {L : List UInt8} {p : Nat} {c : UInt8} : wordAt L p [c] = isAt L p c.toNat := by
  unfold wordAt isAt
  by_cases h : p < L.length
  · rw [List.drop_eq_getElem_cons h]
    have e : byAt L p = (L[p]).toNat := by unfold byAt; rw [List.getD_eq_getElem?_getD, List.getElem?_eq_getElem h]; rfl
    rw [e, show List.take [c].length (L[p] :: L.drop (p + 1)) = [L[p]] from rfl, Bool.eq_iff_iff]
    simp only [decide_eq_true_eq, Bool.and_eq_true, List.cons.injEq, and_true]
    exact ⟨fun x => ⟨h, by rw [x]⟩, fun x => UInt8.toNat_inj.1 x.2⟩
  · rw [List.drop_of_length_le (by omega)]
    simp [h]
theorem word_cut {s u : ByteArray} {p : Nat} : wordAt s.data.toList p u.data.toList = decide (cutT s.data.toList p u.size = u) := by
  unfold wordAt cutT
  rw [len_is, Bool.eq_iff_iff]
  simp only [decide_eq_true_eq]
  exact ⟨fun h => by rw [h, txt_bytes], fun h => by rw [← bytes_txt (List.take _ _), h]⟩

set_option maxRecDepth 100000 in
set_option maxHeartbeats 3200000 in
theorem sjIs_yes {rb p c : Nat} {s u : ByteArray} {w : World} (h : SjAt w rb s p false c) (hs : s.size ≤ 4000) (hu : u.size ≤ 1000) (hu0 : u.data.toList ≠ []) (hw : wordAt s.data.toList p u.data.toList = true) :
    Calls Try.prog 21 #[.pointer (some ⟨rb, 0, none⟩), .string u] w fun e w' => e = .returned (.bool true) ∧ SjAt w' rb s (p + u.size) false c ∧ But rb w w' := by
  have H := hideB h
  obtain ⟨c0, c1, c2, c3⟩ := h.cells
  have f1 := h.free 1
  have hle := h.le
  clear h
  have hfit : p + u.size ≤ s.size := by have := wordAt_le hw hu0; rw [len_is, len_is] at this; exact this
  have HT : Hid (cutT s.data.toList p u.size = u) := by rw [word_cut] at hw; simpa [Hid] using hw
  clear hw
  have g3 : ¬ (s.size : Int) < (p : Int) + (u.size : Int) := by omega
  have d3 : decide ((s.size : Int) < (p : Int) + (u.size : Int)) = false := by simpa using g3
  have e1 : ((p + u.size : Nat) : Int) = (p : Int) + (u.size : Int) := by omega
  have hcut : ∀ w, (Instr.slice 9 (.string s) (some (.int .i64 (p : Int))) (some (.int .i64 ((p : Int) + (u.size : Int)))) none).run Try.prog w = .ok (.string u) w := fun w => by
    have := run_cut (P := Try.prog) (t := 9) s p (p + u.size) Try.underlying9 (by omega) hfit w
    rw [e1, Nat.add_sub_cancel_left] at this
    have e := HT.out
    unfold cutT at e
    rw [this, e]
  go_enter Try.func21, Try.ntmps21
  go_wp2_with fail
  go_quiet (fail)
  have HD1 := hideB (below_drewB (w := w) nq)
  have HR1 := hideB (H.out.below HD1.out)
  obtain ⟨k0, k1, k2, k3⟩ := HR1.out.cells
  have l1 := HR1.out.free 1
  generalize w.drewN nq = W1 at HR1 HD1 k0 k1 k2 k3 l1 ⊢
  clear nq c0 c1 c2 c3 f1
  have HR2 := hideB (HR1.out.setP hfit)
  have HB2 := hideB ((But.of_below (rb := rb) HD1.out).trans (But.of_set 1 (.int .i64 ((p : Int) + (u.size : Int)))))
  rw [e1] at HR2
  go_wp2_with fail
  go_ret
  exact ⟨rfl, HR2.out, HB2.out⟩

set_option maxRecDepth 100000 in
set_option maxHeartbeats 3200000 in
theorem sjIs_no {rb p c : Nat} {s u : ByteArray} {bad : Bool} {w : World} (h : SjAt w rb s p bad c) (hs : s.size ≤ 4000) (hu : u.size ≤ 1000) (hw : bad = true ∨ wordAt s.data.toList p u.data.toList = false) :
    Calls Try.prog 21 #[.pointer (some ⟨rb, 0, none⟩), .string u] w fun e w' => e = .returned (.bool false) ∧ SjAt w' rb s p bad c ∧ But rb w w' := by
  have H := hideB h
  obtain ⟨c0, c1, c2, c3⟩ := h.cells
  have hle := h.le
  clear h
  cases hb : bad
  rotate_left
  focus
    subst hb
    go_enter Try.func21, Try.ntmps21
    go_wp2_with fail
    go_quiet (fail)
  rotate_left
  focus
    subst hb
    have HT : Hid (cutT s.data.toList p u.size ≠ u) := by
      rcases hw with hw | hw
      · cases hw
      · rw [word_cut] at hw; simpa [Hid] using hw
    clear hw
    by_cases g3 : s.size < p + u.size
    focus
      have g3' : (s.size : Int) < (p : Int) + (u.size : Int) := by omega
      have d3 : decide ((s.size : Int) < (p : Int) + (u.size : Int)) = true := by simpa using g3'
      go_enter Try.func21, Try.ntmps21
      go_wp2_with fail
      go_quiet (fail)
    rotate_left
    focus
      have g3' : ¬ (s.size : Int) < (p : Int) + (u.size : Int) := by omega
      have d3 : decide ((s.size : Int) < (p : Int) + (u.size : Int)) = false := by simpa using g3'
      have e1 : ((p + u.size : Nat) : Int) = (p : Int) + (u.size : Int) := by omega
      obtain ⟨T, hT⟩ : ∃ T, cutT s.data.toList p u.size = T := ⟨_, rfl⟩
      have HTT := hideB hT
      rw [hT] at HT
      clear hT
      have hcut : ∀ w, (Instr.slice 9 (.string s) (some (.int .i64 (p : Int))) (some (.int .i64 ((p : Int) + (u.size : Int)))) none).run Try.prog w = .ok (.string T) w := fun w => by
        have := run_cut (P := Try.prog) (t := 9) s p (p + u.size) Try.underlying9 (by omega) (by omega) w
        rw [e1, Nat.add_sub_cancel_left] at this
        have e := HTT.out
        unfold cutT at e
        rw [this, e]
      have hne : (T.toList == u.toList) = false := by
        rw [Bool.eq_false_iff]
        exact fun e => HT.out (str_eq e)
      have hne' : ¬ T.toList = u.toList := by simpa using hne
      go_enter Try.func21, Try.ntmps21
      go_wp2_with fail
      go_quiet (fail)
  all_goals
    have HD1 := hideB (below_drewB (w := w) nq)
    have HR1 := hideB (H.out.below HD1.out)
    generalize w.drewN nq = W1 at HR1 HD1 ⊢
    go_wp2_with fail
    go_ret
    exact ⟨rfl, HR1.out, But.of_below HD1.out⟩
end Go.Proofs.Ytagcgnhpdmhegaa

/-
  The specification's l2Hex: one sign.
-/
namespace Go.Proofs.Ytagcgnhpdmhegaa
open Go.RowKit Go.WideShapes
set_option linter.unusedSimpArgs false
set_option linter.unusedVariables false
theorem one_byte (x : UInt8) (w : World) : (convert 69 9 (.slice (some ⟨w.heap.size, 0, none⟩) 1 1)).run Try.prog (w.alloc (.cells #[.int .u8 (x.toNat : Int)] 5)) = .ok (.string ⟨#[x]⟩) (w.alloc (.cells #[.int .u8 (x.toNat : Int)] 5)) := by
  have := run_convert_bytes_back (P := Try.prog) (w.alloc (.cells #[.int .u8 (x.toNat : Int)] 5)) 69 9 5 ⟨w.heap.size, 0, none⟩ 1 [x] Try.underlying69 Try.underlying5 Try.underlying9 (fun j hj => by
    obtain rfl : j = 0 := by simpa using hj
    rw [add_plain, Nat.zero_add]
    simp)
  exact this

theorem txt_one (x : UInt8) : (txt [x]).size = 1 := txt_size [x]
end Go.Proofs.Ytagcgnhpdmhegaa

/-
  The specification's Escaped.
-/
namespace Go.Proofs.Ytagcgnhpdmhegaa
open Go.RowKit Go.WideShapes
set_option linter.unusedSimpArgs false
set_option linter.unusedVariables false
theorem two_below {w wr w1 w2 : World} (h : Below w.heap.size w wr) (h1 : Below wr.drew.heap.size wr.drew w1) (h2 : Below w1.heap.size w1 w2) : Below w.heap.size w w2 :=
  (h.drew.trans (h1.mono (h.drew.size))).trans (h2.mono (h.drew.trans (h1.mono (h.drew.size))).size)
theorem esc_tail (o : List UInt8) (c : UInt8) : txt o ++ ⟨#[92, 120]⟩ ++ txt [hexB ((c.toNat : Int) / 16).toNat] ++ txt [hexB ((c.toNat : Int) % 16).toNat] = txt (o ++ [92, 120, hexB (c.toNat / 16), hexB (c.toNat % 16)]) := by
  have e1 : ((c.toNat : Int) / 16).toNat = c.toNat / 16 := by omega
  have e2 : ((c.toNat : Int) % 16).toNat = c.toNat % 16 := by omega
  rw [e1, e2, app_txt, txt_app, txt_app]
  simp

end Go.Proofs.Ytagcgnhpdmhegaa

/-
  The specification's l2Digit: the number of a sign.
-/
namespace Go.Proofs.Ytagcgnhpdmhegaa
open Go.RowKit Go.WideShapes
set_option linter.unusedSimpArgs false
set_option linter.unusedVariables false

def sml (j : Nat) : UInt8 := hexS.getD j 0
def grtS : List UInt8 := [48, 49, 50, 51, 52, 53, 54, 55, 56, 57, 65, 66, 67, 68, 69, 70]
def grt (j : Nat) : UInt8 := grtS.getD j 0
theorem digs_hit0 : ∀ (n : Fin 256) (j : Fin 16), (UInt8.ofNat n.val = sml j.val ∨ UInt8.ofNat n.val = grt j.val) → digI (UInt8.ofNat n.val) = j.val := by decide +kernel
theorem digs_miss0 : ∀ n : Fin 256, (∀ j : Fin 16, UInt8.ofNat n.val ≠ sml j.val ∧ UInt8.ofNat n.val ≠ grt j.val) → digI (UInt8.ofNat n.val) = -1 := by decide +kernel
theorem digs_hit {c : UInt8} {j : Nat} (hj : j < 16) (h : c = sml j ∨ c = grt j) : digI c = j := by
  have := digs_hit0 ⟨c.toNat, c.toNat_lt⟩ ⟨j, hj⟩
  simp only [UInt8.ofNat_toNat] at this
  exact this h
theorem digs_miss {c : UInt8} (h : ∀ j, j < 16 → ¬ c = sml j ∧ ¬ c = grt j) : digI c = -1 := by
  have := digs_miss0 ⟨c.toNat, c.toNat_lt⟩
  simp only [UInt8.ofNat_toNat] at this
  exact this fun j => h j.val j.isLt
theorem sml_at {n : Nat} (h : n < 16) : (ByteArray.mk #[48, 49, 50, 51, 52, 53, 54, 55, 56, 57, 97, 98, 99, 100, 101, 102])[n]'h = sml n := by
  show hexS[n]'h = hexS.getD n 0
  rw [List.getD, List.getElem?_eq_getElem (show n < hexS.length from h)]; rfl
theorem grt_at {n : Nat} (h : n < 16) : (ByteArray.mk #[48, 49, 50, 51, 52, 53, 54, 55, 56, 57, 65, 66, 67, 68, 69, 70])[n]'h = grt n := by
  show grtS[n]'h = grtS.getD n 0
  rw [List.getD, List.getElem?_eq_getElem (show n < grtS.length from h)]; rfl
theorem u8_beq {c d : UInt8} (h : c = d) : ((c.toNat : Int) == (d.toNat : Int)) = true := by rw [h]; simp
theorem u8_bne {c d : UInt8} (h : ¬ c = d) : ((c.toNat : Int) == (d.toNat : Int)) = false := by simpa using u8_ne h
theorem ret_i64 {a b : Int} (h : a = b) : Ending.returned (.int .i64 a) = Ending.returned (.int .i64 b) := by rw [h]

set_option maxRecDepth 100000 in
set_option maxHeartbeats 1600000 in
theorem l2Digit_any (c : UInt8) (w : World) : Calls Try.prog 50 #[.int .u8 (c.toNat : Int)] w fun e w' => e = .returned (.int .i64 (digI c)) ∧ w' = w := by
  go_enter Try.func50, Try.ntmps50
  go_wp2_with fail
  go_loop [3] (fun i => ∃ k : Nat, k ≤ 16 ∧ i = .int .i64 k ∧ Hid (∀ j, j < k → ¬ c = sml j ∧ ¬ c = grt j)) (fun i => 16 - (intOf i).toNat)
  case atStart => exact ⟨0, by omega, rfl, fun j hj => by omega⟩
  case round =>
    obtain ⟨k, hk, rfl, HM⟩ := hrel
    by_cases hlt : k < 16
    · have hlt' : (k : Int) < 16 := by omega
      have x1 := sml_at hlt
      have x2 := grt_at hlt
      by_cases h1 : sml k = c
      · have b1 := u8_beq h1
        have HD := hideB (digs_hit hlt (.inl h1.symm))
        clear h1
        go_wp2_with fail
        go_ret
        exact ⟨ret_i64 HD.out.symm, rfl⟩
      have b1 := u8_bne h1
      by_cases h2 : grt k = c
      · have b2 := u8_beq h2
        have HD := hideB (digs_hit hlt (.inr h2.symm))
        clear h1 h2
        go_wp2_with fail
        go_ret
        exact ⟨ret_i64 HD.out.symm, rfl⟩
      have b2 := u8_bne h2
      have HN := hideB (show ∀ j, j < k + 1 → ¬ c = sml j ∧ ¬ c = grt j by
        intro j hj
        rcases Nat.lt_or_ge j k with h | h
        · exact HM.out j h
        · obtain rfl : j = k := by omega
          exact ⟨fun e => h1 e.symm, fun e => h2 e.symm⟩)
      clear h1 h2
      go_wp2_with fail
      refine ⟨⟨k + 1, by omega, by go_num, HN⟩, by simp [intOf]; omega⟩
    · obtain rfl : k = 16 := by omega
      have HD := hideB (digs_miss HM.out)
      go_wp2_with fail
      go_ret
      exact ⟨ret_i64 HD.out.symm, rfl⟩
end Go.Proofs.Ytagcgnhpdmhegaa
