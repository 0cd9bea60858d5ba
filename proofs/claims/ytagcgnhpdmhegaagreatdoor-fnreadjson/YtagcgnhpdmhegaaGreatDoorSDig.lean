/-
  Plain: nodes that are small enough, and lists and maps of such.
-/
import Derived.Test.YtagcgnhpdmhegaaGreatDoorRdN
import Derived.Test.YtagcgnhpdmhegaaGreatDoorDrL
import Derived.Test.YtagcgnhpdmhegaaGreatDoorJrS
import Derived.Test.YtagcgnhpdmhegaaGreatDoorJrX
import Derived.Test.YtagcgnhpdmhegaaGreatDoorIQuo
import Derived.Test.YtagcgnhpdmhegaaGreatDoorPhase
import Derived.Deep.QuietTactic
import Derived.BigQuiet
import Derived.Deep.RegionWith
import Derived.Test.YtagcgnhpdmhegaaGreatDoorStlF
namespace Go.Proofs.YtagcgnhpdmhegaaGreatDoor
open Go.RowKit
set_option linter.unusedSimpArgs false
set_option linter.unusedVariables false

structure SmN (c : Nat) (x : VN) : Prop where
  keysN : x.keys.length ≤ 80
  keysS : ∀ i, i < x.keys.length → (keyAt x.keys i).size ≤ 60
  kidsN : x.kids.length ≤ 80
  kids : ∀ j, j < x.kids.length → 0 ≤ intAt x.kids j ∧ intAt x.kids j < (c : Int)
  size : x.s.size ≤ 60
  kind : 0 ≤ x.kind ∧ x.kind ≤ 6
  num : -9223372036854775808 ≤ x.n ∧ x.n ≤ 9223372036854775807
def SmNs (vs : List VN) : Prop := 0 < vs.length ∧ vs.length ≤ 80 ∧ ∀ j, j < vs.length → SmN vs.length (nodeAt vs j)
theorem SmN.wide {c c' : Nat} {x : VN} (h : SmN c x) (hc : c ≤ c') : SmN c' x :=
  ⟨h.keysN, h.keysS, h.kidsN, fun j hj => by have := h.kids j hj; omega, h.size, h.kind, h.num⟩
theorem SmN.shift {c d c' : Nat} {x : VN} (h : SmN c x) (hc : c + d ≤ c') : SmN c' (shiftN (d : Int) x) := by
  refine ⟨h.keysN, h.keysS, by show (x.kids.map _).length ≤ 80; rw [List.length_map]; exact h.kidsN, fun j hj => ?_, h.size, h.kind, h.num⟩
  have hj' : j < x.kids.length := by have : j < (x.kids.map (· + (d : Int))).length := hj; rwa [List.length_map] at this
  have := h.kids j hj'
  show 0 ≤ intAt (x.kids.map (· + (d : Int))) j ∧ intAt (x.kids.map (· + (d : Int))) j < (c' : Int)
  rw [intAt_shift _ _ hj']
  omega
theorem sm_cat {m : Nat} {L : Nat → List VN} (h : ∀ i, i < m → SmNs (L i)) : ∀ i, i ≤ m → ∀ j, j < (catNs L i).length → SmN (catNs L i).length (nodeAt (catNs L i) j) := by
  intro i
  induction i with
  | zero => intro _ j hj; exact absurd hj (by simp [catNs])
  | succ i ih =>
    intro hi j hj
    have h2 := ih (by omega)
    have hL := h i (by omega)
    have hl := catNs_len L i
    rw [hl] at hj ⊢
    show SmN _ (nodeAt (catNs L i ++ (L i).map (shiftN ((catNs L i).length : Int))) j)
    by_cases e : j < (catNs L i).length
    · rw [nodeAt_l e]; exact (h2 j e).wide (by omega)
    · rw [nodeAt_r (by omega), nodeAt_sh (by omega)]
      exact (hL.2.2 _ (by omega)).shift (by omega)
theorem sm_make {m : Nat} {L : Nat → List VN} (h : ∀ i, i < m → SmNs (L i)) (hm : (catNs L m).length + 1 ≤ 80) {kind : Int} (hk1 : 0 ≤ kind) (hk2 : kind ≤ 6) {keys : List ByteArray} (hk : keys.length ≤ 80) (hks : ∀ i, i < keys.length → (keyAt keys i).size ≤ 60) : SmNs (makeNs kind keys L m) := by
  have h2 := sm_cat h m (Nat.le_refl _)
  have hmm : m ≤ (catNs L m).length := by rw [cat_sum]; exact sumL_many (fun i hi => (h i hi).1)
  have hl : (makeNs kind keys L m).length = (catNs L m).length + 1 := by unfold makeNs; simp
  refine ⟨by omega, by omega, fun j hj => ?_⟩
  rw [hl] at hj ⊢
  unfold makeNs
  by_cases e : j < (catNs L m).length
  · rw [nodeAt_l e]; exact (h2 j e).wide (by omega)
  · rw [nodeAt_r (by omega), show j - (catNs L m).length = 0 by omega]
    refine ⟨hk, hks, by show (catKs L m).length ≤ 80; rw [catKs_len]; omega, fun i hi => ?_, by show ByteArray.empty.size ≤ 60; decide, ⟨by show (0 : Int) ≤ kind; omega, by show kind ≤ 6; omega⟩, by show (-9223372036854775808 : Int) ≤ 0 ∧ (0 : Int) ≤ 9223372036854775807; decide⟩
    have hi' : i < m := by have : i < (catKs L m).length := hi; rwa [catKs_len] at this
    show 0 ≤ intAt (catKs L m) i ∧ intAt (catKs L m) i < _
    rw [catKs_at L m i hi']
    have h3 := catNs_len L i
    have h4 := (h i hi').1
    have h5 := catNs_mono L (show i + 1 ≤ m by omega)
    omega
theorem SmNs.few {vs : List VN} (h : SmNs vs) : Few vs ∧ ∀ j, j < vs.length → Fits (nodeAt vs j) := by
  refine ⟨⟨by have := h.2.1; omega, fun i hi => ?_⟩, fun j hj => ?_⟩
  · have := h.2.2 i hi; exact ⟨by have := this.keysN; omega, by have := this.kidsN; omega⟩
  · have hx := h.2.2 j hj
    exact ⟨by have := hx.keysN; omega, fun i hi => by have := hx.keysS i hi; omega, by have := hx.kidsN; omega, fun i hi => by have := hx.kids i hi; have := h.2.1; omega, by have := hx.size; omega, by have := hx.kind.1; omega, by have := hx.kind.2; omega, hx.num.1, hx.num.2⟩
theorem SmNs.near {vs : List VN} (h : SmNs vs) : 0 < vs.length ∧ ∀ j, j < vs.length → Near (nodeAt vs j) := by
  refine ⟨h.1, fun j hj => ?_⟩
  have hx := h.2.2 j hj
  exact ⟨by have := hx.keysN; omega, by have := hx.kidsN; omega, fun i hi => by have := hx.kids i hi; have := h.2.1; omega⟩
theorem sm_leaf {k n : Int} {s : ByteArray} (hk : 0 ≤ k ∧ k ≤ 6) (hn : -9223372036854775808 ≤ n ∧ n ≤ 9223372036854775807) (hs : s.size ≤ 60) : SmNs (leafN k n s) := by
  refine ⟨by simp [leafN], by simp [leafN], fun j hj => ?_⟩
  obtain rfl : j = 0 := by simp [leafN] at hj; omega
  exact ⟨by simp [leafN, nodeAt], fun i hi => absurd hi (by simp [leafN, nodeAt]), by simp [leafN, nodeAt], fun i hi => absurd hi (by simp [leafN, nodeAt]), by simpa [leafN, nodeAt] using hs, by simpa [leafN, nodeAt] using hk, by simpa [leafN, nodeAt] using hn⟩
end Go.Proofs.YtagcgnhpdmhegaaGreatDoor

/-
  The specification's l3Rc: its place in memory, numbers in bytes and texts.
-/
namespace Go.Proofs.YtagcgnhpdmhegaaGreatDoor
open Go.RowKit
set_option linter.unusedSimpArgs false
set_option linter.unusedVariables false

theorem cellSc {w : World} {b i : Nat} {cs : Array Value} {T : TypeId} {z : Nat × Nat} {x : Value} (h : w.heap[b]? = some (.cells cs T z)) (hx : cs[i]? = some x) : w.cell? ⟨b, i, none⟩ = some x := by
  rw [Lib.cell_of_heap h]; exact hx
theorem ltH {w : World} {b : Nat} {o : Obj} (h : w.heap[b]? = some o) : b < w.heap.size := by
  rcases Nat.lt_or_ge b w.heap.size with h' | h'
  · exact h'
  · rw [Array.getElem?_eq_none h'] at h; cases h
theorem setH {w : World} {b i : Nat} {cs : Array Value} {T : TypeId} {z : Nat × Nat} (h : w.heap[b]? = some (.cells cs T z)) (u : Value) : (w.setCell ⟨b, i, none⟩ u).heap[b]? = some (.cells (cs.setIfInBounds i u) T z) := by
  simp [World.setCell, Array.getElem?_modify, h]
end Go.Proofs.YtagcgnhpdmhegaaGreatDoor

/-
  The specification's l2Rj: its place in memory, blanks, signs.
-/
namespace Go.Proofs.YtagcgnhpdmhegaaGreatDoor
open Go.RowKit
set_option linter.unusedSimpArgs false
set_option linter.unusedVariables false

/-- The reader of the text 's' in block 'rb': behind 'p' bytes, spoilt or not, so many values so far. -/
structure SjAt (w : World) (rb : Nat) (s : ByteArray) (p : Nat) (bad : Bool) (c : Nat) : Prop where
  blk : w.heap[rb]? = some (.cells #[.string s, .int .i64 p, .bool bad, .int .i64 c] 62 (0, 0))
  le : p ≤ s.size
  few : c ≤ 5000
theorem SjAt.lt {w : World} {rb p c : Nat} {s : ByteArray} {bad : Bool} (h : SjAt w rb s p bad c) : rb < w.heap.size := ltH h.blk
theorem SjAt.cells {w : World} {rb p c : Nat} {s : ByteArray} {bad : Bool} (h : SjAt w rb s p bad c) : w.cell? ⟨rb, 0, none⟩ = some (.string s) ∧ w.cell? ⟨rb, 1, none⟩ = some (.int .i64 p) ∧ w.cell? ⟨rb, 2, none⟩ = some (.bool bad) ∧ w.cell? ⟨rb, 3, none⟩ = some (.int .i64 c) :=
  ⟨cellSc h.blk rfl, cellSc h.blk rfl, cellSc h.blk rfl, cellSc h.blk rfl⟩
theorem SjAt.free {w : World} {rb p c : Nat} {s : ByteArray} {bad : Bool} (h : SjAt w rb s p bad c) (i : Nat) : w.frozen? ⟨rb, i, none⟩ = false := Lib.frozen_of_heap h.blk i
theorem SjAt.keep {w w' : World} {rb p c : Nat} {s : ByteArray} {bad : Bool} (h : SjAt w rb s p bad c) (hb : w'.heap[rb]? = w.heap[rb]?) : SjAt w' rb s p bad c := ⟨hb.trans h.blk, h.le, h.few⟩
theorem SjAt.below {w w' : World} {rb p c : Nat} {s : ByteArray} {bad : Bool} (h : SjAt w rb s p bad c) (hb : Below w.heap.size w w') : SjAt w' rb s p bad c := h.keep (hb.block rb h.lt)
theorem SjAt.setP {w : World} {rb p c q : Nat} {s : ByteArray} {bad : Bool} (h : SjAt w rb s p bad c) (hq : q ≤ s.size) : SjAt (w.setCell ⟨rb, 1, none⟩ (.int .i64 q)) rb s q bad c := ⟨setH h.blk _, hq, h.few⟩
theorem SjAt.setB {w : World} {rb p c : Nat} {s : ByteArray} {bad : Bool} (h : SjAt w rb s p bad c) (x : Bool) : SjAt (w.setCell ⟨rb, 2, none⟩ (.bool x)) rb s p x c := ⟨setH h.blk _, h.le, h.few⟩
theorem SjAt.setN {w : World} {rb p c d : Nat} {s : ByteArray} {bad : Bool} (h : SjAt w rb s p bad c) (hd : d ≤ 5000) : SjAt (w.setCell ⟨rb, 3, none⟩ (.int .i64 d)) rb s p bad d := ⟨setH h.blk _, h.le, hd⟩
theorem SjAt.placeOf {w : World} {rb p c : Nat} {s : ByteArray} {bad : Bool} (h : SjAt w rb s p bad c) : placeOf w rb = p := by unfold Go.Proofs.YtagcgnhpdmhegaaGreatDoor.placeOf; rw [h.cells.2.1]; simp [intOf]

set_option maxRecDepth 100000 in
set_option maxHeartbeats 3200000 in
theorem sjBlanks_any {rb p c : Nat} {s : ByteArray} {bad : Bool} {w : World} (h : SjAt w rb s p bad c) (hs : s.size ≤ 4000) :
    Calls Tryz.prog 63 #[.pointer (some ⟨rb, 0, none⟩)] w fun e w' => e = .returned (.tuple #[]) ∧ SjAt w' rb s (skipJ s.data.toList p) bad c ∧ But rb w w' := by
  have H := hideB h
  clear h
  go_enter Tryz.func63, Tryz.ntmps63
  go_wp2_with fail
  go_loopw [] (fun wr => ∃ q, SjAt wr rb s q bad c ∧ Hid (skipJ s.data.toList q = skipJ s.data.toList p) ∧ But rb w wr) (fun wr => s.size - placeOf wr rb)
  case atStart => exact ⟨p, H.out, rfl, But.refl _ _⟩
  case round =>
    obtain ⟨q, hsr, HK, hbt⟩ := hrel
    have HS := hideB hsr
    have HBT := hideB hbt
    have h1 := hsr.cells.1
    have h2 := hsr.cells.2.1
    have h3 := hsr.free 1
    have h4 := hsr.lt
    have h5 := hsr.le
    clear hsr hbt
    by_cases hq : q < s.size
    · have hq' : (q : Int) < (s.size : Int) := by omega
      have HB := hideB (byS hq)
      by_cases hb0 : s[q].toNat = 32
      · have hbb := hb0
        clear hb0
        have HNX : Hid (skipJ s.data.toList q = skipJ s.data.toList (q + 1)) := runJ_yes (by rw [len_is]; exact hq) (by rw [← HB.out, hbb]; rfl)
        have d0 : ((s[q].toNat : Int) == 32) = true := by rw [hbb]; rfl
        have e0 : (s[q].toNat : Int) = 32 := by rw [hbb]; rfl
        clear hbb
        go_wp2_with fail
        go_quiet (fail)
        have HD := hideB (below_drewB (w := wr) nq)
        have HR := hideB (HS.out.below HD.out)
        have k1 := HR.out.cells.1
        have k2 := HR.out.cells.2.1
        have k3 := HR.out.free 1
        generalize wr.drewN nq = W1 at HR HD k1 k2 k3 ⊢
        clear nq h1 h2 h3
        go_wp2_with fail
        go_roundw
        case rel =>
          have e : ((q : Int) + 1) = ((q + 1 : Nat) : Int) := by omega
          refine ⟨q + 1, ?_, by rw [Hid, ← HNX.out]; exact HK.out, (HBT.out.trans (But.of_below HD.out)).trans (But.of_set _ _)⟩
          rw [e]
          exact HR.out.setP hq
        case measure =>
          have e : ((q : Int) + 1) = ((q + 1 : Nat) : Int) := by omega
          rw [HS.out.placeOf, e, (HR.out.setP hq).placeOf]
          omega
      by_cases hb1 : s[q].toNat = 9
      · have hbb := hb1
        clear hb1
        have HNX : Hid (skipJ s.data.toList q = skipJ s.data.toList (q + 1)) := runJ_yes (by rw [len_is]; exact hq) (by rw [← HB.out, hbb]; rfl)
        have d0 : ((s[q].toNat : Int) == 32) = false := by simp; omega
        have e0 : ¬ (s[q].toNat : Int) = 32 := by omega
        have d1 : ((s[q].toNat : Int) == 9) = true := by rw [hbb]; rfl
        have e1 : (s[q].toNat : Int) = 9 := by rw [hbb]; rfl
        clear hbb
        go_wp2_with fail
        go_quiet (fail)
        have HD := hideB (below_drewB (w := wr) nq)
        have HR := hideB (HS.out.below HD.out)
        have k1 := HR.out.cells.1
        have k2 := HR.out.cells.2.1
        have k3 := HR.out.free 1
        generalize wr.drewN nq = W1 at HR HD k1 k2 k3 ⊢
        clear nq h1 h2 h3
        go_wp2_with fail
        go_roundw
        case rel =>
          have e : ((q : Int) + 1) = ((q + 1 : Nat) : Int) := by omega
          refine ⟨q + 1, ?_, by rw [Hid, ← HNX.out]; exact HK.out, (HBT.out.trans (But.of_below HD.out)).trans (But.of_set _ _)⟩
          rw [e]
          exact HR.out.setP hq
        case measure =>
          have e : ((q : Int) + 1) = ((q + 1 : Nat) : Int) := by omega
          rw [HS.out.placeOf, e, (HR.out.setP hq).placeOf]
          omega
      by_cases hb2 : s[q].toNat = 10
      · have hbb := hb2
        clear hb2
        have HNX : Hid (skipJ s.data.toList q = skipJ s.data.toList (q + 1)) := runJ_yes (by rw [len_is]; exact hq) (by rw [← HB.out, hbb]; rfl)
        have d0 : ((s[q].toNat : Int) == 32) = false := by simp; omega
        have e0 : ¬ (s[q].toNat : Int) = 32 := by omega
        have d1 : ((s[q].toNat : Int) == 9) = false := by simp; omega
        have e1 : ¬ (s[q].toNat : Int) = 9 := by omega
        have d2 : ((s[q].toNat : Int) == 10) = true := by rw [hbb]; rfl
        have e2 : (s[q].toNat : Int) = 10 := by rw [hbb]; rfl
        clear hbb
        go_wp2_with fail
        go_quiet (fail)
        have HD := hideB (below_drewB (w := wr) nq)
        have HR := hideB (HS.out.below HD.out)
        have k1 := HR.out.cells.1
        have k2 := HR.out.cells.2.1
        have k3 := HR.out.free 1
        generalize wr.drewN nq = W1 at HR HD k1 k2 k3 ⊢
        clear nq h1 h2 h3
        go_wp2_with fail
        go_roundw
        case rel =>
          have e : ((q : Int) + 1) = ((q + 1 : Nat) : Int) := by omega
          refine ⟨q + 1, ?_, by rw [Hid, ← HNX.out]; exact HK.out, (HBT.out.trans (But.of_below HD.out)).trans (But.of_set _ _)⟩
          rw [e]
          exact HR.out.setP hq
        case measure =>
          have e : ((q : Int) + 1) = ((q + 1 : Nat) : Int) := by omega
          rw [HS.out.placeOf, e, (HR.out.setP hq).placeOf]
          omega
      by_cases hb3 : s[q].toNat = 13
      · have hbb := hb3
        clear hb3
        have HNX : Hid (skipJ s.data.toList q = skipJ s.data.toList (q + 1)) := runJ_yes (by rw [len_is]; exact hq) (by rw [← HB.out, hbb]; rfl)
        have d0 : ((s[q].toNat : Int) == 32) = false := by simp; omega
        have e0 : ¬ (s[q].toNat : Int) = 32 := by omega
        have d1 : ((s[q].toNat : Int) == 9) = false := by simp; omega
        have e1 : ¬ (s[q].toNat : Int) = 9 := by omega
        have d2 : ((s[q].toNat : Int) == 10) = false := by simp; omega
        have e2 : ¬ (s[q].toNat : Int) = 10 := by omega
        have d3 : ((s[q].toNat : Int) == 13) = true := by rw [hbb]; rfl
        have e3 : (s[q].toNat : Int) = 13 := by rw [hbb]; rfl
        clear hbb
        go_wp2_with fail
        go_quiet (fail)
        have HD := hideB (below_drewB (w := wr) nq)
        have HR := hideB (HS.out.below HD.out)
        have k1 := HR.out.cells.1
        have k2 := HR.out.cells.2.1
        have k3 := HR.out.free 1
        generalize wr.drewN nq = W1 at HR HD k1 k2 k3 ⊢
        clear nq h1 h2 h3
        go_wp2_with fail
        go_roundw
        case rel =>
          have e : ((q : Int) + 1) = ((q + 1 : Nat) : Int) := by omega
          refine ⟨q + 1, ?_, by rw [Hid, ← HNX.out]; exact HK.out, (HBT.out.trans (But.of_below HD.out)).trans (But.of_set _ _)⟩
          rw [e]
          exact HR.out.setP hq
        case measure =>
          have e : ((q : Int) + 1) = ((q + 1 : Nat) : Int) := by omega
          rw [HS.out.placeOf, e, (HR.out.setP hq).placeOf]
          omega
      · have HNX : Hid (skipJ s.data.toList q = q) := runJ_no (fun e => by
          have := e.2
          rw [← HB.out] at this
          unfold blankC at this
          simp at this
          omega)
        have d0 : ((s[q].toNat : Int) == 32) = false := by simp; omega
        have e0 : ¬ (s[q].toNat : Int) = 32 := by omega
        have d1 : ((s[q].toNat : Int) == 9) = false := by simp; omega
        have e1 : ¬ (s[q].toNat : Int) = 9 := by omega
        have d2 : ((s[q].toNat : Int) == 10) = false := by simp; omega
        have e2 : ¬ (s[q].toNat : Int) = 10 := by omega
        have d3 : ((s[q].toNat : Int) == 13) = false := by simp; omega
        have e3 : ¬ (s[q].toNat : Int) = 13 := by omega
        clear hb0 hb1 hb2 hb3
        go_wp2_with fail
        go_quiet (fail)
        have HD := hideB (below_drewB (w := wr) nq)
        go_wp2_with fail
        go_end0
        exact ⟨rfl, by rw [← HK.out, HNX.out]; exact HS.out.below HD.out, HBT.out.trans (But.of_below HD.out)⟩
    · obtain rfl : q = s.size := by omega
      have HNX : Hid (skipJ s.data.toList s.size = s.size) := runJ_past (by rw [len_is]; omega)
      go_wp2_with fail
      go_quiet (fail)
      have HD := hideB (below_drewB (w := wr) nq)
      go_wp2_with fail
      go_end0
      exact ⟨rfl, by rw [← HK.out, HNX.out]; exact HS.out.below HD.out, HBT.out.trans (But.of_below HD.out)⟩
end Go.Proofs.YtagcgnhpdmhegaaGreatDoor

/-
  The specification's l2Rj: does a word stand at its place?
-/
namespace Go.Proofs.YtagcgnhpdmhegaaGreatDoor
open Go.RowKit
set_option linter.unusedSimpArgs false
set_option linter.unusedVariables false

theorem wordAt_one {L : List UInt8} {p : Nat} {c : UInt8} : wordAt L p [c] = isAt L p c.toNat := by
  unfold wordAt isAt
  by_cases h : p < L.length
  · rw [List.drop_eq_getElem_cons h]
    have e : byAt L p = (L[p]).toNat := by unfold byAt; rw [List.getD_eq_getElem?_getD, List.getElem?_eq_getElem h]; rfl
    rw [e, show List.take [c].length (L[p] :: L.drop (p + 1)) = [L[p]] from rfl, Bool.eq_iff_iff]
    simp only [decide_eq_true_eq, Bool.and_eq_true, List.cons.injEq, and_true]
    exact ⟨fun x => ⟨h, by rw [x]⟩, fun x => UInt8.toNat_inj.1 x.2⟩
  · rw [List.drop_of_length_le (by omega)]
    simp [h]
theorem word_cut {s u : ByteArray} {p : Nat} : wordAt s.data.toList p u.data.toList = decide (cutT s.data.toList p u.size = u) := by
  unfold wordAt cutT
  rw [len_is, Bool.eq_iff_iff]
  simp only [decide_eq_true_eq]
  exact ⟨fun h => by rw [h, txt_bytes], fun h => by rw [← bytes_txt (List.take _ _), h]⟩

set_option maxRecDepth 100000 in
set_option maxHeartbeats 3200000 in
theorem sjIs_yes {rb p c : Nat} {s u : ByteArray} {w : World} (h : SjAt w rb s p false c) (hs : s.size ≤ 4000) (hu : u.size ≤ 1000) (hu0 : u.data.toList ≠ []) (hw : wordAt s.data.toList p u.data.toList = true) :
    Calls Tryz.prog 64 #[.pointer (some ⟨rb, 0, none⟩), .string u] w fun e w' => e = .returned (.bool true) ∧ SjAt w' rb s (p + u.size) false c ∧ But rb w w' := by
  have H := hideB h
  obtain ⟨c0, c1, c2, c3⟩ := h.cells
  have f1 := h.free 1
  have hle := h.le
  clear h
  have hfit : p + u.size ≤ s.size := by have := wordAt_le hw hu0; rw [len_is, len_is] at this; exact this
  have HT : Hid (cutT s.data.toList p u.size = u) := by rw [word_cut] at hw; simpa [Hid] using hw
  clear hw
  have g3 : ¬ (s.size : Int) < (p : Int) + (u.size : Int) := by omega
  have d3 : decide ((s.size : Int) < (p : Int) + (u.size : Int)) = false := by simpa using g3
  have e1 : ((p + u.size : Nat) : Int) = (p : Int) + (u.size : Int) := by omega
  have hcut : ∀ w, (Instr.slice 9 (.string s) (some (.int .i64 (p : Int))) (some (.int .i64 ((p : Int) + (u.size : Int)))) none).run Tryz.prog w = .ok (.string u) w := fun w => by
    have := run_cut (P := Tryz.prog) (t := 9) s p (p + u.size) Tryz.underlying9 (by omega) hfit w
    rw [e1, Nat.add_sub_cancel_left] at this
    have e := HT.out
    unfold cutT at e
    rw [this, e]
  go_enter Tryz.func64, Tryz.ntmps64
  go_wp2_with fail
  go_quiet (fail)
  have HD1 := hideB (below_drewB (w := w) nq)
  have HR1 := hideB (H.out.below HD1.out)
  obtain ⟨k0, k1, k2, k3⟩ := HR1.out.cells
  have l1 := HR1.out.free 1
  generalize w.drewN nq = W1 at HR1 HD1 k0 k1 k2 k3 l1 ⊢
  clear nq c0 c1 c2 c3 f1
  have HR2 := hideB (HR1.out.setP hfit)
  have HB2 := hideB ((But.of_below (rb := rb) HD1.out).trans (But.of_set 1 (.int .i64 ((p : Int) + (u.size : Int)))))
  rw [e1] at HR2
  go_wp2_with fail
  go_ret
  exact ⟨rfl, HR2.out, HB2.out⟩

set_option maxRecDepth 100000 in
set_option maxHeartbeats 3200000 in
theorem sjIs_no {rb p c : Nat} {s u : ByteArray} {bad : Bool} {w : World} (h : SjAt w rb s p bad c) (hs : s.size ≤ 4000) (hu : u.size ≤ 1000) (hw : bad = true ∨ wordAt s.data.toList p u.data.toList = false) :
    Calls Tryz.prog 64 #[.pointer (some ⟨rb, 0, none⟩), .string u] w fun e w' => e = .returned (.bool false) ∧ SjAt w' rb s p bad c ∧ But rb w w' := by
  have H := hideB h
  obtain ⟨c0, c1, c2, c3⟩ := h.cells
  have hle := h.le
  clear h
  cases hb : bad
  rotate_left
  focus
    subst hb
    go_enter Tryz.func64, Tryz.ntmps64
    go_wp2_with fail
    go_quiet (fail)
  rotate_left
  focus
    subst hb
    have HT : Hid (cutT s.data.toList p u.size ≠ u) := by
      rcases hw with hw | hw
      · cases hw
      · rw [word_cut] at hw; simpa [Hid] using hw
    clear hw
    by_cases g3 : s.size < p + u.size
    focus
      have g3' : (s.size : Int) < (p : Int) + (u.size : Int) := by omega
      have d3 : decide ((s.size : Int) < (p : Int) + (u.size : Int)) = true := by simpa using g3'
      go_enter Tryz.func64, Tryz.ntmps64
      go_wp2_with fail
      go_quiet (fail)
    rotate_left
    focus
      have g3' : ¬ (s.size : Int) < (p : Int) + (u.size : Int) := by omega
      have d3 : decide ((s.size : Int) < (p : Int) + (u.size : Int)) = false := by simpa using g3'
      have e1 : ((p + u.size : Nat) : Int) = (p : Int) + (u.size : Int) := by omega
      obtain ⟨T, hT⟩ : ∃ T, cutT s.data.toList p u.size = T := ⟨_, rfl⟩
      have HTT := hideB hT
      rw [hT] at HT
      clear hT
      have hcut : ∀ w, (Instr.slice 9 (.string s) (some (.int .i64 (p : Int))) (some (.int .i64 ((p : Int) + (u.size : Int)))) none).run Tryz.prog w = .ok (.string T) w := fun w => by
        have := run_cut (P := Tryz.prog) (t := 9) s p (p + u.size) Tryz.underlying9 (by omega) (by omega) w
        rw [e1, Nat.add_sub_cancel_left] at this
        have e := HTT.out
        unfold cutT at e
        rw [this, e]
      have hne : (T.toList == u.toList) = false := by
        rw [Bool.eq_false_iff]
        exact fun e => HT.out (str_eq e)
      have hne' : ¬ T.toList = u.toList := by simpa using hne
      go_enter Tryz.func64, Tryz.ntmps64
      go_wp2_with fail
      go_quiet (fail)
  all_goals
    have HD1 := hideB (below_drewB (w := w) nq)
    have HR1 := hideB (H.out.below HD1.out)
    generalize w.drewN nq = W1 at HR1 HD1 ⊢
    go_wp2_with fail
    go_ret
    exact ⟨rfl, HR1.out, But.of_below HD1.out⟩
end Go.Proofs.YtagcgnhpdmhegaaGreatDoor

/-
  The specification's Escaped.
-/
namespace Go.Proofs.YtagcgnhpdmhegaaGreatDoor
open Go.RowKit Go.WideShapes
set_option linter.unusedSimpArgs false
set_option linter.unusedVariables false
end Go.Proofs.YtagcgnhpdmhegaaGreatDoor

/-
  The specification's l2Digit: the number of a sign.
-/
namespace Go.Proofs.YtagcgnhpdmhegaaGreatDoor
open Go.RowKit Go.WideShapes
set_option linter.unusedSimpArgs false
set_option linter.unusedVariables false

def sml (j : Nat) : UInt8 := hexS.getD j 0
def grtS : List UInt8 := [48, 49, 50, 51, 52, 53, 54, 55, 56, 57, 65, 66, 67, 68, 69, 70]
def grt (j : Nat) : UInt8 := grtS.getD j 0
theorem digs_hit0 : ∀ (n : Fin 256) (j : Fin 16), (UInt8.ofNat n.val = sml j.val ∨ UInt8.ofNat n.val = grt j.val) → digI (UInt8.ofNat n.val) = j.val := by decide +kernel
theorem digs_miss0 : ∀ n : Fin 256, (∀ j : Fin 16, UInt8.ofNat n.val ≠ sml j.val ∧ UInt8.ofNat n.val ≠ grt j.val) → digI (UInt8.ofNat n.val) = -1 := by decide +kernel
theorem digs_hit {c : UInt8} {j : Nat} (hj : j < 16) (h : c = sml j ∨ c = grt j) : digI c = j := by
  have := digs_hit0 ⟨c.toNat, c.toNat_lt⟩ ⟨j, hj⟩
  simp only [UInt8.ofNat_toNat] at this
  exact this h
theorem digs_miss {c : UInt8} (h : ∀ j, j < 16 → ¬ c = sml j ∧ ¬ c = grt j) : digI c = -1 := by
  have := digs_miss0 ⟨c.toNat, c.toNat_lt⟩
  simp only [UInt8.ofNat_toNat] at this
  exact this fun j => h j.val j.isLt
theorem sml_at {n : Nat} (h : n < 16) : (ByteArray.mk #[48, 49, 50, 51, 52, 53, 54, 55, 56, 57, 97, 98, 99, 100, 101, 102])[n]'h = sml n := by
  show hexS[n]'h = hexS.getD n 0
  rw [List.getD, List.getElem?_eq_getElem (show n < hexS.length from h)]; rfl
theorem grt_at {n : Nat} (h : n < 16) : (ByteArray.mk #[48, 49, 50, 51, 52, 53, 54, 55, 56, 57, 65, 66, 67, 68, 69, 70])[n]'h = grt n := by
  show grtS[n]'h = grtS.getD n 0
  rw [List.getD, List.getElem?_eq_getElem (show n < grtS.length from h)]; rfl
theorem u8_beq {c d : UInt8} (h : c = d) : ((c.toNat : Int) == (d.toNat : Int)) = true := by rw [h]; simp
theorem u8_bne {c d : UInt8} (h : ¬ c = d) : ((c.toNat : Int) == (d.toNat : Int)) = false := by simpa using u8_ne h
theorem ret_i64 {a b : Int} (h : a = b) : Ending.returned (.int .i64 a) = Ending.returned (.int .i64 b) := by rw [h]

set_option maxRecDepth 100000 in
set_option maxHeartbeats 1600000 in
theorem l2Digit_any (c : UInt8) (w : World) : Calls Tryz.prog 101 #[.int .u8 (c.toNat : Int)] w fun e w' => e = .returned (.int .i64 (digI c)) ∧ w' = w := by
  go_enter Tryz.func101, Tryz.ntmps101
  go_wp2_with fail
  go_loop [3] (fun i => ∃ k : Nat, k ≤ 16 ∧ i = .int .i64 k ∧ Hid (∀ j, j < k → ¬ c = sml j ∧ ¬ c = grt j)) (fun i => 16 - (intOf i).toNat)
  case atStart => exact ⟨0, by omega, rfl, fun j hj => by omega⟩
  case round =>
    obtain ⟨k, hk, rfl, HM⟩ := hrel
    by_cases hlt : k < 16
    · have hlt' : (k : Int) < 16 := by omega
      have x1 := sml_at hlt
      have x2 := grt_at hlt
      by_cases h1 : sml k = c
      · have b1 := u8_beq h1
        have HD := hideB (digs_hit hlt (.inl h1.symm))
        clear h1
        go_wp2_with fail
        go_ret
        exact ⟨ret_i64 HD.out.symm, rfl⟩
      have b1 := u8_bne h1
      by_cases h2 : grt k = c
      · have b2 := u8_beq h2
        have HD := hideB (digs_hit hlt (.inr h2.symm))
        clear h1 h2
        go_wp2_with fail
        go_ret
        exact ⟨ret_i64 HD.out.symm, rfl⟩
      have b2 := u8_bne h2
      have HN := hideB (show ∀ j, j < k + 1 → ¬ c = sml j ∧ ¬ c = grt j by
        intro j hj
        rcases Nat.lt_or_ge j k with h | h
        · exact HM.out j h
        · obtain rfl : j = k := by omega
          exact ⟨fun e => h1 e.symm, fun e => h2 e.symm⟩)
      clear h1 h2
      go_wp2_with fail
      refine ⟨⟨k + 1, by omega, by go_num, HN⟩, by simp [intOf]; omega⟩
    · obtain rfl : k = 16 := by omega
      have HD := hideB (digs_miss HM.out)
      go_wp2_with fail
      go_ret
      exact ⟨ret_i64 HD.out.symm, rfl⟩
end Go.Proofs.YtagcgnhpdmhegaaGreatDoor
