/-
  The order of texts by their places, and the program's sortedPlaces.
-/
import Derived.Test.YtpfnkpkcjefelaaStbA
import Derived.Test.YtpfnkpkcjefelaaOrdP
import Derived.Test.YtpfnkpkcjefelaaTo
namespace Go.Proofs.Ytpfnkpkcjefelaa
open Go.RowKit
set_option linter.unusedSimpArgs false
set_option linter.unusedVariables false

/-- The texts at two places, held against each other. -/
def cfK (l : List ByteArray) (x y : Int) : Int := cmpS (keyAt l x.toNat) (keyAt l y.toNat)
def RK (l : List ByteArray) (x y : Int) : Prop := cfK l x y < 0 ∨ (cfK l x y = 0 ∧ x < y)

theorem rk_tot (l : List ByteArray) : Tot (RK l) := by
  have r3 : ∀ a b, R3 (cfK l a b) := fun a b => cmpS_r3 _ _
  have fl : ∀ a b, cfK l b a = -cfK l a b := fun a b => cmpS_flip _ _
  have tr : ∀ a b c, Tri (cfK l a b) (cfK l b c) (cfK l a c) := fun a b c => cmpS_tri _ _ _
  refine ⟨fun x y z h1 h2 => ?_, fun x y h1 h2 => ?_, fun x y h => ?_⟩
  · have t := tr x y z
    have a1 := r3 x y
    have a2 := r3 y z
    unfold RK at *
    unfold Tri comb at t
    unfold R3 at a1 a2
    rcases h1 with h1 | ⟨h1, h1'⟩ <;> rcases h2 with h2 | ⟨h2, h2'⟩
    · left
      have := t (by omega) (by omega)
      rw [this]; split <;> omega
    · left
      have := t (by omega) (by omega)
      rw [this]; split <;> omega
    · left
      have := t (by omega) (by omega)
      rw [this]; split <;> omega
    · right
      have := t (by omega) (by omega)
      refine ⟨?_, by omega⟩
      rw [this]; split <;> omega
  · have := fl x y
    unfold RK at h1 h2
    omega
  · have := fl x y
    unfold RK
    rcases Int.lt_or_gt_of_ne h with c | c
    · by_cases e : cfK l x y < 0
      · exact Or.inl (Or.inl e)
      · by_cases e2 : cfK l x y = 0
        · exact Or.inl (Or.inr ⟨e2, c⟩)
        · exact Or.inr (Or.inl (by omega))
    · by_cases e : cfK l y x < 0
      · exact Or.inr (Or.inl e)
      · by_cases e2 : cfK l y x = 0
        · exact Or.inr (Or.inr ⟨e2, c⟩)
        · exact Or.inl (Or.inl (by omega))

theorem rk_cross (l : List ByteArray) : ∀ x y : Int, x < y → (cfK l y x < 0 ↔ RK l y x) := fun x y h => by
  unfold RK
  constructor
  · exact Or.inl
  · rintro (h | h)
    · exact h
    · omega
end Go.Proofs.Ytpfnkpkcjefelaa

/-
  The program's sortedPlaces with strings.Compare: the places of texts, so that the texts rise.
-/
namespace Go.Proofs.Ytpfnkpkcjefelaa
open Go.RowKit
set_option linter.unusedSimpArgs false
set_option linter.unusedVariables false

theorem Sw.cell {g : Nat} {w w' : World} (h : Sw g w w') {b o : Nat} (hb : b < w.heap.size) (hg : b ≠ g) : w'.cell? ⟨b, o, none⟩ = w.cell? ⟨b, o, none⟩ := h.2.2.2.cell hb hg

set_option maxRecDepth 100000 in
set_option maxHeartbeats 3200000 in
theorem closure_any (B h g : Nat) (l : List ByteArray) (v : Value) (w0 : World) (hl : StrsAt B w0 v l) (h1 : w0.cell? ⟨h, 0, none⟩ = some v) (h2 : w0.cell? ⟨h + 1, 0, none⟩ = some (.func (.func 86) #[] #[])) (hh : h + 1 < w0.heap.size) (hg : h + 1 < g) (hB : B ≤ h) :
    CmpAt g l.length w0 (.pointer (some ⟨h + 1, 0, none⟩)) (.pointer (some ⟨h, 0, none⟩)) (cfK l) := by
  intro W hsw x y hx1 hx2 hy1 hy2
  obtain ⟨i, rfl⟩ : ∃ i : Nat, x = (i : Int) := ⟨x.toNat, by omega⟩
  obtain ⟨j, rfl⟩ : ∃ j : Nat, y = (j : Int) := ⟨y.toNat, by omega⟩
  obtain ⟨hln, _, a, cap, rfl, hc⟩ := hl
  obtain ⟨b, o, rfl, hb, hcc⟩ := hc (by omega)
  have d1 := (hsw.cell (show h < w0.heap.size by omega) (show h ≠ g by omega)).trans h1
  have d2 := (hsw.cell hh (show h + 1 ≠ g by omega)).trans h2
  have d3 := (hsw.cell (show b < w0.heap.size by omega) (show b ≠ g by omega)).trans (hcc i (by omega))
  have d4 := (hsw.cell (show b < w0.heap.size by omega) (show b ≠ g by omega)).trans (hcc j (by omega))
  have hi : i < l.length := by omega
  have hj : j < l.length := by omega
  have HE : Hid (cfK l (i : Int) (j : Int) = cmpS (keyAt l i) (keyAt l j)) := by rw [Hid, cfK, Int.toNat_natCast, Int.toNat_natCast]
  clear hcc hc h1 h2 hx1 hx2 hy1 hy2
  go_enter Try.func116, Try.ntmps116
  go_wp2_with fail
  go_quiet ((go_at_call 86; exact Calls.quiet_of_same (stringsCompare_any _ _ _)))
  go_wp2_with fail
  go_ret
  exact ⟨by rw [HE.out]; rfl, nq, rfl⟩

set_option maxHeartbeats 1600000 in
theorem sortStable_any (R : Int → Int → Prop) (cf : Int → Int → Int) (g N cap : Nat) (w0 : World) (c1 c2 : Value) (f : Nat → Int) (w : World) (h : AskedS R cf g N w0 c1 c2 f w) :
    Calls Try.prog 115 #[.slice (some ⟨g, 0, none⟩) N cap, .func (.func 116) #[] #[c1, c2]] w fun e w' => e = .returned (.tuple #[]) ∧ ∃ f', w'.rowIs g 3 N (nums f') ∧ Blk R f f' 0 N ∧ Sw g w0 w' := by
  have H := hideIt h
  have hNN := h.NN
  clear h
  go_enter Try.func115, Try.ntmps115
  go_wp2_with fail
  refine (stable_any R cf g N cap w0 c1 c2 f w H.out).mono ?_
  rintro e w1 ⟨rfl, f1, hr1, hm1, hs1⟩
  have HH := hideIt (And.intro hr1 (And.intro hm1 hs1))
  clear hr1 hm1 hs1
  go_wp2_with fail
  exact ⟨rfl, .tuple #[], results_none rfl _ _ _, rfl, f1, HH.out⟩

theorem cell_new1 (w : World) (v : Value) (t : TypeId) : (w.alloc (.cells #[v] t)).cell? ⟨w.heap.size, 0, none⟩ = some v := by
  have h := heap_alloc_new w (.cells #[v] t)
  unfold World.cell?
  simp only [h]
  rfl
theorem cell_more {w : World} {b o : Nat} {v : Value} (h : w.cell? ⟨b, o, none⟩ = some v) (hb : b < w.heap.size) (ob : Obj) : (w.alloc ob).cell? ⟨b, o, none⟩ = some v := (below_cell ((Below.refl w.heap.size w).alloc (Nat.le_refl _) ob) hb).trans h

theorem infoI : (Try.prog.info? 3).map (fun i => (i.zero, i.size, i.bytes)) = some (some (.int .i64 0), 1, 8) := by kernel_rfl

def fillN (k j : Nat) : Int := if j < k then (j : Int) else 0

set_option maxRecDepth 100000 in
set_option maxHeartbeats 3200000 in
theorem sortedPlaces_any (B : Nat) (v : Value) (l : List ByteArray) (w : World) (h : StrsAt B w v l) (hB : B ≤ w.heap.size) (hn : l.length ≤ 1048576) :
    Calls Try.prog 95 #[v, .func (.func 86) #[] #[]] w fun e w' => ∃ g f', e = .returned (.slice (some ⟨g, 0, none⟩) l.length l.length) ∧ w.heap.size ≤ g ∧ w'.rowIs g 3 l.length (nums f') ∧ Blk (RK l) (fun p => (p : Int)) f' 0 l.length ∧ Below w.heap.size w w' := by
  have H := hideIt h
  obtain ⟨_, _, a, cap, rfl, _⟩ := h
  obtain ⟨N, hN⟩ : ∃ N, l.length = N := ⟨_, rfl⟩
  have HN := hideIt hN
  rw [hN] at hn ⊢
  rw [hN] at H
  clear hN
  have hmk := run_make_row' (P := Try.prog) 136 3 (.int .i64 0) 8 Try.underlying136 infoI rfl .i64 .i64 N (by omega) (by omega)
  obtain ⟨W3, hW3⟩ : ∃ W3, W3 = ((w.alloc (.cells #[.slice a N cap] 38)).alloc (.cells #[.func (.func 86) #[] #[]] 125)).alloc (.cells (madeCells #[Value.int .i64 0] N) 3) := ⟨_, rfl⟩
  have hr0 : W3.rowIs (w.heap.size + 1 + 1) 3 N (nums (fillN 0)) := by
    have := World.rowIs_made ((w.alloc (.cells #[.slice a N cap] 38)).alloc (.cells #[.func (.func 86) #[] #[]] 125)) (.int .i64 0) N 3
    simp only [World.size_alloc] at this
    rw [hW3]
    exact this.congr fun j _ => by simp [nums, fillN]
  have d1 : W3.cell? ⟨w.heap.size, 0, none⟩ = some (.slice a N cap) := by
    rw [hW3]
    exact cell_more (cell_more (cell_new1 w _ _) (by rw [World.size_alloc]; omega) _) (by rw [World.size_alloc, World.size_alloc]; omega) _
  have d2 : W3.cell? ⟨w.heap.size + 1, 0, none⟩ = some (.func (.func 86) #[] #[]) := by
    rw [hW3]
    have := cell_new1 (w.alloc (.cells #[.slice a N cap] 38)) (.func (.func 86) #[] #[]) 125
    rw [World.size_alloc] at this
    exact cell_more this (by rw [World.size_alloc, World.size_alloc]; omega) _
  have HZ : Hid (W3.heap.size = w.heap.size + 1 + 1 + 1) := by rw [Hid, hW3]; simp
  have HBW : Hid (Below w.heap.size w W3) := by
    rw [Hid, hW3]
    exact (((Below.refl _ _).alloc (Nat.le_refl _) _).alloc (by simp) _).alloc (by simp; omega) _
  have HW3 := hideIt hW3
  have HR0 := hideIt hr0
  clear hW3 hr0
  go_enter Try.func95, Try.ntmps95
  go_wp2_with fail
  rw [← HW3.out]
  clear hmk
  go_loopw [12] (fun vi wr => ∃ k : Nat, k ≤ N ∧ vi = .int .i64 k ∧ wr.rowIs (w.heap.size + 1 + 1) 3 N (nums (fillN k)) ∧ Sw (w.heap.size + 1 + 1) W3 wr) (fun vi _ => N - (intOf vi).toNat)
  case atStart => exact ⟨0, Nat.zero_le _, rfl, HR0.out, Sw.refl _ _⟩
  case round =>
    obtain ⟨k, hk, rfl, hrow, hsw⟩ := hrel
    by_cases hlt : k < N
    · have c1 := hrow.cell hlt
      have f1 := hrow.frozen k
      have HNEW : Hid ((wr.setCell ⟨w.heap.size + 1 + 1, k, none⟩ (.int .i64 k)).rowIs (w.heap.size + 1 + 1) 3 N (nums (fillN (k + 1)))) := by
        refine (hrow.set k _).congr fun p _ => ?_
        unfold nums fillN
        by_cases e : p = k
        · subst e; rw [if_pos rfl, if_pos (by omega)]
        · rw [if_neg e]
          by_cases c : p < k
          · rw [if_pos c, if_pos (by omega)]
          · rw [if_neg c, if_neg (by omega)]
      have HSN := hideIt (hsw.set k (.int .i64 k))
      clear hrow hsw
      go_wp2_with fail
      go_roundw
      case rel => exact ⟨k + 1, by omega, by go_num, HNEW.out, HSN.out⟩
      case measure => simp [intOf]; omega
    · obtain rfl : k = N := by omega
      have HC1 := hideIt ((hsw.cell (show w.heap.size < W3.heap.size by rw [HZ.out]; omega) (by omega)).trans d1)
      have HC2 := hideIt ((hsw.cell (show w.heap.size + 1 < W3.heap.size by rw [HZ.out]; omega) (by omega)).trans d2)
      have HSZ : Hid (W3.heap.size ≤ wr.heap.size) := hsw.2.2.2.1
      have HBR : Hid (Below w.heap.size w wr) := HBW.out.trans (hsw.below (by omega) (by rw [HZ.out]; omega))
      have HCM : Hid (CmpAt (w.heap.size + 1 + 1) k wr (.pointer (some ⟨w.heap.size + 1, 0, none⟩)) (.pointer (some ⟨w.heap.size, 0, none⟩)) (cfK l)) := by
        have := closure_any B w.heap.size (w.heap.size + 1 + 1) l (.slice a k cap) wr (H.out.below (HBR.out.mono hB)) HC1.out HC2.out (by have := HSZ.out; rw [HZ.out] at this; omega) (by omega) hB
        rw [HN.out] at this
        exact this
      have HA : Hid (AskedS (RK l) (cfK l) (w.heap.size + 1 + 1) k wr (.pointer (some ⟨w.heap.size + 1, 0, none⟩)) (.pointer (some ⟨w.heap.size, 0, none⟩)) (fun p => (p : Int)) wr) :=
        ⟨rk_tot l, HCM.out, rk_cross l, hrow.congr fun p hp => by unfold nums fillN; rw [if_pos hp], Sw.refl _ _, fun p hp => ⟨by omega, by omega⟩, hn, fun p q h1 h2 => by omega⟩
      clear hrow hsw d1 d2
      go_wp2_with fail
      refine (sortStable_any (RK l) (cfK l) (w.heap.size + 1 + 1) k k wr _ _ (fun p => (p : Int)) wr HA.out).mono ?_
      rintro e w2 ⟨rfl, f2, hr2, hb2, hs2⟩
      have HFIN := hideIt (And.intro hr2 (And.intro hb2 (HBR.out.trans (hs2.below (by omega) (by have := HSZ.out; rw [HZ.out] at this; omega)))))
      clear hr2 hb2 hs2
      go_wp2_with fail
      go_ret
      exact ⟨_, f2, rfl, by omega, HFIN.out⟩
end Go.Proofs.Ytpfnkpkcjefelaa
