/-
  The laws' helpers at rows of rows of steps: equal ones, marks, and whether they are held.
-/
import Derived.Test.YtbclgogolimbgaaPsK2
import Derived.Test.YtbclgogolimbgaaMarkM
import Derived.Test.YtbclgogolimbgaaPT
namespace Go.Proofs.Ytbclgogolimbgaa
open Go.RowKit
set_option linter.unusedSimpArgs false
set_option linter.unusedVariables false

theorem StepsAt.belowP {B : Nat} {w w' : World} {v : Value} {ps : List PS} (h : StepsAt B w v ps) (hb : Below B w w') : StepsAt B w' v ps := StepsIn.below h hb

set_option maxRecDepth 100000 in
set_option maxHeartbeats 1600000 in
theorem eqPStepSS_any (B : Nat) (v1 v2 : Value) (Ls : List (List PS)) (w : World) (h1 : RowsPAt B w v1 Ls) (h2 : RowsPAt B w v2 Ls) (hB : B ≤ w.heap.size) :
    Calls Try.prog 28 #[v1, v2] w fun e w' => e = .returned (.bool true) ∧ Below w.heap.size w w' := by
  obtain ⟨hm, a1, cap1, rfl, hc1⟩ := h1
  obtain ⟨_, a2, cap2, rfl, hc2⟩ := h2
  have H1 := hideIt hc1
  have H2 := hideIt hc2
  clear hc1 hc2
  obtain ⟨m, hmm⟩ : ∃ m, Ls.length = m := ⟨_, rfl⟩
  rw [hmm] at hm H1 H2 ⊢
  clear hmm
  have hne : ((m : Int) != (m : Int)) = false := by simp
  go_enter Try.func28, Try.ntmps28
  go_wp2_with fail
  go_loopw [5] (fun i wr => ∃ k : Nat, k ≤ m ∧ i = .int .i64 k ∧ Below w.heap.size w wr) (fun i _ => m - (intOf i).toNat)
  case atStart => exact ⟨0, Nat.zero_le _, rfl, Below.refl _ _⟩
  case round =>
    obtain ⟨k, hk, rfl, hbel⟩ := hrel
    have hsize := hbel.size
    by_cases hlt : k < m
    · obtain ⟨b1, rfl, hb1, hx1⟩ := H1.out (by omega)
      obtain ⟨b2, rfl, hb2, hx2⟩ := H2.out (by omega)
      obtain ⟨r1, e1, n1⟩ := hx1 k hlt
      obtain ⟨r2, e2, n2⟩ := hx2 k hlt
      have c1 := (below_cell hbel (by omega)).trans e1
      have c2 := (below_cell hbel (by omega)).trans e2
      have N1 := hideIt (n1.belowP (hbel.mono hB))
      have N2 := hideIt (n2.belowP (hbel.mono hB))
      obtain ⟨_, _, q1, p1, rfl, _⟩ := n1
      obtain ⟨_, _, q2, p2, rfl, _⟩ := n2
      clear hx1 hx2 e1 e2
      go_wp2_with fail
      go_region_with (go_at_call 20; refine (eqPStepS_any B _ _ (rowP Ls k) _ ?_ ?_ ?_).mono ?_; exact N1.out.belowP (bsame rfl rfl rfl rfl); exact N2.out.belowP (bsame rfl rfl rfl rfl); exact (by simp; omega); rintro e w1 ⟨rfl, hq⟩)
      all_goals
        have hb2 : Below w.heap.size w w1 := hbel.drew.trans (hq.mono (by simpa using hsize))
        go_wp2_with fail
        go_roundw
        case rel => exact ⟨k + 1, by omega, by go_num, hb2⟩
        case measure => simp [intOf]; omega
    · go_wp2_with fail
      go_ret
      exact ⟨rfl, hbel⟩

def offP (Ls : List (List PS)) : Nat → Nat
  | 0 => 1
  | i + 1 => offP Ls i + (rowP Ls i).length * 3

theorem offP_le {Ls : List (List PS)} (h : ∀ i, i < Ls.length → (rowP Ls i).length ≤ 1000) : ∀ i, i ≤ Ls.length → 1 ≤ offP Ls i ∧ offP Ls i ≤ 1 + i * 3000 := by
  intro i
  induction i with
  | zero => intro _; simp [offP]
  | succ i ih =>
    intro hi
    have h1 := ih (by omega)
    have h2 := h i (by omega)
    rw [offP]
    omega

/-- All rows hold their marks. -/
structure HeldP (w : World) (base : Nat) (v : Value) (Ls : List (List PS)) (rs : Nat → Value) : Prop where
  row : w.ownsRow base 31 1 v Ls.length ((List.range Ls.length).map rs)
  held : ∀ i, i < Ls.length → ∀ j, j < (rowP Ls i).length → HStep w (blk (rs i)) j (offP Ls i + j * 3)

theorem HeldP.below {w w' : World} {base : Nat} {v : Value} {Ls : List (List PS)} {rs : Nat → Value} {lo : Nat → Nat} {W : World} (hW : RowsP base W v Ls rs lo) (hWs : W.heap.size ≤ w.heap.size) (h : HeldP w base v Ls rs) (hb : Below w.heap.size w w') : HeldP w' base v Ls rs :=
  ⟨own_below h.row hb (fun x hx => (h.row.lt x hx).2), fun i hi j hj => (h.held i hi j hj).below hb (by
    have := ((hW.own i hi).lt _ (blk_of (hW.own i hi) (by omega))).2
    omega)⟩

theorem rowIs_far {base base' : Nat} {w : World} {v r : Value} {n : Nat} {xs : List Value} {ps : List PS} (h : w.ownsRow base 82 3 r ps.length (stepCells ps)) (hr : w.ownsRow base' 31 1 v n xs) (hp : 0 < ps.length) : v.ownBlock ≠ some (blk r) := by
  intro e
  rcases own_apart hr h (by decide) with e2 | e2
  · rw [e] at e2; cases e2
  · exact e2 (e.trans (blk_of h hp).symm)

set_option maxRecDepth 100000 in
set_option maxHeartbeats 1600000 in
theorem markPStepSS_any (base : Nat) (v : Value) (Ls : List (List PS)) (rs : Nat → Value) (lo : Nat → Nat) (w : World) (h : RowsP base w v Ls rs lo) (hm : Ls.length ≤ 1000) (hf : ∀ i, i < Ls.length → (rowP Ls i).length ≤ 1000) :
    Calls Try.prog 29 #[v, .int .i64 1] w fun e w' => e = .returned (.int .i64 (offP Ls Ls.length : Nat)) ∧ HeldP w' base v Ls rs ∧ Below base w w' := by
  have H := hideIt h
  have HF := hideIt hf
  obtain ⟨a, c, e⟩ := own_slice h.row
  subst e
  clear h hf
  obtain ⟨m, hmm⟩ : ∃ m, Ls.length = m := ⟨_, rfl⟩
  have HM := hideIt hmm
  rw [hmm] at hm ⊢
  rw [hmm] at H
  clear hmm
  go_enter Try.func29, Try.ntmps29
  go_wp2_with fail
  go_loopw [1, 5] (fun q i wr => ∃ k : Nat, k ≤ m ∧ q = .int .i64 (offP Ls k : Nat) ∧ i = .int .i64 k ∧ Below base w wr ∧ wr.ownsRow base 31 1 (.slice a m c) m ((List.range m).map rs) ∧ (∀ j, k ≤ j → j < m → wr.ownsRow (lo j) 82 3 (rs j) (rowP Ls j).length (stepCells (rowP Ls j))) ∧ (∀ i, i < k → ∀ j, j < (rowP Ls i).length → HStep wr (blk (rs i)) j (offP Ls i + j * 3))) (fun _ i _ => m - (intOf i).toNat)
  case atStart => exact ⟨0, Nat.zero_le _, rfl, rfl, Below.refl _ _, by have := H.out.row; rw [HM.out] at this; exact this, fun j _ hj => H.out.own j (by rw [HM.out]; exact hj), fun j hj => absurd hj (by omega)⟩
  case round =>
    obtain ⟨k, hk, rfl, rfl, hbel, hrow, hown, hheld⟩ := hrel
    have HR := hideIt hrow
    have HN := hideIt hown
    have HH := hideIt hheld
    have hs := hbel.size
    clear hrow hown hheld
    have ob := offP_le HF.out k (by rw [HM.out]; exact hk)
    by_cases hlt : k < m
    · obtain ⟨g, cap, e, _, hgl⟩ := HR.out.form (by omega)
      cases e
      have nk := HN.out k (Nat.le_refl _) hlt
      have HNK := hideIt nk
      obtain ⟨ak, ck, er⟩ := own_slice nk
      have hcell : wr.cell? ⟨g, k, none⟩ = some (rs k) := by rw [HR.out.cellAt k (by omega)]; simp [hlt]
      obtain ⟨Lk, hLk⟩ : ∃ Lk, (rowP Ls k).length = Lk := ⟨_, rfl⟩
      rw [hLk] at er
      rw [er] at hcell
      have HER := hideIt er
      have HLK := hideIt hLk
      have hL80 : Lk ≤ 1000 := by rw [← hLk]; exact HF.out k (by rw [HM.out]; exact hlt)
      have hlo : lo k ≤ wr.heap.size := by have := H.out.mono k Ls.length (by rw [HM.out]; omega) (Nat.le_refl _); have := H.out.top; omega
      have HMK : Hid (0 < Lk → ak = some ⟨blk (rs k), 0, none⟩ ∧ lo k ≤ blk (rs k) ∧ blk (rs k) < wr.heap.size ∧ WRow wr (blk (rs k)) (Lk * 3)) := by
        intro hp
        have h2 := HNK.out
        rw [HER.out, HLK.out] at h2
        obtain ⟨g2, cap2, e2, hg2, hl2⟩ := h2.form hp
        have e3 : rs k = .slice (some ⟨g2, 0, none⟩) Lk cap2 := by rw [HER.out]; exact e2
        rw [e3]
        refine ⟨by injection e2, hg2, hl2, ?_⟩
        rw [e2] at h2
        exact own_wrow h2
      have HO2 : Hid (offP Ls (k + 1) = offP Ls k + Lk * 3) := by rw [Hid, ← HLK.out]; rfl
      clear nk er hLk
      have HOE : Hid (∃ o, offP Ls k = o) := ⟨_, rfl⟩
      obtain ⟨o, ho⟩ := HOE.out
      rw [ho] at ob HO2 ⊢
      have HOO := hideIt ho
      clear ho
      go_wp2_with fail
      refine (markPStepS_held (lo k) (blk (rs k)) Lk ck o ak wr HMK.out hlo (by omega) (by omega) (by omega)).mono ?_
      rintro e w3 ⟨rfl, hh3, hon3, hb3⟩
      rw [← HO2.out]
      have HB3 := hideIt (hbel.trans (hb3.mono (H.out.low k (by rw [HM.out]; exact hk))))
      have HR3 : Hid (w3.ownsRow base 31 1 (.slice (some ⟨g, 0, none⟩) m c) m ((List.range m).map rs)) := own_same HR.out (fun x hx => hon3.2 x (HR.out.lt x hx).2 (fun hP => by
        have := rowIs_far HNK.out HR.out (by rw [HLK.out]; exact hP.1)
        rw [hx, hP.2] at this
        exact this rfl))
      have HN3 : Hid (∀ j, k + 1 ≤ j → j < m → w3.ownsRow (lo j) 82 3 (rs j) (rowP Ls j).length (stepCells (rowP Ls j))) := fun j h1 h2 =>
        own_same (HN.out j (by omega) h2) (fun x hx => hon3.2 x ((HN.out j (by omega) h2).lt x hx).2 (fun hP => by
          have h3 := ((HN.out j (by omega) h2).lt x hx).1
          have h4 := H.out.inn k (by rw [HM.out]; exact hlt) (blk (rs k)) (blk_of HNK.out (by rw [HLK.out]; exact hP.1))
          have h5 := H.out.mono (k + 1) j h1 (by rw [HM.out]; omega)
          have := hP.2
          omega))
      have HH3 : Hid (∀ i, i < k + 1 → ∀ j, j < (rowP Ls i).length → HStep w3 (blk (rs i)) j (offP Ls i + j * 3)) := by
        intro i hi j hj
        by_cases e : i = k
        · subst e
          rw [HOO.out]
          exact hh3 j (by rw [← HLK.out]; exact hj)
        · have h4 := H.out.inn i (by rw [HM.out]; omega) (blk (rs i)) (blk_of (H.out.own i (by rw [HM.out]; omega)) (by omega))
          have h5 := H.out.mono (i + 1) k (by omega) (by rw [HM.out]; exact hk)
          exact (HH.out i (by omega) j hj).below hb3 (by omega)
      clear hh3 hon3 hb3
      go_wp2_with fail
      go_roundw
      case rel => exact ⟨k + 1, by omega, rfl, by go_num, HB3.out, HR3.out, HN3.out, HH3.out⟩
      case measure => simp [intOf]; omega
    · obtain rfl : k = m := by omega
      go_wp2_with fail
      go_ret
      exact ⟨rfl, ⟨by rw [HM.out]; exact HR.out, fun i hi => HH.out i (by rw [← HM.out]; exact hi)⟩, hbel⟩

set_option maxRecDepth 100000 in
set_option maxHeartbeats 1600000 in
theorem heldPStepSS_any (base : Nat) (v : Value) (Ls : List (List PS)) (rs : Nat → Value) (lo : Nat → Nat) (w W : World) (hW : RowsP base W v Ls rs lo) (hWs : W.heap.size ≤ w.heap.size) (h : HeldP w base v Ls rs) (hm : Ls.length ≤ 1000) (hf : ∀ i, i < Ls.length → (rowP Ls i).length ≤ 1000) :
    Calls Try.prog 30 #[v, .int .i64 1] w fun e w' => e = .returned (.int .i64 (offP Ls Ls.length : Nat)) ∧ Below w.heap.size w w' := by
  have H := hideIt h
  have HF := hideIt hf
  have HW := hideIt hW
  obtain ⟨a, c, e⟩ := own_slice h.row
  subst e
  clear h hf hW
  obtain ⟨m, hmm⟩ : ∃ m, Ls.length = m := ⟨_, rfl⟩
  have HM := hideIt hmm
  rw [hmm] at hm H HW ⊢
  clear hmm
  go_enter Try.func30, Try.ntmps30
  go_wp2_with fail
  go_loopw [1, 5] (fun q i wr => ∃ k : Nat, k ≤ m ∧ q = .int .i64 (offP Ls k : Nat) ∧ i = .int .i64 k ∧ Below w.heap.size w wr) (fun _ i _ => m - (intOf i).toNat)
  case atStart => exact ⟨0, Nat.zero_le _, rfl, rfl, Below.refl _ _⟩
  case round =>
    obtain ⟨k, hk, rfl, rfl, hbel⟩ := hrel
    have HH := hideIt (H.out.below HW.out hWs hbel)
    have hs := hbel.size
    have ob := offP_le HF.out k (by rw [HM.out]; exact hk)
    by_cases hlt : k < m
    · have hrw := HH.out.row
      rw [HM.out] at hrw
      obtain ⟨g, cap, e, _, hgl⟩ := hrw.form (by omega)
      cases e
      have HNK := hideIt (HW.out.own k (by rw [HM.out]; exact hlt))
      obtain ⟨ak, ck, er⟩ := own_slice HNK.out
      have hcell : wr.cell? ⟨g, k, none⟩ = some (rs k) := by rw [hrw.cellAt k (by omega)]; simp [hlt]
      obtain ⟨Lk, hLk⟩ : ∃ Lk, (rowP Ls k).length = Lk := ⟨_, rfl⟩
      rw [hLk] at er
      rw [er] at hcell
      have HER := hideIt er
      have HLK := hideIt hLk
      have hL80 : Lk ≤ 1000 := by rw [← hLk]; exact HF.out k (by rw [HM.out]; exact hlt)
      have HAD : Hid (0 < Lk → ak = some ⟨blk (rs k), 0, none⟩ ∧ blk (rs k) < wr.heap.size) := by
        intro hp
        have h2 := HNK.out
        have h4 := (h2.lt _ (blk_of h2 (by rw [HLK.out]; exact hp))).2
        rw [HER.out, HLK.out] at h2
        obtain ⟨g2, cap2, e2, hg2, hl2⟩ := h2.form hp
        have e3 : rs k = .slice (some ⟨g2, 0, none⟩) Lk cap2 := by rw [HER.out]; exact e2
        refine ⟨?_, by omega⟩
        rw [e3]
        injection e2
      have HO2 : Hid (offP Ls (k + 1) = offP Ls k + Lk * 3) := by rw [Hid, ← HLK.out]; rfl
      have HHK : Hid (∀ j, j < Lk → HStep wr (blk (rs k)) j (offP Ls k + j * 3)) := fun j hj => HH.out.held k (by rw [HM.out]; exact hlt) j (by rw [HLK.out]; exact hj)
      clear er hLk hrw
      have HOE : Hid (∃ o, offP Ls k = o) := ⟨_, rfl⟩
      obtain ⟨o, ho⟩ := HOE.out
      have ob2 := offP_le HF.out (k + 1) (by rw [HM.out]; omega)
      rw [ho] at ob HO2 HHK ⊢
      clear ho
      go_wp2_with fail
      refine (heldPStepS_any (blk (rs k)) Lk ck o ak wr HAD.out (by omega) (by omega) (by omega) HHK.out).mono ?_
      rintro e w3 ⟨rfl, hb3⟩
      rw [← HO2.out]
      have HB3 := hideIt (hbel.trans (hb3.mono hs))
      have hn0 : ¬ ((offP Ls (k + 1) : Int) < 0) := by omega
      clear hb3
      go_wp2_with fail
      go_roundw
      case rel => exact ⟨k + 1, by omega, rfl, by go_num, HB3.out⟩
      case measure => simp [intOf]; omega
    · obtain rfl : k = m := by omega
      go_wp2_with fail
      go_ret
      exact ⟨rfl, hbel⟩
end Go.Proofs.Ytbclgogolimbgaa
