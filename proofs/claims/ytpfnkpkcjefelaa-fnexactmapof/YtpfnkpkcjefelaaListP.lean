/-
  The laws' helper that holds two rows of rows against each other.
-/
import Derived.Test.YtpfnkpkcjefelaaTree
import Derived.Test.YtpfnkpkcjefelaaEq
import Derived.Test.YtpfnkpkcjefelaaToSS
import Derived.Test.YtpfnkpkcjefelaaSPart
import Derived.Test.YtpfnkpkcjefelaaSMake
namespace Go.Proofs.Ytpfnkpkcjefelaa
open Go.RowKit
set_option linter.unusedSimpArgs false
set_option linter.unusedVariables false

set_option maxRecDepth 100000 in
set_option maxHeartbeats 1600000 in
theorem eqVNodeSS_any (B : Nat) (v1 v2 : Value) (m : Nat) (L : Nat → List VN) (w : World) (h1 : RowsAt B w v1 m L) (h2 : RowsAt B w v2 m L) (hB : B ≤ w.heap.size) :
    Calls Try.prog 40 #[v1, v2] w fun e w' => e = .returned (.bool true) ∧ Below w.heap.size w w' := by
  obtain ⟨hm, a1, cap1, rfl, hc1⟩ := h1
  obtain ⟨_, a2, cap2, rfl, hc2⟩ := h2
  have H1 := hideIt hc1
  have H2 := hideIt hc2
  clear hc1 hc2
  have hne : ((m : Int) != (m : Int)) = false := by simp
  go_enter Try.func40, Try.ntmps40
  go_wp2_with fail
  go_loopw [5] (fun i wr => ∃ k : Nat, k ≤ m ∧ i = .int .i64 k ∧ Below w.heap.size w wr) (fun i _ => m - (intOf i).toNat)
  case atStart => exact ⟨0, Nat.zero_le _, rfl, Below.refl _ _⟩
  case round =>
    obtain ⟨k, hk, rfl, hbel⟩ := hrel
    have hsize := hbel.size
    by_cases hlt : k < m
    · obtain ⟨b1, rfl, hb1, hx1⟩ := H1.out (by omega)
      obtain ⟨b2, rfl, hb2, hx2⟩ := H2.out (by omega)
      obtain ⟨r1, e1, n1⟩ := hx1 k hlt
      obtain ⟨r2, e2, n2⟩ := hx2 k hlt
      have c1 := (below_cell hbel (by omega)).trans e1
      have c2 := (below_cell hbel (by omega)).trans e2
      have N1 := hideIt (n1.below (hbel.mono hB))
      have N2 := hideIt (n2.below (hbel.mono hB))
      obtain ⟨_, q1, p1, rfl, _⟩ := n1
      obtain ⟨_, q2, p2, rfl, _⟩ := n2
      clear hx1 hx2 e1 e2
      go_wp2_with fail
      go_region_with (go_at_call 35; refine (eqVNodeS_any B _ _ (L k) _ ?_ ?_ ?_).mono ?_; exact N1.out.below (bsame rfl rfl rfl rfl); exact N2.out.below (bsame rfl rfl rfl rfl); exact (by simp; omega); rintro e w1 ⟨rfl, hq⟩)
      all_goals
        have hb2 : Below w.heap.size w w1 := hbel.drew.trans (hq.mono (by simpa using hsize))
        go_wp2_with fail
        go_roundw
        case rel => exact ⟨k + 1, by omega, by go_num, hb2⟩
        case measure => simp [intOf]; omega
    · go_wp2_with fail
      go_ret
      exact ⟨rfl, hbel⟩

end Go.Proofs.Ytpfnkpkcjefelaa

/-
  Marks of rows of rows, from any number on.
-/
namespace Go.Proofs.Ytpfnkpkcjefelaa
open Go.RowKit
set_option linter.unusedSimpArgs false
set_option linter.unusedVariables false

def off4 (q0 : Nat) (L : Nat → List VN) : Nat → Nat
  | 0 => q0
  | i + 1 => off (knOf (L i)) (inOf (L i)) (off4 q0 L i) (L i).length

theorem off4_eq (q0 : Nat) (L : Nat → List VN) : ∀ i, off4 q0 L i = q0 + wts L i := by
  intro i
  induction i with
  | zero => rfl
  | succ i ih => rw [off4, off_shift, ih, wts]; show q0 + wts L i + wt (L i) = _; omega

set_option maxRecDepth 100000 in
set_option maxHeartbeats 6400000 in
theorem markVNodeSS_from (base q0 : Nat) (v : Value) (m : Nat) (L : Nat → List VN) (rs : Nat → Value) (KV IV : Nat → Nat → Value) (lo : Nat → Nat) (w : World) (h : Rows2 base w v m L rs KV IV lo) (hm : m ≤ 1048576) (hs : ∀ i, i < m → (L i).length ≤ 1048576 ∧ ∀ j, j < (L i).length → Small (nodeAt (L i) j)) (hw : wts L m ≤ 3145728) (hq0 : 1 ≤ q0) (hq1 : q0 ≤ 1048577) :
    Calls Try.prog 41 #[v, .int .i64 (q0 : Nat)] w fun e w' => e = .returned (.int .i64 (off4 q0 L m : Nat)) ∧ Below base w w' ∧ From (lo m) w w' := by
  have H := hideIt h
  have HF := hideIt hs
  obtain ⟨a, c, e⟩ := own_slice h.row
  subst e
  clear h hs
  go_enter Try.func41, Try.ntmps41
  go_wp2_with fail
  go_loopw [1, 5] (fun q i wr => ∃ k : Nat, k ≤ m ∧ q = .int .i64 (off4 q0 L k : Nat) ∧ i = .int .i64 k ∧ Below base w wr ∧ wr.ownsRow base 24 1 (.slice a m c) m ((List.range m).map rs) ∧ (∀ j, k ≤ j → j < m → Nest (lo j) wr (rs j) (L j) (KV j) (IV j)) ∧ From (lo m) w wr) (fun _ i _ => m - (intOf i).toNat)
  case atStart => exact ⟨0, Nat.zero_le _, rfl, rfl, Below.refl _ _, H.out.row, fun j _ hj => H.out.nest j hj, From.refl _ _⟩
  case round =>
    obtain ⟨k, hk, rfl, rfl, hbel, hrow, hnest, hfrom⟩ := hrel
    have HR := hideIt hrow
    have HN := hideIt hnest
    have HH := hideIt hfrom
    have hs := hbel.size
    clear hrow hnest hfrom
    have ob : 1 ≤ off4 q0 L k ∧ off4 q0 L k ≤ 4194305 := by rw [off4_eq]; have := wts_mono L k m hk; omega
    by_cases hlt : k < m
    · obtain ⟨g, cap, e, _, hgl⟩ := HR.out.form (by omega)
      cases e
      have nk := HN.out k (Nat.le_refl _) hlt
      have HNK := hideIt nk
      obtain ⟨ak, ck, er⟩ := own_slice nk.row
      have hcell : wr.cell? ⟨g, k, none⟩ = some (rs k) := by rw [HR.out.cellAt k (by omega)]; simp [hlt]
      obtain ⟨Lk, hLk⟩ : ∃ Lk, (L k).length = Lk := ⟨_, rfl⟩
      rw [hLk] at er
      rw [er] at hcell
      have HER := hideIt er
      have HLK := hideIt hLk
      have hL80 : Lk ≤ 1048576 := by rw [← hLk]; exact (HF.out k hlt).1
      have hlo : lo k ≤ wr.heap.size := by have := H.out.mono k m (by omega) (Nat.le_refl _); have := H.out.top; omega
      have HMK := hideIt (Nest.mark2 (by rw [← HER.out]; exact HNK.out) HLK.out (HF.out k hlt).1 (HF.out k hlt).2)
      have HO2 : Hid (off4 q0 L (k + 1) = off (knOf (L k)) (inOf (L k)) (off4 q0 L k) Lk) := by rw [Hid, ← HLK.out]; rfl
      clear nk er hLk
      have HOE : Hid (∃ o, off4 q0 L k = o) := ⟨_, rfl⟩
      obtain ⟨o, ho⟩ := HOE.out
      rw [ho] at ob HO2 ⊢
      have HOO := hideIt ho
      clear ho
      go_wp2_with fail
      refine (markVNodeS_any (lo k) _ Lk ck o ak _ _ _ _ wr HMK.out hlo (by omega) (by omega) (by omega)).mono ?_
      rintro e w3 ⟨rfl, hh3, hon3, hb3⟩
      rw [← HO2.out]
      have HMX : Hid (∀ x, Marked (blk (.slice ak Lk ck)) Lk (knOf (L k)) (inOf (L k)) (fun i => blk (KV k i)) (fun i => blk (IV k i)) x → InNest (rs k) (L k).length (KV k) (IV k) x) := by
        intro x hx
        apply HNK.out.marked
        rw [HER.out, HLK.out]
        exact hx
      have HB3 := hideIt (hbel.trans (hb3.mono (H.out.low k hk)))
      have HR3 := hideIt (own_only2 HR.out hon3 (fun x hx => HNK.out.far HR.out (HMX.out x hx)))
      have HN3 : Hid (∀ j, k + 1 ≤ j → j < m → Nest (lo j) w3 (rs j) (L j) (KV j) (IV j)) := fun j h1 h2 =>
        (HN.out j (by omega) h2).from ((From.refl (lo j) wr).only hon3 (fun x hx => Nat.lt_of_lt_of_le (H.out.inn k hlt x (HMX.out x hx)) (H.out.mono (k + 1) j h1 (by omega))))
      have HH3 := hideIt (HH.out.only hon3 (fun x hx => Nat.lt_of_lt_of_le (H.out.inn k hlt x (HMX.out x hx)) (H.out.mono (k + 1) m hlt (Nat.le_refl _))))
      clear hh3 hon3 hb3
      go_wp2_with fail
      go_roundw
      case rel => exact ⟨k + 1, by omega, rfl, by go_num, HB3.out, HR3.out, HN3.out, HH3.out⟩
      case measure => simp [intOf]; omega
    · obtain rfl : k = m := by omega
      go_wp2_with fail
      go_ret
      exact ⟨rfl, hbel, HH.out⟩
end Go.Proofs.Ytpfnkpkcjefelaa

/-
  A part's nodes: plain mathematics.
-/
namespace Go.Proofs.Ytpfnkpkcjefelaa
open Go.RowKit
set_option linter.unusedSimpArgs false
set_option linter.unusedVariables false

/-- There is a part: the value is right, and n one of its nodes. -/
def partB (vs : List VN) (n : Int) : Bool := okB vs && inB n 0 ((vs.length : Int) - 1)

/-- The part's nodes. -/
def partOf (vs : List VN) (n : Nat) : List VN := run vs (-(trF (tr (kidsOf vs) n))) (trF (tr (kidsOf vs) n)).toNat (n + 1 - (trF (tr (kidsOf vs) n)).toNat)

theorem keys_few {vs : List VN} (h : okB vs = true) : ∀ k, k < vs.length → kidsIn vs k = true ∧ (nodeAt vs k).kids.length ≤ 80 ∧ (nodeAt vs k).keys.length ≤ 80 := by
  intro k hk
  obtain ⟨h1, h2, _, h4⟩ := okB_parts h
  have hn := h2 k hk
  have := h4 k hk
  refine ⟨hn.2, by omega, ?_⟩
  by_cases e : (nodeAt vs k).kind = 6
  · have hb := hn.1
    unfold nodeB namedB at hb
    simp [e] at hb
    omega
  · have hb := hn.1
    unfold nodeB unnamedB at hb
    simp [e] at hb
    have := hb.1.1.2
    simp [this]

theorem lay_part {vs : List VN} (hok : okB vs = true) {f m : Nat} (hf : m < f) (hm : m < vs.length) : layT f (treeOf vs f m) 0 = partOf vs m ∧ (partOf vs m).length ≤ 80 := by
  obtain ⟨p1, _, p3, _⟩ := okB_parts hok
  obtain ⟨⟨a0, h0⟩, htr⟩ := p3 m hm
  have e : partOf vs m = run vs (-(a0 : Int)) a0 (m + 1 - a0) := by rw [partOf, htr]; simp [trF]
  rw [← lay_tree, lay_run vs f m 0 a0 h0 hf htr, e]
  exact ⟨by simp, by rw [run_length]; omega⟩

/-- A part's nodes fit, and are few. -/
theorem part_fits {vs : List VN} (hok : okB vs = true) (hf : ∀ i, i < vs.length → Fits (nodeAt vs i)) {m : Nat} (hm : m < vs.length) : ∀ i, i < (partOf vs m).length → Fits (nodeAt (partOf vs m) i) ∧ (nodeAt (partOf vs m) i).keys.length ≤ 80 ∧ (nodeAt (partOf vs m) i).kids.length ≤ 80 := by
  obtain ⟨p1, p2, p3, p4⟩ := okB_parts hok
  obtain ⟨⟨a0, h0⟩, htr⟩ := p3 m hm
  have e : partOf vs m = run vs (-(a0 : Int)) a0 (m + 1 - a0) := by rw [partOf, htr]; simp [trF]
  rw [e]
  intro i hi
  rw [run_length] at hi
  have en : nodeAt (run vs (-(a0 : Int)) a0 (m + 1 - a0)) i = shiftN (-(a0 : Int)) (nodeAt vs (a0 + i)) := by
    unfold run
    conv => lhs; unfold nodeAt
    rw [List.getD_eq_getElem?_getD, List.getElem?_map, List.getElem?_range' (by omega)]
    simp [nodeAt]
  rw [en]
  have f := hf (a0 + i) (by omega)
  have kf := keys_few hok (a0 + i) (by omega)
  refine ⟨⟨f.keysN, f.keysS, by simpa [shiftN] using f.kidsN, fun j hj => ?_, f.size, f.klo, f.khi, f.nlo, f.nhi⟩, kf.2.2, by simpa [shiftN] using kf.2.1⟩
  have hj' : j < (nodeAt vs (a0 + i)).kids.length := by simpa [shiftN] using hj
  have hb := kidsIn_get kf.1 hj'
  have ei : intAt (shiftN (-(a0 : Int)) (nodeAt vs (a0 + i))).kids j = intAt (nodeAt vs (a0 + i)).kids j + -(a0 : Int) := by
    rw [intAt_get hj, intAt_get hj']; simp [shiftN]
  rw [ei]
  omega
end Go.Proofs.Ytpfnkpkcjefelaa

/-
  A list's nodes: what the specification lays and what the program lays are the same. Plain mathematics.
-/
namespace Go.Proofs.Ytpfnkpkcjefelaa
open Go.RowKit
set_option linter.unusedSimpArgs false
set_option linter.unusedVariables false

theorem root_first {vs : List VN} (hok : okB vs = true) : ∃ h, tr (kidsOf vs) (vs.length - 1) = some (0, h) := by
  unfold okB rootB at hok
  simp only [Bool.and_eq_true] at hok
  have h := hok.2
  cases e : tr (kidsOf vs) (vs.length - 1) with
  | none => simp [e] at h
  | some p => obtain ⟨a, b⟩ := p; simp [e] at h; obtain ⟨rfl, _⟩ := h; exact ⟨b, rfl⟩

def rootT (vs : List VN) : VT := treeOf vs 80 (vs.length - 1)

theorem run_all (vs : List VN) (d : Int) : run vs d 0 vs.length = vs.map (shiftN d) := by
  unfold run
  apply List.ext_getElem?
  intro j
  by_cases hj : j < vs.length
  · simp [List.getElem?_range', hj, nodeAt]
  · simp [hj]

theorem lay_root {vs : List VN} (hok : okB vs = true) (sh : Nat) : layT 80 (rootT vs) sh = vs.map (shiftN (sh : Int)) := by
  obtain ⟨p1, _, _, _⟩ := okB_parts hok
  obtain ⟨h, htr⟩ := root_first hok
  unfold rootT
  rw [← lay_tree, lay_run vs 80 (vs.length - 1) sh 0 h (by omega) htr, ← run_all]
  have e : vs.length - 1 + 1 - 0 = vs.length := by omega
  rw [e]
  simp

def kidsL (L : Nat → List VN) (m : Nat) : List VT := (List.range m).map fun i => rootT (L i)
theorem kidsL_len (L : Nat → List VN) (m : Nat) : (kidsL L m).length = m := by simp [kidsL]
theorem kidsL_at (L : Nat → List VN) {m j : Nat} (h : j < m) : kidT (kidsL L m) j = rootT (L j) := by simp [kidsL, kidT, h]

theorem cat_lay (L : Nat → List VN) (m : Nat) (hok : ∀ i, i < m → okB (L i) = true) : ∀ k, k ≤ m → accT 80 0 (kidsL L m) k = catNs L k ∧ ksT 80 0 (kidsL L m) k = catKs L k := by
  intro k
  induction k with
  | zero => intro _; exact ⟨accT_zero _ _ _, ksT_zero _ _ _⟩
  | succ k ih =>
    intro hk
    obtain ⟨h1, h2⟩ := ih (by omega)
    have hlt : k < (kidsL L m).length := by rw [kidsL_len]; omega
    have e : accT 80 0 (kidsL L m) (k + 1) = catNs L (k + 1) := by
      rw [accT_succ 80 0 hlt, h1, kidsL_at L (by omega), lay_root (hok k (by omega)), Nat.zero_add]
      rfl
    refine ⟨e, ?_⟩
    rw [ksT_succ 80 0 hlt, h2, e, Nat.zero_add]
    rfl

theorem lay_list (kind : Int) (keys : List ByteArray) (L : Nat → List VN) (m : Nat) (hok : ∀ i, i < m → okB (L i) = true) : layT 81 (.mk kind 0 ByteArray.empty keys (kidsL L m)) 0 = makeNs kind keys L m := by
  rw [layT_eq, kidsL_len]
  obtain ⟨h1, h2⟩ := cat_lay L m hok m (Nat.le_refl _)
  rw [h1, h2]
  rfl

theorem catNs_le {L : Nat → List VN} {m : Nat} (hok : ∀ i, i < m → okB (L i) = true) : ∀ k, k ≤ m → (catNs L k).length ≤ k * 80 := by
  intro k
  induction k with
  | zero => intro _; simp [catNs]
  | succ k ih =>
    intro hk
    have h1 := ih (by omega)
    have h2 := (okB_parts (hok k (by omega))).1
    rw [catNs_len]
    omega

theorem nodeAt_left {a b : List VN} {i : Nat} (h : i < a.length) : nodeAt (a ++ b) i = nodeAt a i := by
  unfold nodeAt; rw [List.getD_eq_getElem?_getD, List.getD_eq_getElem?_getD, List.getElem?_append_left h]
theorem nodeAt_right {a b : List VN} {i : Nat} (h : a.length ≤ i) : nodeAt (a ++ b) i = nodeAt b (i - a.length) := by
  unfold nodeAt; rw [List.getD_eq_getElem?_getD, List.getD_eq_getElem?_getD, List.getElem?_append_right h]
theorem nodeAt_map {vs : List VN} {d : Int} {i : Nat} (h : i < vs.length) : nodeAt (vs.map (shiftN d)) i = shiftN d (nodeAt vs i) := by
  unfold nodeAt; simp [h]

/-- What the parts' nodes have, all nodes have. -/
def Nice (x : VN) : Prop := Fits x ∧ x.keys.length ≤ 80 ∧ x.kids.length ≤ 80 ∧ ∀ j, j < x.kids.length → -10000 ≤ intAt x.kids j ∧ intAt x.kids j ≤ 10000

theorem cat_nice {L : Nat → List VN} {m : Nat} (hm : m ≤ 80) (hok : ∀ i, i < m → okB (L i) = true) (hf : ∀ i, i < m → ∀ j, j < (L i).length → Fits (nodeAt (L i) j)) : ∀ k, k ≤ m → ∀ i, i < (catNs L k).length → Nice (nodeAt (catNs L k) i) := by
  intro k
  induction k with
  | zero => intro _ i hi; simp [catNs] at hi
  | succ k ih =>
    intro hk i hi
    have hle := catNs_le hok k (by omega)
    rw [catNs]
    by_cases e : i < (catNs L k).length
    · rw [nodeAt_left e]; exact ih (by omega) i e
    · rw [nodeAt_right (by omega)]
      rw [catNs_len] at hi
      rw [nodeAt_map (by omega)]
      have hj : i - (catNs L k).length < (L k).length := by omega
      generalize i - (catNs L k).length = j at hj
      have f := hf k (by omega) j hj
      have kf := keys_few (hok k (by omega)) j hj
      have p1 := (okB_parts (hok k (by omega))).1
      have hb : ∀ q, q < (shiftN ((catNs L k).length : Int) (nodeAt (L k) j)).kids.length → -10000 ≤ intAt (shiftN ((catNs L k).length : Int) (nodeAt (L k) j)).kids q ∧ intAt (shiftN ((catNs L k).length : Int) (nodeAt (L k) j)).kids q ≤ 10000 := by
        intro q hq
        have hq' : q < (nodeAt (L k) j).kids.length := by simpa [shiftN] using hq
        have hr := kidsIn_get kf.1 hq'
        have ei : intAt (shiftN ((catNs L k).length : Int) (nodeAt (L k) j)).kids q = intAt (nodeAt (L k) j).kids q + ((catNs L k).length : Int) := by
          rw [intAt_get hq, intAt_get hq']; simp [shiftN]
        rw [ei]
        omega
      exact ⟨⟨f.keysN, f.keysS, by simpa [shiftN] using f.kidsN, fun q hq => by have := hb q hq; omega, f.size, f.klo, f.khi, f.nlo, f.nhi⟩, kf.2.2, by simpa [shiftN] using kf.2.1, hb⟩

theorem catKs_get (L : Nat → List VN) : ∀ (m j : Nat), j < m → intAt (catKs L m) j = ((catNs L (j + 1)).length : Int) - 1 := by
  intro m
  induction m with
  | zero => intro j hj; omega
  | succ m ih =>
    intro j hj
    have hl : j < (catKs L (m + 1)).length := by rw [catKs_len]; exact hj
    rw [intAt_get hl]
    by_cases e : j < m
    · have := ih j e
      rw [intAt_get (by rw [catKs_len]; exact e)] at this
      simp only [catKs]
      rw [List.getElem_append_left (by rw [catKs_len]; exact e)]
      exact this
    · obtain rfl : j = m := by omega
      simp only [catKs]
      rw [List.getElem_append_right (by rw [catKs_len]; exact Nat.le_refl _)]
      simp [catKs_len]

theorem make_nice {L : Nat → List VN} {m : Nat} (hm : m ≤ 80) (hok : ∀ i, i < m → okB (L i) = true) (hf : ∀ i, i < m → ∀ j, j < (L i).length → Fits (nodeAt (L i) j)) {kind : Int} (h1 : 1 ≤ kind) (h6 : kind ≤ 6) {keys : List ByteArray} (hk : keys.length ≤ 80) (hks : ∀ i, i < keys.length → (keyAt keys i).size ≤ 140737488355328) :
    (makeNs kind keys L m).length ≤ 6401 ∧ ∀ i, i < (makeNs kind keys L m).length → Nice (nodeAt (makeNs kind keys L m) i) := by
  have hle := catNs_le hok m (Nat.le_refl _)
  refine ⟨by unfold makeNs; simp; omega, fun i hi => ?_⟩
  unfold makeNs at hi ⊢
  by_cases e : i < (catNs L m).length
  · rw [nodeAt_left e]; exact cat_nice hm hok hf m (Nat.le_refl _) i e
  · have e0 : i - (catNs L m).length = 0 := by simp at hi; omega
    rw [nodeAt_right (by omega), e0]
    have hb : ∀ j, j < (catKs L m).length → -10000 ≤ intAt (catKs L m) j ∧ intAt (catKs L m) j ≤ 10000 := by
      intro j hj
      rw [catKs_len] at hj
      rw [catKs_get L m j hj]
      have := catNs_le hok (j + 1) (by omega)
      omega
    exact ⟨⟨by show keys.length ≤ _; omega, hks, by show (catKs L m).length ≤ _; rw [catKs_len]; omega, fun j hj => by have := hb j hj; show -9223372036854775808 ≤ intAt (catKs L m) j ∧ intAt (catKs L m) j ≤ 9223372036854775807; omega, by show ByteArray.empty.size ≤ _; decide, by show -9223372036854775808 ≤ kind; omega, by show kind ≤ _; omega, by show (-9223372036854775808 : Int) ≤ 0; decide, by show (0 : Int) ≤ 9223372036854775807; decide⟩, hk, by show (catKs L m).length ≤ 80; rw [catKs_len]; exact hm, hb⟩
end Go.Proofs.Ytpfnkpkcjefelaa
