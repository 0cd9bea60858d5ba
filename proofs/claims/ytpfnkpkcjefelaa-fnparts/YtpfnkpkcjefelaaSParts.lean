/-
  A list's nodes: what the specification lays and what the program lays are the same. Plain mathematics.
-/
import Derived.Test.YtpfnkpkcjefelaaSMake
import Derived.Test.YtpfnkpkcjefelaaSPartOf
import Derived.Test.YtpfnkpkcjefelaaWn5
namespace Go.Proofs.Ytpfnkpkcjefelaa
open Go.RowKit
set_option linter.unusedSimpArgs false
set_option linter.unusedVariables false

theorem root_first {vs : List VN} (hok : okB vs = true) : ∃ h, tr (kidsOf vs) (vs.length - 1) = some (0, h) := by
  unfold okB rootB at hok
  simp only [Bool.and_eq_true] at hok
  have h := hok.2
  cases e : tr (kidsOf vs) (vs.length - 1) with
  | none => simp [e] at h
  | some p => obtain ⟨a, b⟩ := p; simp [e] at h; obtain ⟨rfl, _⟩ := h; exact ⟨b, rfl⟩

def rootT (vs : List VN) : VT := treeOf vs 80 (vs.length - 1)

theorem run_all (vs : List VN) (d : Int) : run vs d 0 vs.length = vs.map (shiftN d) := by
  unfold run
  apply List.ext_getElem?
  intro j
  by_cases hj : j < vs.length
  · simp [List.getElem?_range', hj, nodeAt]
  · simp [hj]

theorem lay_root {vs : List VN} (hok : okB vs = true) (sh : Nat) : layT 80 (rootT vs) sh = vs.map (shiftN (sh : Int)) := by
  obtain ⟨p1, _, _, _⟩ := okB_parts hok
  obtain ⟨h, htr⟩ := root_first hok
  unfold rootT
  rw [← lay_tree, lay_run vs 80 (vs.length - 1) sh 0 h (by omega) htr, ← run_all]
  have e : vs.length - 1 + 1 - 0 = vs.length := by omega
  rw [e]
  simp

def kidsL (L : Nat → List VN) (m : Nat) : List VT := (List.range m).map fun i => rootT (L i)
theorem kidsL_len (L : Nat → List VN) (m : Nat) : (kidsL L m).length = m := by simp [kidsL]
theorem kidsL_at (L : Nat → List VN) {m j : Nat} (h : j < m) : kidT (kidsL L m) j = rootT (L j) := by simp [kidsL, kidT, h]

theorem cat_lay (L : Nat → List VN) (m : Nat) (hok : ∀ i, i < m → okB (L i) = true) : ∀ k, k ≤ m → accT 80 0 (kidsL L m) k = catNs L k ∧ ksT 80 0 (kidsL L m) k = catKs L k := by
  intro k
  induction k with
  | zero => intro _; exact ⟨accT_zero _ _ _, ksT_zero _ _ _⟩
  | succ k ih =>
    intro hk
    obtain ⟨h1, h2⟩ := ih (by omega)
    have hlt : k < (kidsL L m).length := by rw [kidsL_len]; omega
    have e : accT 80 0 (kidsL L m) (k + 1) = catNs L (k + 1) := by
      rw [accT_succ 80 0 hlt, h1, kidsL_at L (by omega), lay_root (hok k (by omega)), Nat.zero_add]
      rfl
    refine ⟨e, ?_⟩
    rw [ksT_succ 80 0 hlt, h2, e, Nat.zero_add]
    rfl

theorem lay_list (kind : Int) (keys : List ByteArray) (L : Nat → List VN) (m : Nat) (hok : ∀ i, i < m → okB (L i) = true) : layT 81 (.mk kind 0 ByteArray.empty keys (kidsL L m)) 0 = makeNs kind keys L m := by
  rw [layT_eq, kidsL_len]
  obtain ⟨h1, h2⟩ := cat_lay L m hok m (Nat.le_refl _)
  rw [h1, h2]
  rfl

theorem catNs_le {L : Nat → List VN} {m : Nat} (hok : ∀ i, i < m → okB (L i) = true) : ∀ k, k ≤ m → (catNs L k).length ≤ k * 80 := by
  intro k
  induction k with
  | zero => intro _; simp [catNs]
  | succ k ih =>
    intro hk
    have h1 := ih (by omega)
    have h2 := (okB_parts (hok k (by omega))).1
    rw [catNs_len]
    omega

theorem nodeAt_left {a b : List VN} {i : Nat} (h : i < a.length) : nodeAt (a ++ b) i = nodeAt a i := by
  unfold nodeAt; rw [List.getD_eq_getElem?_getD, List.getD_eq_getElem?_getD, List.getElem?_append_left h]
theorem nodeAt_right {a b : List VN} {i : Nat} (h : a.length ≤ i) : nodeAt (a ++ b) i = nodeAt b (i - a.length) := by
  unfold nodeAt; rw [List.getD_eq_getElem?_getD, List.getD_eq_getElem?_getD, List.getElem?_append_right h]
theorem nodeAt_map {vs : List VN} {d : Int} {i : Nat} (h : i < vs.length) : nodeAt (vs.map (shiftN d)) i = shiftN d (nodeAt vs i) := by
  unfold nodeAt; simp [h]

/-- What the parts' nodes have, all nodes have. -/
def Nice (x : VN) : Prop := Fits x ∧ x.keys.length ≤ 80 ∧ x.kids.length ≤ 80 ∧ ∀ j, j < x.kids.length → -10000 ≤ intAt x.kids j ∧ intAt x.kids j ≤ 10000

theorem cat_nice {L : Nat → List VN} {m : Nat} (hm : m ≤ 80) (hok : ∀ i, i < m → okB (L i) = true) (hf : ∀ i, i < m → ∀ j, j < (L i).length → Fits (nodeAt (L i) j)) : ∀ k, k ≤ m → ∀ i, i < (catNs L k).length → Nice (nodeAt (catNs L k) i) := by
  intro k
  induction k with
  | zero => intro _ i hi; simp [catNs] at hi
  | succ k ih =>
    intro hk i hi
    have hle := catNs_le hok k (by omega)
    rw [catNs]
    by_cases e : i < (catNs L k).length
    · rw [nodeAt_left e]; exact ih (by omega) i e
    · rw [nodeAt_right (by omega)]
      rw [catNs_len] at hi
      rw [nodeAt_map (by omega)]
      have hj : i - (catNs L k).length < (L k).length := by omega
      generalize i - (catNs L k).length = j at hj
      have f := hf k (by omega) j hj
      have kf := keys_few (hok k (by omega)) j hj
      have p1 := (okB_parts (hok k (by omega))).1
      have hb : ∀ q, q < (shiftN ((catNs L k).length : Int) (nodeAt (L k) j)).kids.length → -10000 ≤ intAt (shiftN ((catNs L k).length : Int) (nodeAt (L k) j)).kids q ∧ intAt (shiftN ((catNs L k).length : Int) (nodeAt (L k) j)).kids q ≤ 10000 := by
        intro q hq
        have hq' : q < (nodeAt (L k) j).kids.length := by simpa [shiftN] using hq
        have hr := kidsIn_get kf.1 hq'
        have ei : intAt (shiftN ((catNs L k).length : Int) (nodeAt (L k) j)).kids q = intAt (nodeAt (L k) j).kids q + ((catNs L k).length : Int) := by
          rw [intAt_get hq, intAt_get hq']; simp [shiftN]
        rw [ei]
        omega
      exact ⟨⟨f.keysN, f.keysS, by simpa [shiftN] using f.kidsN, fun q hq => by have := hb q hq; omega, f.size, f.klo, f.khi, f.nlo, f.nhi⟩, kf.2.2, by simpa [shiftN] using kf.2.1, hb⟩

theorem catKs_get (L : Nat → List VN) : ∀ (m j : Nat), j < m → intAt (catKs L m) j = ((catNs L (j + 1)).length : Int) - 1 := by
  intro m
  induction m with
  | zero => intro j hj; omega
  | succ m ih =>
    intro j hj
    have hl : j < (catKs L (m + 1)).length := by rw [catKs_len]; exact hj
    rw [intAt_get hl]
    by_cases e : j < m
    · have := ih j e
      rw [intAt_get (by rw [catKs_len]; exact e)] at this
      simp only [catKs]
      rw [List.getElem_append_left (by rw [catKs_len]; exact e)]
      exact this
    · obtain rfl : j = m := by omega
      simp only [catKs]
      rw [List.getElem_append_right (by rw [catKs_len]; exact Nat.le_refl _)]
      simp [catKs_len]

theorem make_nice {L : Nat → List VN} {m : Nat} (hm : m ≤ 80) (hok : ∀ i, i < m → okB (L i) = true) (hf : ∀ i, i < m → ∀ j, j < (L i).length → Fits (nodeAt (L i) j)) {kind : Int} (h1 : 1 ≤ kind) (h6 : kind ≤ 6) {keys : List ByteArray} (hk : keys.length ≤ 80) (hks : ∀ i, i < keys.length → (keyAt keys i).size ≤ 140737488355328) :
    (makeNs kind keys L m).length ≤ 6401 ∧ ∀ i, i < (makeNs kind keys L m).length → Nice (nodeAt (makeNs kind keys L m) i) := by
  have hle := catNs_le hok m (Nat.le_refl _)
  refine ⟨by unfold makeNs; simp; omega, fun i hi => ?_⟩
  unfold makeNs at hi ⊢
  by_cases e : i < (catNs L m).length
  · rw [nodeAt_left e]; exact cat_nice hm hok hf m (Nat.le_refl _) i e
  · have e0 : i - (catNs L m).length = 0 := by simp at hi; omega
    rw [nodeAt_right (by omega), e0]
    have hb : ∀ j, j < (catKs L m).length → -10000 ≤ intAt (catKs L m) j ∧ intAt (catKs L m) j ≤ 10000 := by
      intro j hj
      rw [catKs_len] at hj
      rw [catKs_get L m j hj]
      have := catNs_le hok (j + 1) (by omega)
      omega
    exact ⟨⟨by show keys.length ≤ _; omega, hks, by show (catKs L m).length ≤ _; rw [catKs_len]; omega, fun j hj => by have := hb j hj; show -9223372036854775808 ≤ intAt (catKs L m) j ∧ intAt (catKs L m) j ≤ 9223372036854775807; omega, by show ByteArray.empty.size ≤ _; decide, by show -9223372036854775808 ≤ kind; omega, by show kind ≤ _; omega, by show (-9223372036854775808 : Int) ≤ 0; decide, by show (0 : Int) ≤ 9223372036854775807; decide⟩, hk, by show (catKs L m).length ≤ 80; rw [catKs_len]; exact hm, hb⟩
end Go.Proofs.Ytpfnkpkcjefelaa

/-
  spec.PartsOf: the rows of the parts' nodes.
-/
namespace Go.Proofs.Ytpfnkpkcjefelaa
open Go.RowKit
set_option linter.unusedSimpArgs false
set_option linter.unusedVariables false

theorem infoRow : (Try.prog.info? 24).map (fun i => (i.zero, i.size, i.bytes)) = some (some (.slice none 0 0), 1, 24) := by kernel_rfl

/-- The root's kids, and their nodes. -/
def rootKids (vs : List VN) : List Int := (nodeAt vs (vs.length - 1)).kids
def PL (vs : List VN) (i : Nat) : List VN := partOf vs (intAt (rootKids vs) i).toNat
def partsN (vs : List VN) : Nat := if okB vs = true then (rootKids vs).length else 0

theorem root_kid {vs : List VN} (hok : okB vs = true) {k : Nat} (hk : k < (rootKids vs).length) : ∃ q : Nat, intAt (rootKids vs) k = (q : Int) ∧ q + 1 < vs.length := by
  obtain ⟨p1, p2, _, _⟩ := okB_parts hok
  have := kidsIn_get (p2 (vs.length - 1) (by omega)).2 hk
  refine ⟨(intAt (rootKids vs) k).toNat, ?_, ?_⟩
  · unfold rootKids; omega
  · unfold rootKids; omega

theorem PL_few {vs : List VN} (hf : ∀ i, i < vs.length → Fits (nodeAt vs i)) : partsN vs ≤ 80 ∧ ∀ i, i < partsN vs → Few (PL vs i) ∧ ∀ j, j < (PL vs i).length → Fits (nodeAt (PL vs i) j) := by
  unfold partsN
  by_cases hok : okB vs = true
  · rw [if_pos hok]
    obtain ⟨p1, _, _, p4⟩ := okB_parts hok
    refine ⟨by have := p4 (vs.length - 1) (by omega); unfold rootKids; omega, fun i hi => ?_⟩
    obtain ⟨q, hq, hql⟩ := root_kid hok hi
    have e : PL vs i = partOf vs q := by unfold PL; rw [hq]; simp
    rw [e]
    have hp := part_fits hok hf (m := q) (by omega)
    exact ⟨⟨(lay_part hok (Nat.lt_succ_self q) (by omega)).2, fun j hj => (hp j hj).2⟩, fun j hj => (hp j hj).1⟩
  · rw [if_neg hok]
    exact ⟨by omega, fun i hi => absurd hi (by omega)⟩

set_option maxRecDepth 100000 in
set_option maxHeartbeats 3200000 in
theorem l1Parts_any (B : Nat) (v : Value) (vs : List VN) (w : World) (h : NodesAt B w v vs) (hB : B ≤ w.heap.size) (hok : okB vs = true) :
    Calls Try.prog 64 #[v] w fun e w' => ∃ r rs KV IV lo, e = .returned r ∧ Rows2 w.heap.size w' r (rootKids vs).length (PL vs) rs KV IV lo ∧ Below w.heap.size w w' := by
  have HV := hideIt h
  obtain ⟨hlen, av, cap, rfl, hcell⟩ := h
  obtain ⟨p1, _, p3, _⟩ := okB_parts hok
  obtain ⟨b0, o0, rfl, hb0, hc⟩ := hcell (by omega)
  obtain ⟨ka, ki, hn1⟩ := hc (vs.length - 1) (by omega)
  have HN1 := hideIt hn1
  have HP3 := hideIt p3
  have HKF := hideIt (keys_few hok)
  have HRK := hideIt (fun k hk => root_kid (k := k) hok hk)
  obtain ⟨i0, hi0, hz0, hs0, hy0⟩ := info_parts infoRow
  obtain ⟨_, hkb, aI, cI, eI, hki⟩ := hn1.inn.kids
  subst eI
  have hb1 : Below w.heap.size w (w.alloc (.cells #[] 24)) := (Below.refl _ _).alloc (Nat.le_refl _) _
  have c4 := (below_cell (o := o0 + (vs.length - 1) * 5 + 4) hb1 (show b0 < w.heap.size by omega)).trans hn1.c4
  have HKI := hideIt hki
  have p0 : ((vs.length : Int) - 1).toNat = vs.length - 1 := by omega
  have HR0 := hideIt (Rows2.start (base := w.heap.size) (World.ownsRow_lit w #[] 0 (Nat.le_refl _) (by simp [maxLen]) rfl) (by simp) (PL vs))
  have HB1 := hideIt hb1
  have hkl : (rootKids vs).length = (nodeAt vs (vs.length - 1)).kids.length := rfl
  have HKL := hideIt hkl
  have hk80 : (nodeAt vs (vs.length - 1)).kids.length ≤ 80 := (HKF.out (vs.length - 1) (by omega)).2.1
  obtain ⟨M, hM⟩ : ∃ M, (nodeAt vs (vs.length - 1)).kids.length = M := ⟨_, rfl⟩
  have HM := hideIt hM
  rw [hM] at c4 hk80
  clear hcell hc hn1 hki p3 hb1 hkl hM
  go_enter Try.func64, Try.ntmps64
  go_wp2_with fail
  go_loopw [3, 5] (fun o i wr => ∃ (k : Nat) (rs : Nat → Value) (KV IV : Nat → Nat → Value) (lo : Nat → Nat), k ≤ M ∧ i = .int .i64 k ∧ Rows2 w.heap.size wr o k (PL vs) rs KV IV lo ∧ Below w.heap.size w wr) (fun _ i _ => M - (intOf i).toNat)
  case atStart => exact ⟨0, _, _, _, _, Nat.zero_le _, rfl, HR0.out, HB1.out⟩
  case round =>
    obtain ⟨k, rs, KV, IV, lo, hk, rfl, hrows, hbl⟩ := hrel
    have HR := hideIt hrows
    have zs := hbl.size
    obtain ⟨ao, co, eo⟩ := own_slice hrows.row
    subst eo
    clear hrows
    by_cases hlt : k < M
    · obtain ⟨q, hq, hql⟩ := HRK.out k (by rw [HKL.out, HM.out]; exact hlt)
      obtain ⟨bk, ok, rfl, hbk, hck⟩ := HKI.out (by rw [HM.out]; omega)
      have hcq : wr.cell? ⟨bk, ok + k, none⟩ = some (.int .i64 (q : Int)) := by
        have := hck k (by rw [HM.out]; exact hlt)
        rw [← hq]
        exact (below_cell hbl (by omega)).trans this
      obtain ⟨⟨a0, h0⟩, htr⟩ := HP3.out q (by omega)
      have HTR := hideIt htr
      have HPL : Hid (run vs (-(a0 : Int)) a0 (q + 1 - a0) = PL vs k) := by rw [Hid]; unfold PL; rw [hq, Int.toNat_natCast, partOf, htr]; simp [trF]
      clear htr hq hck
      go_wp2_with fail
      refine (l1Part_any B _ vs q a0 h0 wr (HV.out.below (hbl.mono hB)) (by omega) p1.2 HKF.out (by omega) HTR.out).mono ?_
      rintro e w3 ⟨r, K, I, rfl, hn3, hb3⟩
      rw [HPL.out] at hn3
      have HN3 := hideIt hn3
      obtain ⟨ar, cr, er⟩ := own_slice hn3.row
      obtain ⟨Lk, hLk⟩ : ∃ Lk, (PL vs k).length = Lk := ⟨_, rfl⟩
      rw [hLk] at er
      subst er
      have HB3 := hideIt hb3
      have z3 := hb3.size
      have HROW := hideIt (HR.out.below hb3).row
      clear hn3 hb3 hLk
      go_wp2_with (at_builtin; refine wpList_append_own_at _ rfl _ _ 35 rfl w.heap.size 24 i0 (.slice none 0 0) 1 24 Try.underlying35 hi0 hz0 hs0 hy0 rfl (by decide) _ _ _ rfl (HROW.out.alloc _) ⟨w3.heap.size, 0, none⟩ 1 1 [.slice ar Lk cr] rfl rfl ?c1 ?c2 ?c3 ?c4 ?c5 ?_)
      case c1 => exact cell_one_new _ _ _
      case c2 => intro u hu; simp at hu; subst hu; rfl
      case c3 => unfold maxLen; omega
      case c4 => omega
      case c5 => simp; omega
      intro v' w5 hown hgrow _ _
      have HR5 := hideIt (HR.out.snoc HB3.out HN3.out hown hgrow)
      have HB5 : Hid (Below w.heap.size w w5) := ((hbl.trans (HB3.out.mono zs)).alloc (by omega) _).grown hgrow (by simp; omega) (fun x hx => (HROW.out.lt x hx).1)
      clear hown hgrow
      go_wp2_with fail
      go_roundw
      case rel => exact ⟨k + 1, _, _, _, _, by omega, by go_num, HR5.out, HB5.out⟩
      case measure => simp [intOf]; omega
    · obtain rfl : k = M := by omega
      go_wp2_with fail
      go_ret
      exact ⟨_, _, _, _, _, rfl, by rw [HKL.out, HM.out]; exact HR.out, hbl⟩

set_option maxRecDepth 100000 in
set_option maxHeartbeats 1600000 in
theorem specPartsOf_any (B : Nat) (v : Value) (vs : List VN) (w : World) (h : NodesAt B w v vs) (hB : B ≤ w.heap.size) :
    Calls Try.prog 25 #[v] w fun e w' => ∃ r base rs KV IV lo, e = .returned r ∧ w.heap.size ≤ base ∧ Rows2 base w' r (partsN vs) (PL vs) rs KV IV lo ∧ Below w.heap.size w w' := by
  have HV := hideIt h
  obtain ⟨_, a, cap, rfl, _⟩ := h
  have HPN : Hid (partsN vs = if okB vs = true then (rootKids vs).length else 0) := rfl
  go_enter Try.func25, Try.ntmps25
  go_wp2_with fail
  refine (specOk_any B _ vs _ HV.out hB).mono ?_
  rintro e w1 ⟨rfl, hb1⟩
  have z1 := hb1.size
  cases ok1 : okB vs
  · go_wp2_with fail
    go_ret
    exact ⟨_, w1.heap.size, _, _, _, _, rfl, z1, by rw [HPN.out, ok1]; exact Rows2.start (World.ownsRow_lit w1 #[] 0 (Nat.le_refl _) (by simp [maxLen]) rfl) (by simp) (PL vs), hb1.trans ((Below.refl _ _).alloc z1 _)⟩
  · go_wp2_with fail
    refine (l1Parts_any B _ vs _ (HV.out.below (hb1.mono hB)) (by omega) ok1).mono ?_
    rintro e w2 ⟨r, rs, KV, IV, lo, rfl, hr, hb2⟩
    have HR := hideIt hr
    obtain ⟨ar, cr, er⟩ := own_slice hr.row
    subst er
    clear hr
    go_wp2_with fail
    go_ret
    exact ⟨_, w1.heap.size, rs, KV, IV, lo, rfl, z1, by rw [HPN.out, ok1]; exact HR.out, hb1.trans (hb2.mono z1)⟩
end Go.Proofs.Ytpfnkpkcjefelaa
