/-
  spec.Got: the nodes of the part to which the steps lead.
-/
import Derived.Test.YtbclgogolimbgaaSortP
import Derived.Test.YtbclgogolimbgaaPsP
import Derived.Test.YtbclgogolimbgaaSpc3
import Derived.Test.YtbclgogolimbgaaSPart
import Derived.Test.YtbclgogolimbgaaFollow
import Derived.Deep.RegionWith
namespace Go.Proofs.Ytbclgogolimbgaa
open Go.RowKit
set_option linter.unusedSimpArgs false
set_option linter.unusedVariables false

def kidR (o : Option Nat) : Int := match o with
  | none => -1
  | some k => k

set_option maxRecDepth 100000 in
set_option maxHeartbeats 1600000 in
theorem l6Kid_any (B : Nat) (x : VN) (ka ki : Value) (s : PS) (w : World) (h : NodeIn B w x ka ki) (hB : B ≤ w.heap.size) (h6 : x.kind = 6 → Rise x.keys ∧ x.keys.length ≤ 80) (hs : s.named = true ∨ 0 ≤ s.pl) (hl : x.kids.length ≤ 1048576) (hpl : -9223372036854775808 ≤ s.pl ∧ s.pl ≤ 9223372036854775807) :
    Calls Try.prog 87 #[.agg #[.int .i64 x.kind, .int .i64 x.n, .string x.s, ka, ki], .agg #[.bool s.named, .string s.key, .int .i64 s.pl]] w fun e w' => e = .returned (.int .i64 (kidR (stepN x s))) ∧ Below w.heap.size w w' := by
  obtain ⟨hkn, hks, a1, c1, e1, hkc⟩ := h.keys
  obtain ⟨_, _, a2, c2, e2, _⟩ := h.kids
  have HKC := hideIt hkc
  have H6 := hideIt h6
  subst e1 e2
  clear h hkc h6
  obtain ⟨nm, ky, pl⟩ := s
  simp only at hs hpl ⊢
  obtain ⟨hp1, hp2⟩ := hpl
  have hba : Below w.heap.size w ((w.alloc (.cells #[.int .i64 x.kind, .int .i64 x.n, .string x.s, .slice a1 x.keys.length c1, .slice a2 x.kids.length c2] 72)).alloc (.cells #[.bool nm, .string ky, .int .i64 pl] 82)) := ((Below.refl _ _).alloc (Nat.le_refl _) _).alloc (by simp) _
  cases nm
  · have h0 : 0 ≤ pl := by rcases hs with e | e; cases e; exact e
    by_cases h5 : x.kind = 5
    · by_cases hlt : pl < (x.kids.length : Int)
      · have HR : Hid (kidR (stepN x ⟨false, ky, pl⟩) = pl) := by unfold Hid stepN stepTo; simp [h5, hlt, kidR]; omega
        go_enter Try.func87, Try.ntmps87
        go_wp2_with fail
        go_ret
        exact ⟨ret_int HR.out.symm, ((Below.refl _ _).alloc (Nat.le_refl _) _).alloc (by simp) _⟩
      · have HR : Hid (kidR (stepN x ⟨false, ky, pl⟩) = -1) := by unfold Hid stepN stepTo; simp [hlt, kidR]
        go_enter Try.func87, Try.ntmps87
        go_wp2_with fail
        go_ret
        exact ⟨ret_int HR.out.symm, ((Below.refl _ _).alloc (Nat.le_refl _) _).alloc (by simp) _⟩
    · have HR : Hid (kidR (stepN x ⟨false, ky, pl⟩) = -1) := by unfold Hid stepN stepTo; simp [h5, kidR]
      have h5' : (x.kind == 5) = false := by simpa using h5
      go_enter Try.func87, Try.ntmps87
      go_wp2_with fail
      go_ret
      exact ⟨ret_int HR.out.symm, hba⟩
  · have HBA := hideIt hba
    have x0 : ((w.alloc (.cells #[.int .i64 x.kind, .int .i64 x.n, .string x.s, .slice a1 x.keys.length c1, .slice a2 x.kids.length c2] 72)).alloc (.cells #[.bool true, .string ky, .int .i64 pl] 82)).cell? ⟨w.heap.size, 0, none⟩ = some (.int .i64 x.kind) := by simp
    have x3 : ((w.alloc (.cells #[.int .i64 x.kind, .int .i64 x.n, .string x.s, .slice a1 x.keys.length c1, .slice a2 x.kids.length c2] 72)).alloc (.cells #[.bool true, .string ky, .int .i64 pl] 82)).cell? ⟨w.heap.size, 3, none⟩ = some (.slice a1 x.keys.length c1) := by simp
    have y1 : ((w.alloc (.cells #[.int .i64 x.kind, .int .i64 x.n, .string x.s, .slice a1 x.keys.length c1, .slice a2 x.kids.length c2] 72)).alloc (.cells #[.bool true, .string ky, .int .i64 pl] 82)).cell? ⟨w.heap.size + 1, 1, none⟩ = some (.string ky) := by simp
    have sz : ((w.alloc (.cells #[.int .i64 x.kind, .int .i64 x.n, .string x.s, .slice a1 x.keys.length c1, .slice a2 x.kids.length c2] 72)).alloc (.cells #[.bool true, .string ky, .int .i64 pl] 82)).heap.size = w.heap.size + 1 + 1 := by simp
    clear hba
    go_enter Try.func87, Try.ntmps87
    go_wp2_with fail
    generalize ((w.alloc (.cells #[.int .i64 x.kind, .int .i64 x.n, .string x.s, .slice a1 x.keys.length c1, .slice a2 x.kids.length c2] 72)).alloc (.cells #[.bool true, .string ky, .int .i64 pl] 82)) = W1 at *
    have hW : w.heap.size + 1 < W1.heap.size := by omega
    have HX := hideIt (And.intro x0 (And.intro x3 y1))
    clear x0 x3 y1 sz
    go_loopw [5] (fun i wr => ∃ (k : Nat), i = .int .i64 k ∧ (x.kind = 6 → k ≤ x.keys.length) ∧ Hid (∀ j, j < k → (keyAt x.keys j).toList ≠ ky.toList) ∧ Below W1.heap.size W1 wr) (fun i _ => x.keys.length + 1 - (intOf i).toNat)
    case atStart => exact ⟨0, rfl, fun _ => Nat.zero_le _, fun j hj => by omega, Below.refl _ _⟩
    case round =>
      obtain ⟨k, rfl, hk, HF, hbl⟩ := hrel
      have z0 : wr.cell? ⟨w.heap.size, 0, none⟩ = some (.int .i64 x.kind) := (below_cell hbl (by omega)).trans HX.out.1
      have z3 : wr.cell? ⟨w.heap.size, 3, none⟩ = some (.slice a1 x.keys.length c1) := (below_cell hbl (by omega)).trans HX.out.2.1
      have z1 : wr.cell? ⟨w.heap.size + 1, 1, none⟩ = some (.string ky) := (below_cell hbl (by omega)).trans HX.out.2.2
      have HB2 : Hid (Below w.heap.size w wr) := HBA.out.trans (hbl.mono (by omega))
      by_cases e6 : x.kind = 6
      · have hk6 := hk e6
        by_cases hlt : k < x.keys.length
        · obtain ⟨b, o, rfl, hbB, hc⟩ := HKC.out (by omega)
          have hck : wr.cell? ⟨b, o + k, none⟩ = some (.string (keyAt x.keys k)) := (below_cell hbl (by omega)).trans ((below_cell HBA.out (by omega)).trans (hc k hlt))
          clear hc hk
          by_cases he : (keyAt x.keys k).toList = ky.toList
          · have HR : Hid (kidR (stepN x ⟨true, ky, pl⟩) = (k : Int)) := by
              obtain ⟨g1, g2⟩ := hasK_first (H6.out e6).1 hlt he HF.out
              unfold Hid stepN stepTo
              simp [e6, g1, g2, kidR]
            have hz : ((keyAt x.keys k).toList == ky.toList) = true := by simp [he]
            go_wp2_with fail
            go_quiet (fail)
            go_wp2_with fail
            go_ret
            exact ⟨ret_int HR.out.symm, below_drewN HB2.out nq⟩
          · have HF2 : Hid (∀ j, j < k + 1 → (keyAt x.keys j).toList ≠ ky.toList) := fun j hj => by
              by_cases e : j = k
              · subst e; exact he
              · exact HF.out j (by omega)
            have hz : ((keyAt x.keys k).toList == ky.toList) = false := by simpa using he
            go_wp2_with fail
            go_quiet (fail)
            go_wp2_with fail
            go_roundw
            case rel => exact ⟨k + 1, by go_num, fun _ => by omega, HF2, below_drewN hbl nq⟩
            case measure => simp [intOf]; omega
        · obtain rfl : k = x.keys.length := by omega
          have HR : Hid (kidR (stepN x ⟨true, ky, pl⟩) = -1) := by unfold Hid stepN stepTo; simp [hasK_none HF.out, kidR]
          have hlt' : ¬ ((x.keys.length : Int) < (x.keys.length : Int)) := by omega
          go_wp2_with fail
          go_ret
          exact ⟨ret_int HR.out.symm, HB2.out⟩
      · have HR : Hid (kidR (stepN x ⟨true, ky, pl⟩) = -1) := by unfold Hid stepN stepTo; simp [e6, kidR]
        have e6' : (x.kind == 6) = false := by simpa using e6
        go_wp2_with fail
        go_ret
        exact ⟨ret_int HR.out.symm, HB2.out⟩

/-- The nodes that come of it. -/
def gotPart (vs : List VN) (o : Option Nat) : List VN := match o with
  | none => []
  | some q => partOf vs q
def gotB (vs : List VN) (ps : List PS) : Bool := okB vs && pathB ps && (gotN vs (vs.length - 1) ps).isSome
def gotNs (vs : List VN) (ps : List PS) : List VN := if okB vs && pathB ps then (gotPart vs (gotN vs (vs.length - 1) ps)) else []

theorem pathB_steps {ps : List PS} (h : pathB ps = true) : ∀ k, k < ps.length → stepB (stepAt ps k) = true := by
  unfold pathB at h
  simp only [Bool.and_eq_true, List.all_eq_true] at h
  exact fun k hk => h.2 k (List.mem_range.2 hk)

theorem stepB_nonneg {x : PS} (h : stepB x = true) : x.named = true ∨ 0 ≤ x.pl := by
  unfold stepB at h
  cases hnm : x.named
  · right; simp [hnm] at h; omega
  · exact Or.inl rfl

set_option maxRecDepth 100000 in
set_option maxHeartbeats 3200000 in
theorem l6Got_any (B : Nat) (v u : Value) (vs : List VN) (ps : List PS) (w : World) (h : NodesAt B w v vs) (hu : StepsAt B w u ps) (hB : B ≤ w.heap.size) (hok : okB vs = true) (hst : ∀ k, k < ps.length → stepB (stepAt ps k) = true) :
    Calls Try.prog 56 #[v, u] w fun e w' => ∃ r base KV IV, e = .returned (.tuple #[r, .bool (gotN vs (vs.length - 1) ps).isSome]) ∧ w.heap.size ≤ base ∧ Nest base w' r (gotPart vs (gotN vs (vs.length - 1) ps)) KV IV ∧ Below w.heap.size w w' := by
  have HV := hideIt h
  obtain ⟨hl, a, cap, rfl, hcv⟩ := h
  obtain ⟨⟨hn1, hn2⟩, p2, p3, p4⟩ := okB_parts hok
  obtain ⟨bv, ov, rfl, hbv, hcv'⟩ := hcv (by omega)
  have HCV := hideIt hcv'
  obtain ⟨hul, huf, au, cu, rfl, huc⟩ := hu
  have HUC := hideIt huc
  have HUF := hideIt huf
  have HST := hideIt hst
  have HOK := hideIt hok
  have HP3 := hideIt p3
  have HKF := hideIt (keys_few hok)
  clear hcv hcv' huc huf hst hok p2 p3 p4
  go_enter Try.func56, Try.ntmps56
  go_wp2_with fail
  go_loopw [6, 7, 8] (fun n i _ wr => ∃ (k q : Nat), k ≤ ps.length ∧ i = .int .i64 k ∧ n = .int .i64 q ∧ q < vs.length ∧ gotN vs (vs.length - 1) (ps.take k) = some q ∧ Below w.heap.size w wr) (fun _ i _ _ => ps.length - (intOf i).toNat)
  case atStart => exact ⟨0, vs.length - 1, Nat.zero_le _, rfl, by congr 1; omega, by omega, rfl, Below.refl _ _⟩
  case round =>
    obtain ⟨k, q, hk, rfl, rfl, hq, hgot, hbl⟩ := hrel
    have HG := hideIt hgot
    have zs := hbl.size
    clear hgot
    by_cases hlt : k < ps.length
    · obtain ⟨b, o, rfl, hbB, hc⟩ := HUC.out (by omega)
      obtain ⟨hc0, hc1, hc2⟩ := hc k hlt
      have c0 := (below_cell (hbl.mono hB) hbB).trans hc0
      have c1 := (below_cell (hbl.mono hB) hbB).trans hc1
      have c2 := (below_cell (hbl.mono hB) hbB).trans hc2
      obtain ⟨ka, ki, hn⟩ := HCV.out q hq
      have hn' := hn.below (hbl.mono hB) hbv
      have d0 := hn'.c0
      have d1 := hn'.c1
      have d2 := hn'.c2
      have d3 := hn'.c3
      have d4 := hn'.c4
      have hin := hideIt hn'.inn
      obtain ⟨hkn, hkb, aI, cI, eI, hkc⟩ := hn'.inn.kids
      have HKC := hideIt hkc
      obtain ⟨_, _, aK, cK, eK, _⟩ := hn'.inn.keys
      subst eI eK
      have hfx := HUF.out k hlt
      have h0x := stepB_nonneg (HST.out k hlt)
      have HTS := hideIt (take_step hlt)
      have HNX : Hid (gotN vs (vs.length - 1) (ps.take (k + 1)) = match stepN (nodeAt vs q) (stepAt ps k) with | none => none | some j => some (intAt (nodeAt vs q).kids j).toNat) := by
        rw [Hid, HTS.out, gotN_append, HG.out]; rfl
      have HLK := hideIt (fun W (hW : NodeIn B W (nodeAt vs q) (.slice aK (nodeAt vs q).keys.length cK) (.slice aI (nodeAt vs q).kids.length cI)) (hBW : B ≤ W.heap.size) => l6Kid_any B (nodeAt vs q) _ _ (stepAt ps k) W hW hBW (fun e => ⟨(node6 HOK.out hq e).1, (node6 HOK.out hq e).2.2.1⟩) h0x (by have := (HKF.out q hq).2.1; omega) hfx.2)
      have hqi : (q : Int) < (vs.length : Int) := by omega
      clear hc hc0 hc1 hc2 hn hn' hkc hkb
      go_wp2_with fail
      go_region_with (go_at_call 87; refine (HLK.out _ ?_ ?_).mono ?_; exact hin.out.below (bsame rfl rfl rfl rfl); exact (by simp; omega); rintro e w1 ⟨rfl, hq1⟩)
      all_goals
        have hb2 : Below w.heap.size w w1 := hbl.drew.trans (hq1.mono (by simpa using zs))
        have HB1 : Hid (Below wr.heap.size wr w1) := (Below.refl wr.heap.size wr).drew.trans (by simpa using hq1)
        clear hq1
        cases hsn : stepN (nodeAt vs q) (stepAt ps k) with
        | none =>
          have HGN : Hid (gotN vs (vs.length - 1) ps = none) := gotN_none vs _ (k := k + 1) (by rw [HNX.out, hsn])
          have hkr : kidR none = -1 := rfl
          go_wp2_with fail
          go_ret2
          exact ⟨.slice none 0 0, w.heap.size, fun _ => undef, fun _ => undef, by rw [HGN.out]; rfl, Nat.le_refl _, by rw [HGN.out]; exact Nest.nil _ _ _ _, hb2⟩
        | some j =>
          have hjl : j < (nodeAt vs q).kids.length := stepN_lt h0x (fun e => (node6 HOK.out hq e).2.1) hsn
          have hkin := kidsIn_get (HKF.out q hq).1 hjl
          obtain ⟨q2, hq2⟩ : ∃ q2 : Nat, intAt (nodeAt vs q).kids j = (q2 : Int) := ⟨(intAt (nodeAt vs q).kids j).toNat, by omega⟩
          have HNX2 : Hid (gotN vs (vs.length - 1) (ps.take (k + 1)) = some q2) := by rw [Hid, HNX.out, hsn]; simp [hq2]
          obtain ⟨b2, o2, rfl, hb2B, hkc2⟩ := HKC.out (by omega)
          have hkr : kidR (some j) = (j : Int) := rfl
          have f4 : w1.cell? ⟨bv, ov + q * 5 + 4, none⟩ = some (.slice (some ⟨b2, o2, none⟩) (nodeAt vs q).kids.length cI) := (below_cell HB1.out (by omega)).trans d4
          have f5 : w1.cell? ⟨b2, o2 + j, none⟩ = some (.int .i64 (q2 : Int)) := by rw [← hq2]; exact (below_cell HB1.out (by omega)).trans (hkc2 j hjl)
          have hjm : (j : Int) < ((nodeAt vs q).kids.length : Int) := by omega
          have hq2v : q2 < vs.length := by omega
          clear hkc2 hq2
          go_wp2_with fail
          go_roundw
          case rel => exact ⟨k + 1, q2, by omega, by go_num, rfl, by omega, HNX2.out, hb2⟩
          case measure => simp [intOf]; omega
    · obtain rfl : k = ps.length := by omega
      have HGN : Hid (gotN vs (vs.length - 1) ps = some q) := by have := HG.out; rw [List.take_length] at this; exact this
      obtain ⟨⟨a0, h0⟩, htr⟩ := HP3.out q hq
      have HTR := hideIt htr
      have HPE : Hid (partOf vs q = run vs (-(a0 : Int)) a0 (q + 1 - a0)) := by rw [Hid, partOf, htr]; simp [trF]
      clear htr
      go_wp2_with fail
      refine (l1Part_any B _ vs q a0 h0 _ (HV.out.below (hbl.mono hB)) (by omega) hn2 HKF.out hq HTR.out).mono ?_
      rintro e w1 ⟨r, KV, IV, rfl, hn1', hb1⟩
      have HN1 : Hid (Nest wr.heap.size w1 r (partOf vs q) KV IV) := by rw [Hid, HPE.out]; exact hn1'
      obtain ⟨ar, cr, er⟩ := own_slice HN1.out.row
      obtain ⟨N, hN⟩ : ∃ N, (partOf vs q).length = N := ⟨_, rfl⟩
      rw [hN] at er
      subst er
      clear hn1' hN
      go_wp2_with fail
      go_ret2
      exact ⟨.slice ar N cr, wr.heap.size, KV, IV, by rw [HGN.out]; rfl, zs, by rw [HGN.out]; exact HN1.out, hbl.trans (hb1.mono zs)⟩
end Go.Proofs.Ytbclgogolimbgaa
