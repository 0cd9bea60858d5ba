/-
  spec.PartsOf: the rows of the parts' nodes.
-/
import Derived.Test.YtpfnkpkcjefelaaPartP
import Derived.Test.YtpfnkpkcjefelaaSS
namespace Go.Proofs.Ytpfnkpkcjefelaa
open Go.RowKit
set_option linter.unusedSimpArgs false
set_option linter.unusedVariables false

theorem infoRow : (Try.prog.info? 24).map (fun i => (i.zero, i.size, i.bytes)) = some (some (.slice none 0 0), 1, 24) := by kernel_rfl

/-- The root's kids, and their nodes. -/
def rootKids (vs : List VN) : List Int := (nodeAt vs (vs.length - 1)).kids
def PL (vs : List VN) (i : Nat) : List VN := partOf vs (intAt (rootKids vs) i).toNat
def partsN (vs : List VN) : Nat := if okB vs = true then (rootKids vs).length else 0

theorem root_kid {vs : List VN} (hok : okB vs = true) {k : Nat} (hk : k < (rootKids vs).length) : ∃ q : Nat, intAt (rootKids vs) k = (q : Int) ∧ q + 1 < vs.length := by
  obtain ⟨p1, p2, _, _⟩ := okB_parts hok
  have := kidsIn_get (p2 (vs.length - 1) (by omega)).2 hk
  refine ⟨(intAt (rootKids vs) k).toNat, ?_, ?_⟩
  · unfold rootKids; omega
  · unfold rootKids; omega

theorem PL_few {vs : List VN} (hf : ∀ i, i < vs.length → Fits (nodeAt vs i)) : partsN vs ≤ 80 ∧ ∀ i, i < partsN vs → Few (PL vs i) ∧ ∀ j, j < (PL vs i).length → Fits (nodeAt (PL vs i) j) := by
  unfold partsN
  by_cases hok : okB vs = true
  · rw [if_pos hok]
    obtain ⟨p1, _, _, p4⟩ := okB_parts hok
    refine ⟨by have := p4 (vs.length - 1) (by omega); unfold rootKids; omega, fun i hi => ?_⟩
    obtain ⟨q, hq, hql⟩ := root_kid hok hi
    have e : PL vs i = partOf vs q := by unfold PL; rw [hq]; simp
    rw [e]
    have hp := part_fits hok hf (m := q) (by omega)
    exact ⟨⟨(lay_part hok (Nat.lt_succ_self q) (by omega)).2, fun j hj => (hp j hj).2⟩, fun j hj => (hp j hj).1⟩
  · rw [if_neg hok]
    exact ⟨by omega, fun i hi => absurd hi (by omega)⟩

set_option maxRecDepth 100000 in
set_option maxHeartbeats 3200000 in
theorem l1Parts_any (B : Nat) (v : Value) (vs : List VN) (w : World) (h : NodesAt B w v vs) (hB : B ≤ w.heap.size) (hok : okB vs = true) :
    Calls Try.prog 64 #[v] w fun e w' => ∃ r rs KV IV lo, e = .returned r ∧ Rows2 w.heap.size w' r (rootKids vs).length (PL vs) rs KV IV lo ∧ Below w.heap.size w w' := by
  have HV := hideIt h
  obtain ⟨hlen, av, cap, rfl, hcell⟩ := h
  obtain ⟨p1, _, p3, _⟩ := okB_parts hok
  obtain ⟨b0, o0, rfl, hb0, hc⟩ := hcell (by omega)
  obtain ⟨ka, ki, hn1⟩ := hc (vs.length - 1) (by omega)
  have HN1 := hideIt hn1
  have HP3 := hideIt p3
  have HKF := hideIt (keys_few hok)
  have HRK := hideIt (fun k hk => root_kid (k := k) hok hk)
  obtain ⟨i0, hi0, hz0, hs0, hy0⟩ := info_parts infoRow
  obtain ⟨_, hkb, aI, cI, eI, hki⟩ := hn1.inn.kids
  subst eI
  have hb1 : Below w.heap.size w (w.alloc (.cells #[] 24)) := (Below.refl _ _).alloc (Nat.le_refl _) _
  have c4 := (below_cell (o := o0 + (vs.length - 1) * 5 + 4) hb1 (show b0 < w.heap.size by omega)).trans hn1.c4
  have HKI := hideIt hki
  have p0 : ((vs.length : Int) - 1).toNat = vs.length - 1 := by omega
  have HR0 := hideIt (Rows2.start (base := w.heap.size) (World.ownsRow_lit w #[] 0 (Nat.le_refl _) (by simp [maxLen]) rfl) (by simp) (PL vs))
  have HB1 := hideIt hb1
  have hkl : (rootKids vs).length = (nodeAt vs (vs.length - 1)).kids.length := rfl
  have HKL := hideIt hkl
  have hk80 : (nodeAt vs (vs.length - 1)).kids.length ≤ 80 := (HKF.out (vs.length - 1) (by omega)).2.1
  obtain ⟨M, hM⟩ : ∃ M, (nodeAt vs (vs.length - 1)).kids.length = M := ⟨_, rfl⟩
  have HM := hideIt hM
  rw [hM] at c4 hk80
  clear hcell hc hn1 hki p3 hb1 hkl hM
  go_enter Try.func64, Try.ntmps64
  go_wp2_with fail
  go_loopw [3, 5] (fun o i wr => ∃ (k : Nat) (rs : Nat → Value) (KV IV : Nat → Nat → Value) (lo : Nat → Nat), k ≤ M ∧ i = .int .i64 k ∧ Rows2 w.heap.size wr o k (PL vs) rs KV IV lo ∧ Below w.heap.size w wr) (fun _ i _ => M - (intOf i).toNat)
  case atStart => exact ⟨0, _, _, _, _, Nat.zero_le _, rfl, HR0.out, HB1.out⟩
  case round =>
    obtain ⟨k, rs, KV, IV, lo, hk, rfl, hrows, hbl⟩ := hrel
    have HR := hideIt hrows
    have zs := hbl.size
    obtain ⟨ao, co, eo⟩ := own_slice hrows.row
    subst eo
    clear hrows
    by_cases hlt : k < M
    · obtain ⟨q, hq, hql⟩ := HRK.out k (by rw [HKL.out, HM.out]; exact hlt)
      obtain ⟨bk, ok, rfl, hbk, hck⟩ := HKI.out (by rw [HM.out]; omega)
      have hcq : wr.cell? ⟨bk, ok + k, none⟩ = some (.int .i64 (q : Int)) := by
        have := hck k (by rw [HM.out]; exact hlt)
        rw [← hq]
        exact (below_cell hbl (by omega)).trans this
      obtain ⟨⟨a0, h0⟩, htr⟩ := HP3.out q (by omega)
      have HTR := hideIt htr
      have HPL : Hid (run vs (-(a0 : Int)) a0 (q + 1 - a0) = PL vs k) := by rw [Hid]; unfold PL; rw [hq, Int.toNat_natCast, partOf, htr]; simp [trF]
      clear htr hq hck
      go_wp2_with fail
      refine (l1Part_any B _ vs q a0 h0 wr (HV.out.below (hbl.mono hB)) (by omega) p1.2 HKF.out (by omega) HTR.out).mono ?_
      rintro e w3 ⟨r, K, I, rfl, hn3, hb3⟩
      rw [HPL.out] at hn3
      have HN3 := hideIt hn3
      obtain ⟨ar, cr, er⟩ := own_slice hn3.row
      obtain ⟨Lk, hLk⟩ : ∃ Lk, (PL vs k).length = Lk := ⟨_, rfl⟩
      rw [hLk] at er
      subst er
      have HB3 := hideIt hb3
      have z3 := hb3.size
      have HROW := hideIt (HR.out.below hb3).row
      clear hn3 hb3 hLk
      go_wp2_with (at_builtin; refine wpList_append_own_at _ rfl _ _ 35 rfl w.heap.size 24 i0 (.slice none 0 0) 1 24 Try.underlying35 hi0 hz0 hs0 hy0 rfl (by decide) _ _ _ rfl (HROW.out.alloc _) ⟨w3.heap.size, 0, none⟩ 1 1 [.slice ar Lk cr] rfl rfl ?c1 ?c2 ?c3 ?c4 ?c5 ?_)
      case c1 => exact cell_one_new _ _ _
      case c2 => intro u hu; simp at hu; subst hu; rfl
      case c3 => unfold maxLen; omega
      case c4 => omega
      case c5 => simp; omega
      intro v' w5 hown hgrow _ _
      have HR5 := hideIt (HR.out.snoc HB3.out HN3.out hown hgrow)
      have HB5 : Hid (Below w.heap.size w w5) := ((hbl.trans (HB3.out.mono zs)).alloc (by omega) _).grown hgrow (by simp; omega) (fun x hx => (HROW.out.lt x hx).1)
      clear hown hgrow
      go_wp2_with fail
      go_roundw
      case rel => exact ⟨k + 1, _, _, _, _, by omega, by go_num, HR5.out, HB5.out⟩
      case measure => simp [intOf]; omega
    · obtain rfl : k = M := by omega
      go_wp2_with fail
      go_ret
      exact ⟨_, _, _, _, _, rfl, by rw [HKL.out, HM.out]; exact HR.out, hbl⟩

set_option maxRecDepth 100000 in
set_option maxHeartbeats 1600000 in
theorem specPartsOf_any (B : Nat) (v : Value) (vs : List VN) (w : World) (h : NodesAt B w v vs) (hB : B ≤ w.heap.size) :
    Calls Try.prog 25 #[v] w fun e w' => ∃ r base rs KV IV lo, e = .returned r ∧ w.heap.size ≤ base ∧ Rows2 base w' r (partsN vs) (PL vs) rs KV IV lo ∧ Below w.heap.size w w' := by
  have HV := hideIt h
  obtain ⟨_, a, cap, rfl, _⟩ := h
  have HPN : Hid (partsN vs = if okB vs = true then (rootKids vs).length else 0) := rfl
  go_enter Try.func25, Try.ntmps25
  go_wp2_with fail
  refine (specOk_any B _ vs _ HV.out hB).mono ?_
  rintro e w1 ⟨rfl, hb1⟩
  have z1 := hb1.size
  cases ok1 : okB vs
  · go_wp2_with fail
    go_ret
    exact ⟨_, w1.heap.size, _, _, _, _, rfl, z1, by rw [HPN.out, ok1]; exact Rows2.start (World.ownsRow_lit w1 #[] 0 (Nat.le_refl _) (by simp [maxLen]) rfl) (by simp) (PL vs), hb1.trans ((Below.refl _ _).alloc z1 _)⟩
  · go_wp2_with fail
    refine (l1Parts_any B _ vs _ (HV.out.below (hb1.mono hB)) (by omega) ok1).mono ?_
    rintro e w2 ⟨r, rs, KV, IV, lo, rfl, hr, hb2⟩
    have HR := hideIt hr
    obtain ⟨ar, cr, er⟩ := own_slice hr.row
    subst er
    clear hr
    go_wp2_with fail
    go_ret
    exact ⟨_, w1.heap.size, rs, KV, IV, lo, rfl, z1, by rw [HPN.out, ok1]; exact HR.out, hb1.trans (hb2.mono z1)⟩
end Go.Proofs.Ytpfnkpkcjefelaa
