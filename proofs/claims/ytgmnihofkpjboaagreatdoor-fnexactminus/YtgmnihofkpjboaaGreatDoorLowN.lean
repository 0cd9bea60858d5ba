/-
  spec.ListOf.
-/
import Derived.Test.YtgmnihofkpjboaaGreatDoorListP
import Derived.Test.YtgmnihofkpjboaaGreatDoorSpc3
import Derived.Test.YtgmnihofkpjboaaGreatDoorPartOk
import Derived.Test.YtgmnihofkpjboaaGreatDoorKi
import Derived.Test.YtgmnihofkpjboaaGreatDoorStepC
import Derived.Test.YtgmnihofkpjboaaGreatDoorTree
import Derived.Test.YtgmnihofkpjboaaGreatDoorSPart
namespace Go.Proofs.YtgmnihofkpjboaaGreatDoor
open Go.RowKit
set_option linter.unusedSimpArgs false
set_option linter.unusedVariables false

def allB (L : Nat → List VN) (m : Nat) : Bool := (List.range m).all fun i => okB (L i)
theorem allB_yes {L : Nat → List VN} {m : Nat} (h : allB L m = true) : ∀ i, i < m → okB (L i) = true := fun i hi => by
  unfold allB at h; rw [List.all_eq_true] at h; exact h i (List.mem_range.2 hi)
theorem allB_of {L : Nat → List VN} {m : Nat} (h : ∀ i, i < m → okB (L i) = true) : allB L m = true := by
  unfold allB; rw [List.all_eq_true]; exact fun i hi => h i (List.mem_range.1 hi)
theorem allB_no {L : Nat → List VN} {m i : Nat} (hi : i < m) (h : okB (L i) = false) : allB L m = false := by
  cases e : allB L m
  · rfl
  · have := allB_yes e i hi; rw [h] at this; cases this

theorem RowsAt.below {B : Nat} {w w' : World} {v : Value} {m : Nat} {L : Nat → List VN} (h : RowsAt B w v m L) (hb : Below B w w') : RowsAt B w' v m L := by
  obtain ⟨h1, a, c, e, h2⟩ := h
  refine ⟨h1, a, c, e, fun hp => ?_⟩
  obtain ⟨b, ea, hbB, h3⟩ := h2 hp
  refine ⟨b, ea, hbB, fun i hi => ?_⟩
  obtain ⟨r, e2, hn⟩ := h3 i hi
  exact ⟨r, (below_cell hb hbB).trans e2, hn.below hb⟩

def listB (L : Nat → List VN) (m : Nat) : Bool := allB L m && decide (m ≤ 80) && okB (makeNs 5 [] L m)
def listNs (L : Nat → List VN) (m : Nat) : List VN := if listB L m = true then makeNs 5 [] L m else []

theorem near_of {L : Nat → List VN} {m : Nat} (hok : ∀ i, i < m → okB (L i) = true) : ∀ i, i < m → 0 < (L i).length ∧ ∀ j, j < (L i).length → Near (nodeAt (L i) j) := by
  intro i hi
  obtain ⟨p1, _, _, _⟩ := okB_parts (hok i hi)
  refine ⟨by omega, fun j hj => ?_⟩
  have kf := keys_few (hok i hi) j hj
  exact ⟨by omega, by omega, fun q hq => by have := kidsIn_get kf.1 hq; omega⟩

end Go.Proofs.YtgmnihofkpjboaaGreatDoor

/-
  spec.PartsOf: the rows of the parts' nodes.
-/
namespace Go.Proofs.YtgmnihofkpjboaaGreatDoor
open Go.RowKit
set_option linter.unusedSimpArgs false
set_option linter.unusedVariables false

theorem infoRow : (Tryz.prog.info? 24).map (fun i => (i.zero, i.size, i.bytes)) = some (some (.slice none 0 0), 1, 24) := by kernel_rfl

/-- The root's kids, and their nodes. -/
def rootKids (vs : List VN) : List Int := (nodeAt vs (vs.length - 1)).kids
def PL (vs : List VN) (i : Nat) : List VN := partOf vs (intAt (rootKids vs) i).toNat
def partsN (vs : List VN) : Nat := if okB vs = true then (rootKids vs).length else 0

theorem root_kid {vs : List VN} (hok : okB vs = true) {k : Nat} (hk : k < (rootKids vs).length) : ∃ q : Nat, intAt (rootKids vs) k = (q : Int) ∧ q + 1 < vs.length := by
  obtain ⟨p1, p2, _, _⟩ := okB_parts hok
  have := kidsIn_get (p2 (vs.length - 1) (by omega)).2 hk
  refine ⟨(intAt (rootKids vs) k).toNat, ?_, ?_⟩
  · unfold rootKids; omega
  · unfold rootKids; omega

theorem PL_few {vs : List VN} (hf : ∀ i, i < vs.length → Fits (nodeAt vs i)) : partsN vs ≤ 80 ∧ ∀ i, i < partsN vs → Few (PL vs i) ∧ ∀ j, j < (PL vs i).length → Fits (nodeAt (PL vs i) j) := by
  unfold partsN
  by_cases hok : okB vs = true
  · rw [if_pos hok]
    obtain ⟨p1, _, _, p4⟩ := okB_parts hok
    refine ⟨by have := p4 (vs.length - 1) (by omega); unfold rootKids; omega, fun i hi => ?_⟩
    obtain ⟨q, hq, hql⟩ := root_kid hok hi
    have e : PL vs i = partOf vs q := by unfold PL; rw [hq]; simp
    rw [e]
    have hp := part_fits hok hf (m := q) (by omega)
    exact ⟨⟨(lay_part hok (Nat.lt_succ_self q) (by omega)).2, fun j hj => (hp j hj).2⟩, fun j hj => (hp j hj).1⟩
  · rw [if_neg hok]
    exact ⟨by omega, fun i hi => absurd hi (by omega)⟩

set_option maxRecDepth 100000 in
set_option maxHeartbeats 3200000 in
theorem l1Parts_any (B : Nat) (v : Value) (vs : List VN) (w : World) (h : NodesAt B w v vs) (hB : B ≤ w.heap.size) (hok : okB vs = true) :
    Calls Tryz.prog 30 #[v] w fun e w' => ∃ r rs KV IV lo, e = .returned r ∧ Rows2 w.heap.size w' r (rootKids vs).length (PL vs) rs KV IV lo ∧ Below w.heap.size w w' := by
  have HV := hideIt h
  obtain ⟨hlen, av, cap, rfl, hcell⟩ := h
  obtain ⟨p1, _, p3, _⟩ := okB_parts hok
  obtain ⟨b0, o0, rfl, hb0, hc⟩ := hcell (by omega)
  obtain ⟨ka, ki, hn1⟩ := hc (vs.length - 1) (by omega)
  have HN1 := hideIt hn1
  have HP3 := hideIt p3
  have HKF := hideIt (keys_few hok)
  have HRK := hideIt (fun k hk => root_kid (k := k) hok hk)
  obtain ⟨i0, hi0, hz0, hs0, hy0⟩ := info_parts infoRow
  obtain ⟨_, hkb, aI, cI, eI, hki⟩ := hn1.inn.kids
  subst eI
  have hb1 : Below w.heap.size w (w.alloc (.cells #[] 24)) := (Below.refl _ _).alloc (Nat.le_refl _) _
  have c4 := (below_cell (o := o0 + (vs.length - 1) * 5 + 4) hb1 (show b0 < w.heap.size by omega)).trans hn1.c4
  have HKI := hideIt hki
  have p0 : ((vs.length : Int) - 1).toNat = vs.length - 1 := by omega
  have HR0 := hideIt (Rows2.start (base := w.heap.size) (World.ownsRow_lit w #[] 0 (Nat.le_refl _) (by simp [maxLen]) rfl) (by simp) (PL vs))
  have HB1 := hideIt hb1
  have hkl : (rootKids vs).length = (nodeAt vs (vs.length - 1)).kids.length := rfl
  have HKL := hideIt hkl
  have hk80 : (nodeAt vs (vs.length - 1)).kids.length ≤ 80 := (HKF.out (vs.length - 1) (by omega)).2.1
  obtain ⟨M, hM⟩ : ∃ M, (nodeAt vs (vs.length - 1)).kids.length = M := ⟨_, rfl⟩
  have HM := hideIt hM
  rw [hM] at c4 hk80
  clear hcell hc hn1 hki p3 hb1 hkl hM
  go_enter Tryz.func30, Tryz.ntmps30
  go_wp2_with fail
  go_loopw [3, 5] (fun o i wr => ∃ (k : Nat) (rs : Nat → Value) (KV IV : Nat → Nat → Value) (lo : Nat → Nat), k ≤ M ∧ i = .int .i64 k ∧ Rows2 w.heap.size wr o k (PL vs) rs KV IV lo ∧ Below w.heap.size w wr) (fun _ i _ => M - (intOf i).toNat)
  case atStart => exact ⟨0, _, _, _, _, Nat.zero_le _, rfl, HR0.out, HB1.out⟩
  case round =>
    obtain ⟨k, rs, KV, IV, lo, hk, rfl, hrows, hbl⟩ := hrel
    have HR := hideIt hrows
    have zs := hbl.size
    obtain ⟨ao, co, eo⟩ := own_slice hrows.row
    subst eo
    clear hrows
    by_cases hlt : k < M
    · obtain ⟨q, hq, hql⟩ := HRK.out k (by rw [HKL.out, HM.out]; exact hlt)
      obtain ⟨bk, ok, rfl, hbk, hck⟩ := HKI.out (by rw [HM.out]; omega)
      have hcq : wr.cell? ⟨bk, ok + k, none⟩ = some (.int .i64 (q : Int)) := by
        have := hck k (by rw [HM.out]; exact hlt)
        rw [← hq]
        exact (below_cell hbl (by omega)).trans this
      obtain ⟨⟨a0, h0⟩, htr⟩ := HP3.out q (by omega)
      have HTR := hideIt htr
      have HPL : Hid (run vs (-(a0 : Int)) a0 (q + 1 - a0) = PL vs k) := by rw [Hid]; unfold PL; rw [hq, Int.toNat_natCast, partOf, htr]; simp [trF]
      clear htr hq hck
      go_wp2_with fail
      refine (l1Part_any B _ vs q a0 h0 wr (HV.out.below (hbl.mono hB)) (by omega) p1.2 HKF.out (by omega) HTR.out).mono ?_
      rintro e w3 ⟨r, K, I, rfl, hn3, hb3⟩
      rw [HPL.out] at hn3
      have HN3 := hideIt hn3
      obtain ⟨ar, cr, er⟩ := own_slice hn3.row
      obtain ⟨Lk, hLk⟩ : ∃ Lk, (PL vs k).length = Lk := ⟨_, rfl⟩
      rw [hLk] at er
      subst er
      have HB3 := hideIt hb3
      have z3 := hb3.size
      have HROW := hideIt (HR.out.below hb3).row
      clear hn3 hb3 hLk
      go_wp2_with (at_builtin; refine wpList_append_own_at _ rfl _ _ 51 rfl w.heap.size 24 i0 (.slice none 0 0) 1 24 Tryz.underlying51 hi0 hz0 hs0 hy0 rfl (by decide) _ _ _ rfl (HROW.out.alloc _) ⟨w3.heap.size, 0, none⟩ 1 1 [.slice ar Lk cr] rfl rfl ?c1 ?c2 ?c3 ?c4 ?c5 ?_)
      case c1 => exact cell_one_new _ _ _
      case c2 => intro u hu; simp at hu; subst hu; rfl
      case c3 => unfold maxLen; omega
      case c4 => omega
      case c5 => simp; omega
      intro v' w5 hown hgrow _ _
      have HR5 := hideIt (HR.out.snoc HB3.out HN3.out hown hgrow)
      have HB5 : Hid (Below w.heap.size w w5) := ((hbl.trans (HB3.out.mono zs)).alloc (by omega) _).grown hgrow (by simp; omega) (fun x hx => (HROW.out.lt x hx).1)
      clear hown hgrow
      go_wp2_with fail
      go_roundw
      case rel => exact ⟨k + 1, _, _, _, _, by omega, by go_num, HR5.out, HB5.out⟩
      case measure => simp [intOf]; omega
    · obtain rfl : k = M := by omega
      go_wp2_with fail
      go_ret
      exact ⟨_, _, _, _, _, rfl, by rw [HKL.out, HM.out]; exact HR.out, hbl⟩

end Go.Proofs.YtgmnihofkpjboaaGreatDoor

/-
  impl.without: the items that are the same as none of others.
-/
namespace Go.Proofs.YtgmnihofkpjboaaGreatDoor
open Go.RowKit
set_option linter.unusedSimpArgs false
set_option linter.unusedVariables false

/-- A row of values. -/
def ValsAt (w : World) (it : Value) (m : Nat) (V : Nat → Value) : Prop :=
  ∃ a cap, it = .slice a m cap ∧ (0 < m → ∃ b, a = some ⟨b, 0, none⟩ ∧ b < w.heap.size ∧ ∀ j, j < m → w.cell? ⟨b, j, none⟩ = some (V j)) ∧ ∀ j, j < m → ∃ t x, V j = .iface t x

theorem ValsAt.below {w w' : World} {it : Value} {m : Nat} {V : Nat → Value} (h : ValsAt w it m V) (hb : Below w.heap.size w w') : ValsAt w' it m V := by
  obtain ⟨a, cap, e, hc, hi⟩ := h
  refine ⟨a, cap, e, fun hp => ?_, hi⟩
  obtain ⟨b, ea, hbl, hcc⟩ := hc hp
  exact ⟨b, ea, Nat.lt_of_lt_of_le hbl hb.size, fun j hj => (below_cell hb hbl).trans (hcc j hj)⟩

/-- What a closure says of the values of a row, from a world on. -/
def Says (w : World) (c : Value) (m : Nat) (V : Nat → Value) (h : Nat → Bool) : Prop :=
  ∀ w', Below w.heap.size w w' → ∀ k, k < m → Calls Tryz.prog 52 #[V k, c] w' fun e w'' => e = .returned (.bool (h k)) ∧ Below w'.heap.size w' w''

set_option maxRecDepth 100000 in
set_option maxHeartbeats 1600000 in
theorem indexFunc_any (it c : Value) (m : Nat) (V : Nat → Value) (h : Nat → Bool) (w : World) (hv : ValsAt w it m V) (hs : Says w c m V h) (hm : m ≤ 1000000) :
    Calls Tryz.prog 60 #[it, .func (.func 52) #[] #[c]] w fun e w' => (∃ r : Int, e = .returned (.int .i64 r) ∧ (decide (0 ≤ r)) = anyTo h m ∧ -1 ≤ r ∧ r ≤ 1000000) ∧ Below w.heap.size w w' := by
  have HS := hideIt hs
  have HV := hideIt hv
  obtain ⟨a, cap, rfl, _, _⟩ := hv
  clear hs
  go_enter Tryz.func60, Tryz.ntmps60
  go_wp2_with fail
  go_loopw [5, 8] (fun _ i wr => ∃ k : Nat, k ≤ m ∧ i = .int .i64 k ∧ Hid (anyTo h k = false) ∧ Below w.heap.size w wr) (fun _ i _ => m - (intOf i).toNat)
  case atStart => exact ⟨0, Nat.zero_le _, rfl, rfl, Below.refl _ _⟩
  case round =>
    obtain ⟨k, hk, rfl, HN, hbl⟩ := hrel
    by_cases hlt : k < m
    · obtain ⟨a', cap', e', hc, hi⟩ := HV.out
      cases e'
      obtain ⟨b, rfl, hbl2, hcc⟩ := hc (by omega)
      obtain ⟨t, x, hx⟩ := hi k hlt
      have hcell := (below_cell hbl hbl2).trans (hcc k hlt)
      rw [hx] at hcell
      have HC := hideIt (HS.out wr hbl k hlt)
      rw [hx] at HC
      clear hc hi hcc
      cases hh : h k
      · rw [hh] at HC
        have HN2 : Hid (anyTo h (k + 1) = false) := by rw [Hid, anyTo, HN.out, hh]; rfl
        go_wp2_with fail
        refine HC.out.mono ?_
        rintro e w1 ⟨rfl, hb1⟩
        have HB1 := hideIt (hbl.trans (hb1.mono hbl.size))
        clear hb1
        go_wp2_with fail
        go_roundw
        case rel => exact ⟨k + 1, by omega, by go_num, HN2, HB1.out⟩
        case measure => simp [intOf]; omega
      · rw [hh] at HC
        have HY := hideIt (anyTo_yes hlt hh)
        go_wp2_with fail
        refine HC.out.mono ?_
        rintro e w1 ⟨rfl, hb1⟩
        have HB1 := hideIt (hbl.trans (hb1.mono hbl.size))
        clear hb1
        go_wp2_with fail
        go_ret
        exact ⟨⟨k, rfl, by rw [HY.out]; simp, by omega, by omega⟩, HB1.out⟩
    · obtain rfl : k = m := by omega
      go_wp2_with fail
      go_ret
      exact ⟨⟨-1, rfl, by rw [HN.out]; rfl, by omega, by omega⟩, hbl⟩

set_option maxHeartbeats 800000 in
theorem containsFunc_any (it c : Value) (m : Nat) (V : Nat → Value) (h : Nat → Bool) (w : World) (hv : ValsAt w it m V) (hs : Says w c m V h) (hm : m ≤ 1000000) :
    Calls Tryz.prog 51 #[it, .func (.func 52) #[] #[c]] w fun e w' => e = .returned (.bool (anyTo h m)) ∧ Below w.heap.size w w' := by
  have HS := hideIt hs
  have HV := hideIt hv
  obtain ⟨a, cap, rfl, _, _⟩ := hv
  clear hs
  go_enter Tryz.func51, Tryz.ntmps51
  go_wp2_with fail
  refine (indexFunc_any _ c m V h w HV.out HS.out hm).mono ?_
  rintro e w1 ⟨⟨r, rfl, hr, h1, h2⟩, hb⟩
  have HR := hideIt hr
  clear hr
  go_wp2_with fail
  all_goals
    go_ret
    exact ⟨ret_bool (by rw [← HR.out]; try simp [*]), hb⟩

set_option maxRecDepth 100000 in
set_option maxHeartbeats 3200000 in
theorem without_any (it it' : Value) (m m' : Nat) (V V' : Nat → Value) (g : Nat → Nat → Bool) (w : World) (hv : ValsAt w it m V) (hv' : ValsAt w it' m' V') (hm : m ≤ 1000) (hm' : m' ≤ 1000)
    (hs : ∀ w1, Below w.heap.size w w1 → ∀ xb i, i < m → w1.cell? ⟨xb, 0, none⟩ = some (V i) → xb < w1.heap.size → Says w1 (.pointer (some ⟨xb, 0, none⟩)) m' V' (g i)) :
    Calls Tryz.prog 39 #[it, it'] w fun e w' => ∃ r, e = .returned r ∧ w'.ownsRow w.heap.size 59 1 r (pickIx (fun i => anyTo (g i) m') m).length ((pickIx (fun i => anyTo (g i) m') m).map V) ∧ Below w.heap.size w w' := by
  have HV := hideIt hv
  have HV' := hideIt hv'
  have HS := hideIt hs
  obtain ⟨i0, hi0, hz0, hs0, hy0⟩ := info_parts infoVal
  obtain ⟨a, cap, rfl, _, _⟩ := hv
  obtain ⟨a', cap', rfl, _, _⟩ := hv'
  clear hs
  go_enter Tryz.func39, Tryz.ntmps39
  go_wp2_with fail
  go_loopw [5, 7, 10] (fun o _ i wr => ∃ (k : Nat), k ≤ m ∧ i = .int .i64 k ∧ wr.ownsRow w.heap.size 59 1 o (pickIx (fun i => anyTo (g i) m') k).length ((pickIx (fun i => anyTo (g i) m') k).map V) ∧ Below w.heap.size w wr) (fun _ _ i _ => m - (intOf i).toNat)
  case atStart => exact ⟨0, Nat.zero_le _, rfl, World.ownsRow_nil _ _ _ _, Below.refl _ _⟩
  case round =>
    obtain ⟨k, hk, rfl, hrow, hbl⟩ := hrel
    have HROW := hideIt hrow
    have zs := hbl.size
    obtain ⟨ao, co, eo⟩ := own_slice hrow
    have HPL := hideIt (pickIx_lt (fun i => anyTo (g i) m') k)
    obtain ⟨ps, hps⟩ : ∃ ps, pickIx (fun i => anyTo (g i) m') k = ps := ⟨_, rfl⟩
    have HPS := hideIt hps
    rw [hps] at eo HROW HPL
    obtain ⟨N, hN⟩ : ∃ N, ps.length = N := ⟨_, rfl⟩
    have HN := hideIt hN
    rw [hN] at eo
    subst eo
    have hNk : N ≤ k := by rw [← hN]; exact HPL.out.1
    clear hrow hps hN
    by_cases hlt : k < m
    · obtain ⟨a2, cap2, e2, hc, hi⟩ := HV.out
      cases e2
      obtain ⟨b, rfl, hbb, hcc⟩ := hc (by omega)
      obtain ⟨t, x, hx⟩ := hi k hlt
      have hcell := (below_cell hbl hbb).trans (hcc k hlt)
      rw [hx] at hcell
      have HX := hideIt hx
      clear hc hi hcc hx
      obtain ⟨W1, hW1⟩ : ∃ W1, wr.alloc (.cells #[.iface t x] 59) = W1 := ⟨_, rfl⟩
      have hx1 : W1.cell? ⟨wr.heap.size, 0, none⟩ = some (.iface t x) := by rw [← hW1]; simp
      have hz1 : W1.heap.size = wr.heap.size + 1 := by rw [← hW1]; simp
      have HB1 : Hid (Below w.heap.size w W1) := by rw [Hid, ← hW1]; exact hbl.alloc zs _
      have HR1 : Hid (W1.ownsRow w.heap.size 59 1 (.slice ao N co) ps.length (ps.map V)) := by rw [Hid, ← hW1]; exact HROW.out.alloc _
      have HW1 := hideIt hW1
      have HSY := hideIt (HS.out W1 HB1.out wr.heap.size k hlt (by rw [HX.out]; exact hx1) (by omega))
      have hlt1 : wr.heap.size < W1.heap.size := by omega
      have HX1 := hideIt hx1
      clear hW1 hx1 hz1
      have HG : Hid (∃ q, anyTo (g k) m' = q) := ⟨_, rfl⟩
      go_wp2_with fail
      rw [HW1.out]
      refine (containsFunc_any _ _ m' V' (g k) W1 (HV'.out.below HB1.out) HSY.out (by omega)).mono ?_
      rintro e w2 ⟨rfl, hb2⟩
      have HB2 := hideIt (HB1.out.trans (hb2.mono HB1.out.size))
      have HR2 := hideIt (own_from HR1.out ((From.refl w.heap.size W1).below hb2))
      have hx2 := (below_cell hb2 hlt1).trans HX1.out
      have z2 := hb2.size
      clear hb2
      cases hq : anyTo (g k) m'
      · have HPK : Hid (pickIx (fun i => anyTo (g i) m') (k + 1) = ps ++ [k]) := by rw [Hid, pickIx]; simp only [hq]; rw [HPS.out]; rfl
        go_wp2_with (at_builtin; refine wpList_append_own_at _ rfl _ _ 71 rfl w.heap.size 59 i0 .nilIface 1 16 Tryz.underlying71 hi0 hz0 hs0 hy0 rfl (by decide) _ _ _ rfl (HR2.out.alloc _) ⟨w2.heap.size, 0, none⟩ 1 1 [.iface t x] rfl rfl ?c1 ?c2 ?c3 ?c4 ?c5 ?_)
        case c1 => exact cell_one_new _ _ _
        case c2 => intro u hu; simp at hu; subst hu; rfl
        case c3 => have := HN.out; unfold maxLen; omega
        case c4 => have := HN.out; omega
        case c5 => simp; omega
        intro v' w5 hown hgrow _ _
        have HR5 : Hid (w5.ownsRow w.heap.size 59 1 v' (pickIx (fun i => anyTo (g i) m') (k + 1)).length ((pickIx (fun i => anyTo (g i) m') (k + 1)).map V)) := by
          rw [Hid, HPK.out, List.map_append, List.length_append]
          simp only [List.map_cons, List.map_nil, List.length_singleton]
          rw [HX.out]
          exact hown
        have HB5 : Hid (Below w.heap.size w w5) := (HB2.out.alloc HB2.out.size _).grown hgrow (by have := HB2.out.size; simp; omega) (fun y hy => (HR2.out.lt y hy).1)
        clear hown hgrow
        go_wp2_with fail
        go_roundw
        case rel => exact ⟨k + 1, by omega, by go_num, HR5.out, HB5.out⟩
        case measure => simp [intOf]; omega
      · have HPK : Hid (pickIx (fun i => anyTo (g i) m') (k + 1) = ps) := by rw [Hid, pickIx]; simp only [hq]; rw [if_pos trivial]; exact HPS.out
        have HR5 : Hid (w2.ownsRow w.heap.size 59 1 (.slice ao N co) (pickIx (fun i => anyTo (g i) m') (k + 1)).length ((pickIx (fun i => anyTo (g i) m') (k + 1)).map V)) := by rw [Hid, HPK.out]; exact HR2.out
        go_wp2_with fail
        go_roundw
        case rel => exact ⟨k + 1, by omega, by go_num, HR5.out, HB2.out⟩
        case measure => simp [intOf]; omega
    · obtain rfl : k = m := by omega
      have HR5 : Hid (wr.ownsRow w.heap.size 59 1 (.slice ao N co) (pickIx (fun i => anyTo (g i) m') k).length ((pickIx (fun i => anyTo (g i) m') k).map V)) := by rw [Hid, HPS.out]; exact HROW.out
      go_wp2_with fail
      go_ret
      exact ⟨_, rfl, HR5.out, hbl⟩
end Go.Proofs.YtgmnihofkpjboaaGreatDoor

/-
  spec.LengthOf.
-/
namespace Go.Proofs.YtgmnihofkpjboaaGreatDoor
open Go.RowKit
set_option linter.unusedSimpArgs false
set_option linter.unusedVariables false

set_option maxHeartbeats 800000 in
theorem l1NumberX (n : Int) (w : World) : Calls Tryz.prog 29 #[.int .i64 n] w fun e w' => ∃ r KV IV, e = .returned r ∧ Nest w.heap.size w' r (leafN 3 n ByteArray.empty) KV IV ∧ Below w.heap.size w w' := by
  go_enter Tryz.func29, Tryz.ntmps29
  go_wp2_with fail
  go_ret
  exact ⟨_, _, _, rfl, leaf_nest w 3 n _, (Below.refl _ _).alloc (Nat.le_refl _) _⟩

end Go.Proofs.YtgmnihofkpjboaaGreatDoor

/-
  A nest of nodes, from a lower block on.
-/
namespace Go.Proofs.YtgmnihofkpjboaaGreatDoor
open Go.RowKit

theorem Nest.low {base base' : Nat} {w : World} {v : Value} {vs : List VN} {KV IV : Nat → Value} (h : Nest base w v vs KV IV) (hb : base' ≤ base) : Nest base' w v vs KV IV :=
  ⟨own_mono h.row hb, fun i hi => own_mono (h.rk i hi) hb, fun i hi => own_mono (h.ri i hi) hb, h.dkk, h.dii⟩
end Go.Proofs.YtgmnihofkpjboaaGreatDoor
