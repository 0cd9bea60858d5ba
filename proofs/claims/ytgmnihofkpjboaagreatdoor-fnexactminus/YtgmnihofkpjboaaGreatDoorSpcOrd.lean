/-
  The specification's order of two right values.
-/
import Derived.Test.YtgmnihofkpjboaaGreatDoorCmpD
import Derived.Deep.QuietTactic
import Derived.BigQuiet
import Derived.WalkSmall
import Derived.Deep.RegionWith
namespace Go.Proofs.YtgmnihofkpjboaaGreatDoor
open Go.RowKit
set_option linter.unusedSimpArgs false
set_option linter.unusedVariables false

/-- Two values side by side in memory: what the order asks of them. -/
structure Two (B : Nat) (w : World) (v1 v2 : Value) (us vs : List VN) : Prop where
  n1 : NodesAt B w v1 us
  n2 : NodesAt B w v2 vs
  k1 : ∀ k, k < us.length → nodeB (nodeAt us k) = true ∧ kidsIn us k = true
  k2 : ∀ k, k < vs.length → nodeB (nodeAt vs k) = true ∧ kidsIn vs k = true

theorem Two.below {B : Nat} {w w' : World} {v1 v2 : Value} {us vs : List VN} (h : Two B w v1 v2 us vs) (hb : Below B w w') : Two B w' v1 v2 us vs := ⟨h.n1.below hb, h.n2.below hb, h.k1, h.k2⟩

theorem nodeB_keys {x : VN} (h : nodeB x = true) (hk : x.kind ≠ 6) : x.keys = [] := by
  unfold nodeB unnamedB at h
  simp [hk] at h
  exact h.1.1.2

set_option maxRecDepth 100000 in
set_option maxHeartbeats 6400000 in
theorem l1Order_any (B : Nat) (v1 v2 : Value) (us vs : List VN) : ∀ (f n m : Nat) (w : World), n < f → n < us.length → m < vs.length → Two B w v1 v2 us vs → B ≤ w.heap.size →
    Calls Tryz.prog 44 #[v1, .int .i64 n, v2, .int .i64 m] w fun e w' => e = .returned (.int .i64 (ord us vs f n m)) ∧ Below w.heap.size w w' := by
  intro f
  induction f with
  | zero => intro n m w h; omega
  | succ f ih =>
    intro n m w hf hn hm h2 hB
    have H2 := hideIt h2
    have IH := hideIt ih
    clear ih
    obtain ⟨hlen1, a1, cap1, rfl, hcell1⟩ := h2.n1
    obtain ⟨hlen2, a2, cap2, rfl, hcell2⟩ := h2.n2
    obtain ⟨b1, o1, rfl, hb1, hc1⟩ := hcell1 (by omega)
    obtain ⟨b2, o2, rfl, hb2, hc2⟩ := hcell2 (by omega)
    obtain ⟨ka, ki, hx⟩ := hc1 n hn
    obtain ⟨ka', ki', hy⟩ := hc2 m hm
    have c0 := hx.c0
    have c1 := hx.c1
    have c2 := hx.c2
    have c3 := hx.c3
    have c4 := hx.c4
    have d0 := hy.c0
    have d1 := hy.c1
    have d2 := hy.c2
    have d3 := hy.c3
    have d4 := hy.c4
    obtain ⟨lk, _, ak, ck, ek, hkk⟩ := hx.inn.keys
    obtain ⟨li, _, ai, ci, ei, hki⟩ := hx.inn.kids
    obtain ⟨lk', _, ak', ck', ek', hkk'⟩ := hy.inn.keys
    obtain ⟨li', _, ai', ci', ei', hki'⟩ := hy.inn.kids
    subst ek ei ek' ei'
    have HKK := hideIt hkk
    have HKI := hideIt hki
    have HKK' := hideIt hkk'
    have HKI' := hideIt hki'
    have HNX := hideIt (h2.k1 n hn)
    have HNY := hideIt (h2.k2 m hm)
    have HO : Hid (ord us vs (f + 1) n m = _) := hideIt (ord.eq_def us vs (f + 1) n m)
    clear h2 hcell1 hcell2 hc1 hc2 hx hy hkk hki hkk' hki'
    have l1 : b1 < w.heap.size := by omega
    have l2 : b2 < w.heap.size := by omega
    by_cases e0 : (nodeAt us n).kind = (nodeAt vs m).kind
    · have q0 : ((nodeAt us n).kind != (nodeAt vs m).kind) = false := by simp [e0]
      have HE0 := hideIt e0
      clear e0
      by_cases e1 : (nodeAt us n).n = (nodeAt vs m).n
      · have q1 : ((nodeAt us n).n != (nodeAt vs m).n) = false := by simp [e1]
        have HE1 := hideIt e1
        clear e1
        by_cases e2 : cmpS (nodeAt us n).s (nodeAt vs m).s = 0
        · have q2 := eq_of e2
          have HE2 := hideIt e2
          have HR : Hid (ord us vs (f + 1) n m = if cmpKeys (nodeAt us n).keys (nodeAt vs m).keys ≠ 0 then cmpKeys (nodeAt us n).keys (nodeAt vs m).keys else cmpKids (fun a b => ord us vs f a.toNat b.toNat) (nodeAt us n).kids (nodeAt vs m).kids) := by
            rw [Hid, ord, if_neg (by simp [HE0.out]), if_neg (by simp [HE1.out]), if_neg (by simp [HE2.out])]
          clear e2 HO
          have x0 : ((w.alloc (.cells #[.int .i64 (nodeAt us n).kind, .int .i64 (nodeAt us n).n, .string (nodeAt us n).s, .slice ak (nodeAt us n).keys.length ck, .slice ai (nodeAt us n).kids.length ci] 37)).alloc (.cells #[.int .i64 (nodeAt vs m).kind, .int .i64 (nodeAt vs m).n, .string (nodeAt vs m).s, .slice ak' (nodeAt vs m).keys.length ck', .slice ai' (nodeAt vs m).kids.length ci'] 37)).cell? ⟨w.heap.size, 0, none⟩ = some (.int .i64 (nodeAt us n).kind) := by simp
          have x3 : ((w.alloc (.cells #[.int .i64 (nodeAt us n).kind, .int .i64 (nodeAt us n).n, .string (nodeAt us n).s, .slice ak (nodeAt us n).keys.length ck, .slice ai (nodeAt us n).kids.length ci] 37)).alloc (.cells #[.int .i64 (nodeAt vs m).kind, .int .i64 (nodeAt vs m).n, .string (nodeAt vs m).s, .slice ak' (nodeAt vs m).keys.length ck', .slice ai' (nodeAt vs m).kids.length ci'] 37)).cell? ⟨w.heap.size, 3, none⟩ = some (.slice ak (nodeAt us n).keys.length ck) := by simp
          have x4 : ((w.alloc (.cells #[.int .i64 (nodeAt us n).kind, .int .i64 (nodeAt us n).n, .string (nodeAt us n).s, .slice ak (nodeAt us n).keys.length ck, .slice ai (nodeAt us n).kids.length ci] 37)).alloc (.cells #[.int .i64 (nodeAt vs m).kind, .int .i64 (nodeAt vs m).n, .string (nodeAt vs m).s, .slice ak' (nodeAt vs m).keys.length ck', .slice ai' (nodeAt vs m).kids.length ci'] 37)).cell? ⟨w.heap.size, 4, none⟩ = some (.slice ai (nodeAt us n).kids.length ci) := by simp
          have y3 : ((w.alloc (.cells #[.int .i64 (nodeAt us n).kind, .int .i64 (nodeAt us n).n, .string (nodeAt us n).s, .slice ak (nodeAt us n).keys.length ck, .slice ai (nodeAt us n).kids.length ci] 37)).alloc (.cells #[.int .i64 (nodeAt vs m).kind, .int .i64 (nodeAt vs m).n, .string (nodeAt vs m).s, .slice ak' (nodeAt vs m).keys.length ck', .slice ai' (nodeAt vs m).kids.length ci'] 37)).cell? ⟨w.heap.size + 1, 3, none⟩ = some (.slice ak' (nodeAt vs m).keys.length ck') := by simp
          have y4 : ((w.alloc (.cells #[.int .i64 (nodeAt us n).kind, .int .i64 (nodeAt us n).n, .string (nodeAt us n).s, .slice ak (nodeAt us n).keys.length ck, .slice ai (nodeAt us n).kids.length ci] 37)).alloc (.cells #[.int .i64 (nodeAt vs m).kind, .int .i64 (nodeAt vs m).n, .string (nodeAt vs m).s, .slice ak' (nodeAt vs m).keys.length ck', .slice ai' (nodeAt vs m).kids.length ci'] 37)).cell? ⟨w.heap.size + 1, 4, none⟩ = some (.slice ai' (nodeAt vs m).kids.length ci') := by simp
          have sb : ((w.alloc (.cells #[.int .i64 (nodeAt us n).kind, .int .i64 (nodeAt us n).n, .string (nodeAt us n).s, .slice ak (nodeAt us n).keys.length ck, .slice ai (nodeAt us n).kids.length ci] 37)).alloc (.cells #[.int .i64 (nodeAt vs m).kind, .int .i64 (nodeAt vs m).n, .string (nodeAt vs m).s, .slice ak' (nodeAt vs m).keys.length ck', .slice ai' (nodeAt vs m).kids.length ci'] 37)).heap.size = w.heap.size + 1 + 1 := by simp
          have bb : Below w.heap.size w ((w.alloc (.cells #[.int .i64 (nodeAt us n).kind, .int .i64 (nodeAt us n).n, .string (nodeAt us n).s, .slice ak (nodeAt us n).keys.length ck, .slice ai (nodeAt us n).kids.length ci] 37)).alloc (.cells #[.int .i64 (nodeAt vs m).kind, .int .i64 (nodeAt vs m).n, .string (nodeAt vs m).s, .slice ak' (nodeAt vs m).keys.length ck', .slice ai' (nodeAt vs m).kids.length ci'] 37)) := ((Below.refl _ _).alloc (Nat.le_refl _) _).alloc (by simp) _
          have HX := hideIt (And.intro x0 (And.intro x3 (And.intro x4 (And.intro y3 y4))))
          have HSB := hideIt sb
          have HBB := hideIt bb
          clear x0 x3 x4 y3 y4 sb bb
          go_enter Tryz.func44, Tryz.ntmps44
          go_wp2_with fail
          generalize ((w.alloc (.cells #[.int .i64 (nodeAt us n).kind, .int .i64 (nodeAt us n).n, .string (nodeAt us n).s, .slice ak (nodeAt us n).keys.length ck, .slice ai (nodeAt us n).kids.length ci] 37)).alloc (.cells #[.int .i64 (nodeAt vs m).kind, .int .i64 (nodeAt vs m).n, .string (nodeAt vs m).s, .slice ak' (nodeAt vs m).keys.length ck', .slice ai' (nodeAt vs m).kids.length ci'] 37)) = Wb at *
          have hs2 : w.heap.size + 1 < Wb.heap.size := by have := HSB.out; omega
          have hwb := HBB.out.size
          clear c0 c1 c2 c3 c4 d0 d1 d2 d3 d4 q0 q1 q2
          go_loopw [11] (fun i wr => ∃ k : Nat, i = .int .i64 k ∧ k ≤ (nodeAt us n).keys.length ∧ k ≤ (nodeAt vs m).keys.length ∧ Hid (cmpKeys ((nodeAt us n).keys.drop k) ((nodeAt vs m).keys.drop k) = cmpKeys (nodeAt us n).keys (nodeAt vs m).keys) ∧ Below Wb.heap.size Wb wr) (fun i _ => (nodeAt us n).keys.length - (intOf i).toNat)
          case atStart => exact ⟨0, rfl, Nat.zero_le _, Nat.zero_le _, by rw [Hid]; simp, Below.refl _ _⟩
          case round =>
            obtain ⟨k, rfl, hk1, hk2, HE, hbw⟩ := hrel
            have x0 := (below_cell (b := w.heap.size) (o := 0) hbw (by omega)).trans HX.out.1
            have x3 := (below_cell (b := w.heap.size) (o := 3) hbw (by omega)).trans HX.out.2.1
            have x4 := (below_cell (b := w.heap.size) (o := 4) hbw (by omega)).trans HX.out.2.2.1
            have y3 := (below_cell (b := w.heap.size + 1) (o := 3) hbw (by omega)).trans HX.out.2.2.2.1
            have y4 := (below_cell (b := w.heap.size + 1) (o := 4) hbw (by omega)).trans HX.out.2.2.2.2
            have HBW := hideIt (HBB.out.trans (hbw.mono hwb))
            by_cases g1 : k < (nodeAt us n).keys.length
            · by_cases g2 : k < (nodeAt vs m).keys.length
              · obtain ⟨p1, r1, rfl, hp1, hkk1⟩ := HKK.out (by omega)
                obtain ⟨p2, r2, rfl, hp2, hkk2⟩ := HKK'.out (by omega)
                have s1 : wr.cell? ⟨p1, r1 + k, none⟩ = some (.string (keyAt (nodeAt us n).keys k)) := (below_cell (HBW.out) (by omega)).trans (hkk1 k g1)
                have s2 : wr.cell? ⟨p2, r2 + k, none⟩ = some (.string (keyAt (nodeAt vs m).keys k)) := (below_cell (HBW.out) (by omega)).trans (hkk2 k g2)
                clear hkk1 hkk2
                have i1 : (k : Int) < (((nodeAt us n).keys.length : Nat) : Int) := by omega
                have i2 : (k : Int) < (((nodeAt vs m).keys.length : Nat) : Int) := by omega
                have HS := hideIt (cmpKeys_step g1 g2)
                by_cases hz : cmpS (keyAt (nodeAt us n).keys k) (keyAt (nodeAt vs m).keys k) = 0
                · have qz := eq_of hz
                  have HZ := hideIt hz
                  clear hz
                  go_wp2_with fail
                  go_quiet (fail)
                  go_wp2_with fail
                  go_roundw
                  case rel => exact ⟨k + 1, by go_num, by omega, by omega, by rw [Hid, ← HE.out, HS.out]; simp [HZ.out], below_drewN hbw nq⟩
                  case measure => simp [intOf]; omega
                · have qz := ne_of hz
                  have HR2 : Hid (ord us vs (f + 1) n m = cmpS (keyAt (nodeAt us n).keys k) (keyAt (nodeAt vs m).keys k)) := by
                    have hc : cmpKeys (nodeAt us n).keys (nodeAt vs m).keys = cmpS (keyAt (nodeAt us n).keys k) (keyAt (nodeAt vs m).keys k) := by rw [← HE.out, HS.out]; simp [hz]
                    rw [Hid, HR.out, hc, if_pos hz]
                  clear hz
                  go_wp2_with fail
                  go_quiet (fail)
                  go_wp2_with fail
                  have t1 : (wr.drewN nq).cell? ⟨p1, r1 + k, none⟩ = some (.string (keyAt (nodeAt us n).keys k)) := s1
                  have t2 : (wr.drewN nq).cell? ⟨p2, r2 + k, none⟩ = some (.string (keyAt (nodeAt vs m).keys k)) := s2
                  have t3 : (wr.drewN nq).cell? ⟨w.heap.size, 3, none⟩ = some (.slice (some ⟨p1, r1, none⟩) (nodeAt us n).keys.length ck) := x3
                  have t4 : (wr.drewN nq).cell? ⟨w.heap.size + 1, 3, none⟩ = some (.slice (some ⟨p2, r2, none⟩) (nodeAt vs m).keys.length ck') := y3
                  have HW := hideIt (below_drewN hbw nq)
                  clear s1 s2 x0 x3 x4 y3 y4
                  generalize wr.drewN nq = wz at *
                  go_quiet ((go_at_call 55; exact Calls.quiet_of_same (l1CmpText_any _ _ _)))
                  go_wp2_with fail
                  go_ret
                  exact ⟨ret_int HR2.out.symm, HBB.out.trans ((below_drewN HW.out _).mono hwb)⟩
              · have i1 : (k : Int) < (((nodeAt us n).keys.length : Nat) : Int) := by omega
                have i2 : ¬ (k : Int) < (((nodeAt vs m).keys.length : Nat) : Int) := by omega
                have hne : (nodeAt us n).keys.length ≠ (nodeAt vs m).keys.length := by omega
                have hk6 : (nodeAt us n).kind = 6 := by
                  by_cases e : (nodeAt us n).kind = 6
                  · exact e
                  · have e1 := nodeB_keys HNX.out.1 e
                    have e2 := nodeB_keys HNY.out.1 (by rw [← HE0.out]; exact e)
                    rw [e1, e2] at hne
                    exact absurd rfl hne
                have hcI : cmpKeys (nodeAt us n).keys (nodeAt vs m).keys = 1 := by rw [← HE.out]; exact cmpKeys_more g1 (by omega)
                have HR2 : Hid (ord us vs (f + 1) n m = cmpI (((nodeAt us n).keys.length : Nat) : Int) (((nodeAt vs m).keys.length : Nat) : Int)) := by
                  have hci : cmpI (((nodeAt us n).keys.length : Nat) : Int) (((nodeAt vs m).keys.length : Nat) : Int) = 1 := by unfold cmpI; split <;> (try split) <;> omega
                  rw [Hid, HR.out, hcI, hci]; rfl
                have qk : ((nodeAt us n).kind == 6) = true := by simp [hk6]
                have ql : ((((nodeAt us n).keys.length : Nat) : Int) != (((nodeAt vs m).keys.length : Nat) : Int)) = true := by simp; omega
                clear hne hk6 hcI
                go_wp2_with fail
                refine (l1Cmp_any _ _ _).mono ?_
                rintro e w1 ⟨rfl, rfl⟩
                go_wp2_with fail
                go_ret
                exact ⟨ret_int HR2.out.symm, HBW.out⟩
            · have i1 : ¬ (k : Int) < (((nodeAt us n).keys.length : Nat) : Int) := by omega
              by_cases g3 : (nodeAt us n).keys.length < (nodeAt vs m).keys.length
              · have hne : (nodeAt us n).keys.length ≠ (nodeAt vs m).keys.length := by omega
                have hk6 : (nodeAt us n).kind = 6 := by
                  by_cases e : (nodeAt us n).kind = 6
                  · exact e
                  · have e1 := nodeB_keys HNX.out.1 e
                    have e2 := nodeB_keys HNY.out.1 (by rw [← HE0.out]; exact e)
                    rw [e1, e2] at hne
                    exact absurd rfl hne
                have hcI : cmpKeys (nodeAt us n).keys (nodeAt vs m).keys = -1 := by rw [← HE.out]; exact cmpKeys_less (by omega) (by omega)
                have HR2 : Hid (ord us vs (f + 1) n m = cmpI (((nodeAt us n).keys.length : Nat) : Int) (((nodeAt vs m).keys.length : Nat) : Int)) := by
                  have hci : cmpI (((nodeAt us n).keys.length : Nat) : Int) (((nodeAt vs m).keys.length : Nat) : Int) = -1 := by unfold cmpI; split <;> (try split) <;> omega
                  rw [Hid, HR.out, hcI, hci]; rfl
                have qk : ((nodeAt us n).kind == 6) = true := by simp [hk6]
                have ql : ((((nodeAt us n).keys.length : Nat) : Int) != (((nodeAt vs m).keys.length : Nat) : Int)) = true := by simp; omega
                clear hne hk6 hcI
                go_wp2_with fail
                refine (l1Cmp_any _ _ _).mono ?_
                rintro e w1 ⟨rfl, rfl⟩
                go_wp2_with fail
                go_ret
                exact ⟨ret_int HR2.out.symm, HBW.out⟩
              · have hc0 : cmpKeys (nodeAt us n).keys (nodeAt vs m).keys = 0 := by rw [← HE.out]; exact cmpKeys_end (by omega) (by omega)
                have HR2 : Hid (ord us vs (f + 1) n m = cmpKids (fun a b => ord us vs f a.toNat b.toNat) (nodeAt us n).kids (nodeAt vs m).kids) := by
                  rw [Hid, HR.out, hc0]; simp
                have hleq : (nodeAt us n).keys.length = (nodeAt vs m).keys.length := by omega
                have ql : ((((nodeAt us n).keys.length : Nat) : Int) != (((nodeAt vs m).keys.length : Nat) : Int)) = false := by simp [hleq]
                have HQ := hideIt hleq
                clear hc0 hleq
                obtain ⟨bq, qk⟩ : ∃ bq, ((nodeAt us n).kind == 6) = bq := ⟨_, rfl⟩
                have HB3 := hideIt hbw
                have HWZ := hideIt hbw.size
                cases bq
                all_goals
                  go_wp2_with fail
                  clear x0 x3 x4 y3 y4 qk ql
                  obtain ⟨W3, rfl⟩ : ∃ W3, W3 = wr := ⟨_, rfl⟩
                  go_loopw [12] (fun i wr => ∃ c : Nat, i = .int .i64 c ∧ c ≤ (nodeAt us n).kids.length ∧ c ≤ (nodeAt vs m).kids.length ∧ Hid (cmpKids (fun a b => ord us vs f a.toNat b.toNat) ((nodeAt us n).kids.drop c) ((nodeAt vs m).kids.drop c) = cmpKids (fun a b => ord us vs f a.toNat b.toNat) (nodeAt us n).kids (nodeAt vs m).kids) ∧ Below Wb.heap.size Wb wr) (fun i _ => (nodeAt us n).kids.length - (intOf i).toNat)
                  case atStart => exact ⟨0, rfl, Nat.zero_le _, Nat.zero_le _, by rw [Hid]; simp, HB3.out⟩
                  case round =>
                    obtain ⟨c, rfl, hc1, hc2, HE4, hbz⟩ := hrel
                    have x4 := (below_cell (b := w.heap.size) (o := 4) hbz (by omega)).trans HX.out.2.2.1
                    have y4 := (below_cell (b := w.heap.size + 1) (o := 4) hbz (by omega)).trans HX.out.2.2.2.2
                    have HBZ := hideIt (HBB.out.trans (hbz.mono hwb))
                    have hzs := hbz.size
                    by_cases j1 : c < (nodeAt us n).kids.length
                    · have m1 : (c : Int) < (((nodeAt us n).kids.length : Nat) : Int) := by omega
                      by_cases j2 : c < (nodeAt vs m).kids.length
                      · have m2 : (c : Int) < (((nodeAt vs m).kids.length : Nat) : Int) := by omega
                        obtain ⟨p1, r1, rfl, hp1, hki1⟩ := HKI.out (by omega)
                        obtain ⟨p2, r2, rfl, hp2, hki2⟩ := HKI'.out (by omega)
                        have kr1 := kidsIn_get HNX.out.2 j1
                        have kr2 := kidsIn_get HNY.out.2 j2
                        obtain ⟨qa, hqa⟩ : ∃ qa : Nat, intAt (nodeAt us n).kids c = (qa : Int) := ⟨(intAt (nodeAt us n).kids c).toNat, by omega⟩
                        obtain ⟨qb, hqb⟩ : ∃ qb : Nat, intAt (nodeAt vs m).kids c = (qb : Int) := ⟨(intAt (nodeAt vs m).kids c).toNat, by omega⟩
                        have hqan : qa < n := by omega
                        have hqbm : qb < m := by omega
                        have s1 : wr.cell? ⟨p1, r1 + c, none⟩ = some (.int .i64 (qa : Int)) := by rw [← hqa]; exact (below_cell HBZ.out (by omega)).trans (hki1 c j1)
                        have s2 : wr.cell? ⟨p2, r2 + c, none⟩ = some (.int .i64 (qb : Int)) := by rw [← hqb]; exact (below_cell HBZ.out (by omega)).trans (hki2 c j2)
                        have HS := hideIt (cmpKids_step (R := (fun a b => ord us vs f a.toNat b.toNat)) j1 j2)
                        have HQA := hideIt hqa
                        have HQB := hideIt hqb
                        clear hki1 hki2 hqa hqb kr1 kr2
                        go_wp2_with fail
                        go_region_with (go_at_call 44; refine (IH.out qa qb _ ?_ ?_ ?_ ?_ ?_).mono ?_; exact (by omega); exact (by omega); exact (by omega); exact (H2.out.below (HBZ.out.mono hB)).below (bsame rfl rfl rfl rfl); exact (by simp; omega); rintro e w5 ⟨rfl, hb5⟩)
                        all_goals
                          have HB5 : Hid (Below Wb.heap.size Wb w5) := hbz.drew.trans (hb5.mono (by simpa using hzs))
                          clear hb5
                          obtain ⟨bz, hbz0⟩ : ∃ bz, (ord us vs f qa qb != 0) = bz := ⟨_, rfl⟩
                          cases bz
                          · have HZ0 : Hid (ord us vs f qa qb = 0) := by simpa [Hid] using hbz0
                            go_wp2_with fail
                            go_roundw
                            case rel => exact ⟨c + 1, by go_num, by omega, by omega, by rw [Hid, ← HE4.out, HS.out]; simp [HQA.out, HQB.out, HZ0.out], HB5.out⟩
                            case measure => simp [intOf]; omega
                          · have HZ0 : Hid (¬ ord us vs f qa qb = 0) := by simpa [Hid] using hbz0
                            have HR3 : Hid (ord us vs (f + 1) n m = ord us vs f qa qb) := by
                              rw [Hid, HR2.out, ← HE4.out, HS.out]; simp [HQA.out, HQB.out, HZ0.out]
                            go_wp2_with fail
                            go_ret
                            exact ⟨ret_int HR3.out.symm, HBB.out.trans (HB5.out.mono hwb)⟩
                      · have m2 : ¬ (c : Int) < (((nodeAt vs m).kids.length : Nat) : Int) := by omega
                        have HR3 : Hid (ord us vs (f + 1) n m = cmpI (((nodeAt us n).kids.length : Nat) : Int) (((nodeAt vs m).kids.length : Nat) : Int)) := by
                          rw [Hid, HR2.out, ← HE4.out, cmpKids_more j1 (by omega)]; unfold cmpI; split <;> (try split) <;> omega
                        go_wp2_with fail
                        refine (l1Cmp_any _ _ _).mono ?_
                        rintro e w5 ⟨rfl, rfl⟩
                        go_wp2_with fail
                        go_ret
                        exact ⟨ret_int HR3.out.symm, HBZ.out⟩
                    · have m1 : ¬ (c : Int) < (((nodeAt us n).kids.length : Nat) : Int) := by omega
                      have HR3 : Hid (ord us vs (f + 1) n m = cmpI (((nodeAt us n).kids.length : Nat) : Int) (((nodeAt vs m).kids.length : Nat) : Int)) := by
                        rw [Hid, HR2.out, ← HE4.out]
                        by_cases j2 : c < (nodeAt vs m).kids.length
                        · rw [cmpKids_less (by omega) j2]; unfold cmpI; split <;> (try split) <;> omega
                        · rw [cmpKids_end (by omega) (by omega)]; unfold cmpI; split <;> (try split) <;> omega
                      go_wp2_with fail
                      refine (l1Cmp_any _ _ _).mono ?_
                      rintro e w5 ⟨rfl, rfl⟩
                      go_wp2_with fail
                      go_ret
                      exact ⟨ret_int HR3.out.symm, HBZ.out⟩
        · have q2 := ne_of e2
          have HR : Hid (ord us vs (f + 1) n m = cmpS (nodeAt us n).s (nodeAt vs m).s) := by
            rw [Hid, ord, if_neg (by simp [HE0.out]), if_neg (by simp [HE1.out]), if_pos e2]
          clear e2 HO
          go_enter Tryz.func44, Tryz.ntmps44
          go_wp2_with fail
          refine (l1CmpText_any _ _ _).mono ?_
          rintro e w1 ⟨rfl, rfl⟩
          go_wp2_with fail
          go_ret
          exact ⟨ret_int HR.out.symm, ((Below.refl _ _).alloc (Nat.le_refl _) _).alloc (by simp) _⟩
      · have q1 : ((nodeAt us n).n != (nodeAt vs m).n) = true := by simp [e1]
        have HR : Hid (ord us vs (f + 1) n m = cmpI (nodeAt us n).n (nodeAt vs m).n) := by
          rw [Hid, ord, if_neg (by simp [HE0.out]), if_pos e1]
        clear e1 HO
        go_enter Tryz.func44, Tryz.ntmps44
        go_wp2_with fail
        refine (l1Cmp_any _ _ _).mono ?_
        rintro e w1 ⟨rfl, rfl⟩
        go_wp2_with fail
        go_ret
        exact ⟨ret_int HR.out.symm, ((Below.refl _ _).alloc (Nat.le_refl _) _).alloc (by simp) _⟩
    · have HR : Hid (ord us vs (f + 1) n m = cmpI (nodeAt us n).kind (nodeAt vs m).kind) := by rw [Hid, ord, if_pos e0]
      have q0 : ((nodeAt us n).kind != (nodeAt vs m).kind) = true := by simp [e0]
      clear e0 HO
      go_enter Tryz.func44, Tryz.ntmps44
      go_wp2_with fail
      refine (l1Cmp_any _ _ _).mono ?_
      rintro e w1 ⟨rfl, rfl⟩
      go_wp2_with fail
      go_ret
      exact ⟨ret_int HR.out.symm, ((Below.refl _ _).alloc (Nat.le_refl _) _).alloc (by simp) _⟩
end Go.Proofs.YtgmnihofkpjboaaGreatDoor
