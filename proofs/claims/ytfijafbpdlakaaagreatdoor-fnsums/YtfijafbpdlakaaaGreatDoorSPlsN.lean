/-
  spec.l8Plus at two maps: the walk.
-/
import Derived.Test.YtfijafbpdlakaaaGreatDoorJnM
namespace Go.Proofs.YtfijafbpdlakaaaGreatDoor
open Go.RowKit
set_option linter.unusedSimpArgs false
set_option linter.unusedVariables false

set_option maxRecDepth 100000 in
set_option maxHeartbeats 6400000 in
theorem l8Plus_map (B : Nat) (v1 v2 : Value) (us vs : List VN) (w : World) (hn1 : NodesAt B w v1 us) (hn2 : NodesAt B w v2 vs) (hB : B ≤ w.heap.size) (ok1 : okB us = true) (ok2 : okB vs = true) (hk1 : (rootN us).kind = 6) (hk2 : (rootN vs).kind = 6) :
    Calls Tryz.prog 26 #[v1, v2] w fun e w' => ∃ r base KV IV, e = .returned (.tuple #[r, .int .i64 (plusC us vs)]) ∧ w.heap.size ≤ base ∧ Nest base w' r (plusNs us vs) KV IV ∧ Below w.heap.size w w' := by
  obtain ⟨p1a, p1b⟩ := (okB_parts ok1).1
  obtain ⟨p2a, p2b⟩ := (okB_parts ok2).1
  obtain ⟨a1, a2⟩ := map_keys ok1 hk1
  obtain ⟨b1', b2'⟩ := map_keys ok2 hk2
  have k1 : (rootN us).kids.length = (rootKids us).length := rfl
  have k2 : (rootN vs).kids.length = (rootKids vs).length := rfl
  obtain ⟨b1, o1, c1, aK1, cK1, aI1, cI1, rfl, hb1, hin1, d0, d1, d2, d3, d4⟩ := root_in hn1 (by omega)
  obtain ⟨b2, o2, c2, aK2, cK2, aI2, cI2, rfl, hb2, hin2, g0, g1, g2, g3, g4⟩ := root_in hn2 (by omega)
  have HM := hideIt (plus_raw ok1 ok2 (by omega) (by omega) (by omega))
  rw [raw_join hk1] at HM
  have HPT1 := hideIt (fun W (hb : Below w.heap.size w W) => l1Parts_any B _ us W (hn1.below (hb.mono hB)) (Nat.le_trans hB hb.size) ok1)
  have HPT2 := hideIt (fun W (hb : Below w.heap.size w W) => l1Parts_any B _ vs W (hn2.below (hb.mono hB)) (Nat.le_trans hB hb.size) ok2)
  rw [a1] at hin1 d3
  rw [k1] at hin1 d4
  rw [b1'] at hin2 g3
  rw [k2] at hin2 g4
  obtain ⟨M, hM⟩ : ∃ M, (rootKids us).length = M := ⟨_, rfl⟩
  obtain ⟨M', hM'⟩ : ∃ M', (rootKids vs).length = M' := ⟨_, rfl⟩
  have hM80 : M ≤ 80 := by rw [← hM]; exact (parts_ok ok1).2
  have hM80' : M' ≤ 80 := by rw [← hM']; exact (parts_ok ok2).2
  rw [hM] at hin1 d3 d4 HPT1 a1
  rw [hM'] at hin2 g3 g4 HPT2 b1'
  have HI1 := hideIt hin1
  have HI2 := hideIt hin2
  obtain ⟨N1, hN1⟩ : ∃ N1, us.length = N1 := ⟨_, rfl⟩
  obtain ⟨N2, hN2⟩ : ∃ N2, vs.length = N2 := ⟨_, rfl⟩
  rw [hN1] at p1a p1b d0 d1 d2 d3 d4 HPT1 ⊢
  rw [hN2] at p2a p2b g0 g1 g2 g3 g4 HPT2 ⊢
  have z1 : ((N1 : Int) - 1).toNat = N1 - 1 := by omega
  have z2 : ((N2 : Int) - 1).toNat = N2 - 1 := by omega
  obtain ⟨kx, hkx⟩ : ∃ k, (rootN us).kind = k := ⟨_, rfl⟩
  obtain ⟨ky, hky⟩ : ∃ k, (rootN vs).kind = k := ⟨_, rfl⟩
  obtain ⟨nx, hnx⟩ : ∃ k, (rootN us).n = k := ⟨_, rfl⟩
  obtain ⟨ny, hny⟩ : ∃ k, (rootN vs).n = k := ⟨_, rfl⟩
  obtain ⟨sx, hsx⟩ : ∃ k, (rootN us).s = k := ⟨_, rfl⟩
  obtain ⟨sy, hsy⟩ : ∃ k, (rootN vs).s = k := ⟨_, rfl⟩
  rw [hkx] at d0
  rw [hky] at g0
  rw [hnx] at d1
  rw [hny] at g1
  rw [hsx] at d2
  rw [hsy] at g2
  have q1 : (kx == 1) = false := by simp; omega
  have q2 : (ky == 1) = false := by simp; omega
  have q3 : (kx != ky) = false := by simp; omega
  have q4 : (kx == 3) = false := by simp; omega
  have q5 : (kx == 4) = false := by simp; omega
  have q6 : (kx == 5) = false := by simp; omega
  have q7 : (kx == 6) = true := by simp; omega
  obtain ⟨WA, hWA⟩ : ∃ WA, (w.alloc (.cells #[.int .i64 kx, .int .i64 nx, .string sx, .slice aK1 M cK1, .slice aI1 M cI1] 34)).alloc (.cells #[.int .i64 ky, .int .i64 ny, .string sy, .slice aK2 M' cK2, .slice aI2 M' cI2] 34) = WA := ⟨_, rfl⟩
  have HWA := hideIt hWA
  have hzA : WA.heap.size = w.heap.size + 1 + 1 := by rw [← hWA]; simp
  have HBA : Hid (Below w.heap.size w WA) := by rw [Hid, ← hWA]; exact ((Below.refl _ _).alloc (Nat.le_refl _) _).alloc (by simp) _
  have hbx : Below w.heap.size w (w.alloc (.cells #[.int .i64 kx, .int .i64 nx, .string sx, .slice aK1 M cK1, .slice aI1 M cI1] 34)) := (Below.refl _ _).alloc (Nat.le_refl _) _
  have e0 := (below_cell hbx (show b2 < w.heap.size by omega)).trans g0
  have e1 := (below_cell hbx (show b2 < w.heap.size by omega)).trans g1
  have e2 := (below_cell hbx (show b2 < w.heap.size by omega)).trans g2
  have e3 := (below_cell hbx (show b2 < w.heap.size by omega)).trans g3
  have e4 := (below_cell hbx (show b2 < w.heap.size by omega)).trans g4
  obtain ⟨j0, hj0, hy0, hs0, hbb0⟩ := info_parts infoStr2
  obtain ⟨i0, hi0, hz0, hs1, hy1⟩ := info_parts info_row
  have HOWN : Hid ((((w.alloc (.cells #[.int .i64 kx, .int .i64 nx, .string sx, .slice aK1 M cK1, .slice aI1 M cI1] 34)).alloc (.cells #[.int .i64 ky, .int .i64 ny, .string sy, .slice aK2 M' cK2, .slice aI2 M' cI2] 34)).alloc (.cells #[] 9)).ownsRow (w.heap.size + 1 + 1) 9 1 (.slice (some ⟨w.heap.size + 1 + 1, 0, none⟩) 0 0) 0 []) := by
    have := World.ownsRow_lit (base := WA.heap.size) (e := 9) (size := 1) WA #[] 0 (Nat.le_refl _) (by simp [maxLen]) rfl
    rw [hzA, ← hWA] at this
    simpa [Hid] using this
  have HBE : Hid (Below w.heap.size w (((w.alloc (.cells #[.int .i64 kx, .int .i64 nx, .string sx, .slice aK1 M cK1, .slice aI1 M cI1] 34)).alloc (.cells #[.int .i64 ky, .int .i64 ny, .string sy, .slice aK2 M' cK2, .slice aI2 M' cI2] 34)).alloc (.cells #[] 9))) := (((Below.refl _ _).alloc (Nat.le_refl _) _).alloc (by simp) _).alloc (by simp; omega) _
  have HZE : Hid (Below (w.heap.size + 1 + 1) WA (((w.alloc (.cells #[.int .i64 kx, .int .i64 nx, .string sx, .slice aK1 M cK1, .slice aI1 M cI1] 34)).alloc (.cells #[.int .i64 ky, .int .i64 ny, .string sy, .slice aK2 M' cK2, .slice aI2 M' cI2] 34)).alloc (.cells #[] 9))) := by
    rw [Hid, hWA]; exact (Below.refl _ _).alloc (by omega) _
  have HSRC : Hid (0 < M' → ∃ ad', aK2 = some ad' ∧ ∀ j u, ((rootN vs).keys.map Value.string)[j]? = some u → (((w.alloc (.cells #[.int .i64 kx, .int .i64 nx, .string sx, .slice aK1 M cK1, .slice aI1 M cI1] 34)).alloc (.cells #[.int .i64 ky, .int .i64 ny, .string sy, .slice aK2 M' cK2, .slice aI2 M' cI2] 34)).alloc (.cells #[] 9)).cell? (ad'.add j) = some u) := by
    intro hp
    obtain ⟨_, _, a, cap, ev, hcc⟩ := hin2.keys
    rw [b1'] at hcc ev
    obtain ⟨bk, ok, e, hbk, hck⟩ := hcc hp
    have ea : aK2 = a := by injection ev
    refine ⟨⟨bk, ok, none⟩, by rw [ea, e], fun j u hj => ?_⟩
    have hj' : j < M' := by have := (List.getElem?_eq_some_iff.1 hj).1; rw [List.length_map, b1'] at this; exact this
    rw [show (⟨bk, ok, none⟩ : Addr).add j = ⟨bk, ok + j, none⟩ by simp [Addr.add], below_cell HBE.out (by omega), hck j hj']
    rw [List.getElem?_map] at hj
    simp only [keyAt, List.getD]
    cases hq : (rootN vs).keys[j]? with
    | none => rw [hq] at hj; cases hj
    | some t => rw [hq] at hj; simpa using hj
  have HZA := hideIt hzA
  have HX3 : Hid (WA.cell? ⟨w.heap.size, 3, none⟩ = some (.slice aK1 M cK1)) := by rw [Hid, ← hWA]; simp
  have HY0 : Hid (WA.cell? ⟨w.heap.size + 1, 0, none⟩ = some (.int .i64 ky)) := by rw [Hid, ← hWA]; simp
  have HY1 : Hid (WA.cell? ⟨w.heap.size + 1, 1, none⟩ = some (.int .i64 ny)) := by rw [Hid, ← hWA]; simp
  have HY2 : Hid (WA.cell? ⟨w.heap.size + 1, 2, none⟩ = some (.string sy)) := by rw [Hid, ← hWA]; simp
  have HY3 : Hid (WA.cell? ⟨w.heap.size + 1, 3, none⟩ = some (.slice aK2 M' cK2)) := by rw [Hid, ← hWA]; simp
  have HY4 : Hid (WA.cell? ⟨w.heap.size + 1, 4, none⟩ = some (.slice aI2 M' cI2)) := by rw [Hid, ← hWA]; simp
  have HLK : Hid ((rootN vs).keys.length = M') := b1'
  have HLU : Hid ((rootN us).keys.length = M) := a1
  have HRV : Hid ((rootKids vs).length = M') := hM'
  have HRU : Hid ((rootKids us).length = M) := hM
  have HKID : Hid (∀ (key : ByteArray) (W : World), Below w.heap.size w W → Calls Tryz.prog 59 #[.agg #[.int .i64 ky, .int .i64 ny, .string sy, .slice aK2 M' cK2, .slice aI2 M' cI2], .agg #[.bool true, .string key, .int .i64 0]] W fun e w' => e = .returned (.int .i64 (kidR (stepN (rootN vs) ⟨true, key, 0⟩))) ∧ Below W.heap.size W w') := by
    intro key W hb
    have := l6Kid_any B (rootN vs) (.slice aK2 M' cK2) (.slice aI2 M' cI2) ⟨true, key, 0⟩ W (hin2.below (hb.mono hB)) (Nat.le_trans hB hb.size) (fun _ => ⟨riseB_rise b2', by rw [b1']; omega⟩) (.inl rfl) (by rw [k2, hM']; omega) ⟨by simp, by simp⟩
    rw [hky, hny, hsy] at this
    exact this
  have HKH : Hid (∀ key, decide (kidR (stepN (rootN vs) ⟨true, key, 0⟩) < 0) = !hasK (rootN vs).keys key) := fun key => kid_has hk2
  have HKU : Hid (∀ W, Below w.heap.size w W → 0 < M → ∃ bk ok, aK1 = some ⟨bk, ok, none⟩ ∧ ∀ i, i < M → W.cell? ⟨bk, ok + i, none⟩ = some (.string (keyAt (rootN us).keys i))) := by
    intro W hb hp
    obtain ⟨_, _, a, cap, ev, hcc⟩ := hin1.keys
    rw [a1] at hcc ev
    obtain ⟨bk, ok, e, hbk, hck⟩ := hcc hp
    have ea : aK1 = a := by injection ev
    exact ⟨bk, ok, by rw [ea, e], fun i hi => (below_cell hb (by omega)).trans (hck i hi)⟩
  have HKB : Hid (∀ bk ok, aK1 = some ⟨bk, ok, none⟩ → 0 < M → bk < B) := by
    intro bk ok e hp
    obtain ⟨_, _, a, cap, ev, hcc⟩ := hin1.keys
    rw [a1] at hcc ev
    obtain ⟨bk', ok', e', hbk, _⟩ := hcc hp
    have ea : aK1 = a := by injection ev
    rw [ea, e'] at e
    injection e with e
    injection e with e1
    omega
  have HFU := hideIt hn1.fits
  have HFV := hideIt hn2.fits
  have HSZ : Hid (∀ i, i < (joinK us vs).length → (keyAt (joinK us vs) i).size ≤ 140737488355328) :=
    wkK_size (hn1.fits (us.length - 1) (by omega)).keysS (hn2.fits (vs.length - 1) (by omega)).keysS
  have HF1 := hideIt (PL_few hn1.fits)
  have HF2 := hideIt (PL_few hn2.fits)
  have ep1 : partsN us = (rootKids us).length := by unfold partsN; rw [if_pos ok1]
  have ep2 : partsN vs = (rootKids vs).length := by unfold partsN; rw [if_pos ok2]
  rw [ep1] at HF1
  rw [ep2] at HF2
  clear ep1 ep2
  clear hbx g0 g1 g2 g3 g4 hN1 hN2 hWA hin1 hin2
  go_enter Tryz.func26, Tryz.ntmps26
  go_wp2_with (at_builtin; refine wpList_append_src rfl _ _ 31 rfl (w.heap.size + 1 + 1) 9 j0 (.string ByteArray.empty) 1 16 Tryz.underlying31 hj0 hy0 hs0 hbb0 rfl (by decide) _ 0 [] rfl HOWN.out aK2 M' cK2 ((rootN vs).keys.map .string) rfl (by rw [List.length_map, HLK.out]; omega) HSRC.out ?c2 ?c3 ?c4 ?c5 ?_)
  case c2 => intro u hu; obtain ⟨q, _, rfl⟩ := List.mem_map.1 hu; rfl
  case c3 => unfold maxLen; omega
  case c4 => omega
  case c5 => simp
  intro kv0 w1 hk1' hg1 hat1
  (try simp only [Nat.zero_add, List.nil_append] at hk1')
  have HZ1 : Hid (Below (w.heap.size + 1 + 1) WA w1) := HZE.out.grown hg1 (by simp) (fun x hx => by simp [Value.ownBlock] at hx; omega)
  have HB1 : Hid (Below w.heap.size w w1) := HBA.out.trans (HZ1.out.mono (by omega))
  have HK1 := hideIt hk1'
  obtain ⟨ak0, ck0, ek0⟩ := own_slice hk1'
  subst ek0
  clear hk1' hg1 hat1
  go_wp2_with fail
  refine (HPT2.out _ HB1.out).mono ?_
  rintro e w2 ⟨r2, rs2, K2, I2, lo2, rfl, hr2, hb2'⟩
  have HBW2 := hideIt hb2'
  have HB2 := hideIt (HB1.out.trans (hb2'.mono HB1.out.size))
  have HR2 := hideIt hr2
  obtain ⟨aG, cG, eG⟩ := own_slice hr2.row
  subst eG
  clear hr2 hb2'
  go_wp2_with fail
  refine (HPT1.out _ HB2.out).mono ?_
  rintro e w3 ⟨r1, rs1, K1, I1, lo1, rfl, hr1, hb3'⟩
  have HBW3 := hideIt hb3'
  have HB3 := hideIt (HB2.out.trans (hb3'.mono HB2.out.size))
  have HR1 := hideIt hr1
  obtain ⟨aM, cM, eM⟩ := own_slice hr1.row
  subst eM
  clear hr1 hb3'
  have y1 := HZ1.out.size
  have y2 := HBW2.out.size
  have y3 := HBW3.out.size
  have HZ3 := hideIt ((HZ1.out.trans (HBW2.out.mono (by omega))).trans (HBW3.out.mono (by omega)))
  have HR2' := hideIt (HR2.out.below HBW3.out)
  have HK3 := hideIt (own_belowJ (own_belowJ HK1.out HBW2.out) HBW3.out)
  have HJ0 : Hid (Jn (w.heap.size + 1 + 1) w3 (.slice ak0 M' ck0) (.slice aG M' cG) (jK us vs 0) (jR us vs rs1 rs2 0) (.slice ak0 M' ck0) (.slice aG M' cG) w3) := by
    refine ⟨?_, ?_, Only.refl _ _, fun x hx => .inl (.inl hx), fun x hx => .inl (.inr hx)⟩
    · rw [jK_zero, HLK.out]; exact HK3.out
    · rw [jR_zero, HRV.out, List.length_map, List.length_range]; exact own_mono HR2'.out.row (by omega)
  have HLO : Hid (∀ c, TwoJ (.slice ak0 M' ck0) (.slice aG M' cG) c → w.heap.size + 1 + 1 ≤ c ∧ c < w2.heap.size) := by
    rintro c (hc | hc)
    · have := (HK1.out.lt c hc); omega
    · have := (HR2.out.row.lt c hc); omega
  have HFAR1 : Hid (∀ i, i < M → ∀ x, InNest (rs1 i) (PL us i).length (K1 i) (I1 i) x → ¬ TwoJ (.slice ak0 M' ck0) (.slice aG M' cG) x) := by
    intro i hi x hx ht
    have h1 := ((HR1.out.nest i hi).inn hx).1
    have h2 := HR1.out.low i (by omega)
    have h3 := (HLO.out x ht).2
    omega
  have HFAR2 : Hid (∀ i, i < M' → ∀ x, InNest (rs2 i) (PL vs i).length (K2 i) (I2 i) x → ¬ TwoJ (.slice ak0 M' ck0) (.slice aG M' cG) x) := by
    rintro i hi x hx (ht | ht)
    · have h1 := ((HR2.out.nest i hi).inn hx).1
      have h2 := HR2.out.low i (by omega)
      have h3 := (HK1.out.lt x ht).2
      omega
    · exact (HR2.out.nest i hi).far HR2.out.row hx ht
  have HMS : Hid (0 < M → ∃ ad, aM = some ⟨ad, 0, none⟩ ∧ w2.heap.size ≤ ad ∧ ad < w3.heap.size ∧ ∀ j, j < M → w3.cell? ⟨ad, j, none⟩ = some (rs1 j)) := by
    intro hp
    obtain ⟨g, cap, e, hg, hlt⟩ := HR1.out.row.form hp
    injection e with e1 e2 e3
    refine ⟨g, e1, hg, hlt, fun j hj => ?_⟩
    have := HR1.out.row.cells (g := g) (by rw [e1]; rfl) j (rs1 j) (by simp [hj])
    rw [add_off] at this
    simpa using this
  go_wp2_with fail
  go_loopw [8, 9, 11] (fun kv lv i wr => ∃ k : Nat, k ≤ M ∧ i = .int .i64 k ∧ Jn (w.heap.size + 1 + 1) w3 (.slice ak0 M' ck0) (.slice aG M' cG) (jK us vs k) (jR us vs rs1 rs2 k) kv lv wr ∧ Below (w.heap.size + 1 + 1) WA wr) (fun _ _ i _ => M - (intOf i).toNat)
  case atStart => exact ⟨0, Nat.zero_le _, rfl, HJ0.out, HZ3.out⟩
  case round =>
    obtain ⟨k, hk, rfl, hj, hz⟩ := hrel
    have HJ := hideIt hj
    have HZ := hideIt hz
    obtain ⟨ak, ck, ek⟩ := own_slice hj.krow
    obtain ⟨al, cl, el⟩ := own_slice hj.lrow
    obtain ⟨p, hp⟩ : ∃ p, (jK us vs k).length = p := ⟨_, rfl⟩
    obtain ⟨q, hq⟩ : ∃ q, (jR us vs rs1 rs2 k).length = q := ⟨_, rfl⟩
    rw [hp] at ek
    rw [hq] at el
    subst ek el
    have HP := hideIt hp
    have HQ := hideIt hq
    have hml := more_len us vs k
    have hp2 : p ≤ 160 := by rw [← hp, jK]; rw [List.length_append, List.length_map, HLK.out]; omega
    have hq2 : q ≤ 160 := by rw [← hq, jR]; rw [List.length_append, List.length_map, List.length_map, List.length_range, HRV.out]; omega
    have x3 := (below_cell HZ.out (show w.heap.size < w.heap.size + 1 + 1 by omega)).trans HX3.out
    have HBw := hideIt (HBA.out.trans (hz.mono (by omega)))
    have zs := hz.size
    clear hj hz hp hq hml
    by_cases hlt : k < M
    · obtain ⟨bk, ok, rfl, hkc⟩ := HKU.out wr HBw.out (by omega)
      obtain ⟨key, hkey⟩ : ∃ key, keyAt (rootN us).keys k = key := ⟨_, rfl⟩
      have ckey := hkc k hlt
      rw [hkey] at ckey
      have HKEY := hideIt hkey
      have hbk : bk < w.heap.size := by have := HKB.out bk ok rfl (by omega); omega
      clear hkc hkey
      have y0' := (below_cell HZ.out (show w.heap.size + 1 < w.heap.size + 1 + 1 by omega)).trans HY0.out
      have y1' := (below_cell HZ.out (show w.heap.size + 1 < w.heap.size + 1 + 1 by omega)).trans HY1.out
      have y2' := (below_cell HZ.out (show w.heap.size + 1 < w.heap.size + 1 + 1 by omega)).trans HY2.out
      have y3' := (below_cell HZ.out (show w.heap.size + 1 < w.heap.size + 1 + 1 by omega)).trans HY3.out
      have y4' := (below_cell HZ.out (show w.heap.size + 1 < w.heap.size + 1 + 1 by omega)).trans HY4.out
      have CK := HKID.out key wr.drew (HBw.out.drew)
      obtain ⟨kr, hkr⟩ : ∃ kr, kidR (stepN (rootN vs) ⟨true, key, 0⟩) = kr := ⟨_, rfl⟩
      have hdk := HKH.out key
      rw [hkr] at CK hdk
      have HCK := hideIt CK
      clear hkr CK
      have hlt' : (k : Int) < (M : Int) := by omega
      have hk0 : (0 : Int) ≤ (k : Int) := by omega
      go_wp2_with fail
      go_region_law (refine step_call2 (by rfl) 59 _ _ _ _ (by rfl) (.agg #[.int .i64 ky, .int .i64 ny, .string sy, .slice aK2 M' cK2, .slice aI2 M' cI2]) (.agg #[.bool true, .string key, .int .i64 0]) (by rfl) (by rfl) (call_kid _ _) HCK.out ?_; rintro e w4 ⟨rfl, hb4⟩; refine ⟨_, rfl, ?_⟩)
      all_goals (
        have HBD := hideIt ((Below.refl wr.heap.size wr).drew.trans hb4)
        have HJ4 := hideIt (HJ.out.below HBD.out)
        have HZ4 := hideIt (HZ.out.trans (HBD.out.mono (Nat.le_trans (Nat.le_of_eq HZA.out.symm) zs)))
        have z4 := HBD.out.size
        have x4 := (below_cell HBD.out (show w.heap.size < wr.heap.size by omega)).trans x3
        have c4 := (below_cell HBD.out (show bk < wr.heap.size by omega)).trans ckey
        have HKR : Hid (w4.ownsRow (w.heap.size + 1 + 1) 9 1 (.slice ak p ck) p ((jK us vs k).map .string)) := by
          have := HJ4.out.krow
          rw [HP.out] at this
          exact this
        clear hb4 x3 ckey y0' y1' y2' y3' y4'
        cases hh : hasK (rootN vs).keys key
        · have hkr0 : kr < 0 := by rw [hh] at hdk; simpa using hdk
          have HNO := hideIt (show hasK (rootN vs).keys (keyAt (rootN us).keys k) = false by rw [HKEY.out]; exact hh)
          clear hh hdk
          go_wp2_with (at_builtin; refine wpList_append_own_at _ rfl _ _ 31 rfl (w.heap.size + 1 + 1) 9 j0 (.string ByteArray.empty) 1 16 Tryz.underlying31 hj0 hy0 hs0 hbb0 rfl (by decide) _ _ _ rfl (HKR.out.alloc _) ⟨w4.heap.size, 0, none⟩ 1 1 [.string key] rfl rfl ?c1 ?c2 ?c3 ?c4 ?c5 ?_)
          case c1 => exact cell_one_new _ _ _
          case c2 => intro u hu; simp at hu; subst hu; rfl
          case c3 => unfold maxLen; omega
          case c4 => omega
          case c5 => simp; omega
          intro kv5 w5 hown hgrow _ hat
          have HJ5 := hideIt (HJ4.out.pushK (s := key) (by rw [HP.out]; exact hown) hgrow hat)
          have HZ5 : Hid (Below (w.heap.size + 1 + 1) WA w5) := (HZ4.out.alloc (by omega) _).grown hgrow (by simp; omega) (fun x hx => (HKR.out.lt x hx).1)
          obtain ⟨ak5, ck5, ek5⟩ := own_slice hown
          subst ek5
          obtain ⟨ad, hadm, ha2, ha3, hac⟩ := HMS.out (by omega)
          subst hadm
          obtain ⟨ar, cr, er⟩ := own_slice (HR1.out.nest k hlt).row
          obtain ⟨Lk, hLk⟩ : ∃ Lk, (PL us k).length = Lk := ⟨_, rfl⟩
          rw [hLk] at er
          have m5 := (HJ5.out.only.cell ha3 (fun ht => by have := (HLO.out ad ht).2; omega)).trans (hac k hlt)
          rw [er] at m5
          have HLR : Hid (w5.ownsRow (w.heap.size + 1 + 1) 24 1 (.slice al q cl) q (jR us vs rs1 rs2 k)) := by
            have := HJ5.out.lrow
            rw [HQ.out] at this
            exact this
          have HER := hideIt er
          have z5 := HZ5.out.size
          clear hown hgrow hat hac er hLk
          go_wp2_with (at_builtin; refine wpList_append_own_at _ rfl _ _ 36 rfl (w.heap.size + 1 + 1) 24 i0 (.slice none 0 0) 1 24 Tryz.underlying36 hi0 hz0 hs1 hy1 rfl (by decide) _ _ _ rfl (HLR.out.alloc _) ⟨w5.heap.size, 0, none⟩ 1 1 [.slice ar Lk cr] rfl rfl ?c1 ?c2 ?c3 ?c4 ?c5 ?_)
          case c1 => exact cell_one_new _ _ _
          case c2 => intro u hu; simp at hu; subst hu; rfl
          case c3 => unfold maxLen; omega
          case c4 => omega
          case c5 => simp; omega
          intro lv7 w7 hown hgrow _ hat
          have HJ7 := hideIt (HJ5.out.pushL (r := .slice ar Lk cr) (by rw [HQ.out]; exact hown) hgrow hat)
          have HZ7 : Hid (Below (w.heap.size + 1 + 1) WA w7) := (HZ5.out.alloc (by omega) _).grown hgrow (by simp; omega) (fun x hx => (HLR.out.lt x hx).1)
          clear hown hgrow hat
          go_wp2_with fail
          refine ⟨⟨k + 1, by omega, by go_num, ?_, HZ7.out⟩, by simp [intOf]; omega⟩
          rw [jK_yes HNO.out, jR_yes HNO.out, HKEY.out, HER.out]
          exact HJ7.out
        · have hkr0 : ¬ kr < 0 := by rw [hh] at hdk; simpa using hdk
          have HYE := hideIt (show hasK (rootN vs).keys (keyAt (rootN us).keys k) = true by rw [HKEY.out]; exact hh)
          clear hh hdk
          go_wp2_with fail
          refine ⟨⟨k + 1, by omega, by go_num, ?_, HZ4.out⟩, by simp [intOf]; omega⟩
          rw [jK_no HYE.out, jR_no HYE.out]
          exact HJ4.out)
    · obtain rfl : k = M := by omega
      have HKA : Hid (jK us vs k = joinK us vs) := by rw [Hid, ← HLU.out]; exact jK_all us vs
      have HNL : Hid ((joinK us vs).length = joinN us vs) := by
        rw [Hid, joinK, joinN, List.length_append, List.length_map, HLK.out, HRV.out]
      have HRL : Hid ((jR us vs rs1 rs2 k).length = joinN us vs) := by
        rw [Hid, jR_len, joinN, ← HLU.out]
      have hpN : p = joinN us vs := by rw [← HP.out, HKA.out, HNL.out]
      have hqN : q = joinN us vs := by rw [← HQ.out, HRL.out]
      have HSHAPE : Hid (∀ j, j < joinN us vs → (jR us vs rs1 rs2 k).getD j undef = if j < M' then rs2 j else rs1 ((moreIx us vs (rootN us).keys.length).getD (j - M') 0)) := by
        intro j hj
        have := jR_get (us := us) (vs := vs) (rs1 := rs1) (rs2 := rs2) (i := k) (j := j) (by rw [← jR_len us vs rs1 rs2 k, HRL.out]; exact hj)
        rw [HRV.out] at this
        rw [this, HLU.out]
      have HML : Hid (∀ j, j < joinN us vs → ¬ j < M' → (moreIx us vs (rootN us).keys.length).getD (j - M') 0 < k) := by
        intro j hj hn
        have := more_lt (vs := vs) ok1 hk1 (j := j - M') (by rw [joinN, HRV.out] at hj; omega)
        rw [HRU.out] at this
        exact this
      have HND : Hid (∀ j, j < joinN us vs → NodesAt wr.heap.size wr ((jR us vs rs1 rs2 k).getD j undef) (joinL us vs j)) := by
        intro j hj
        rw [HSHAPE.out j hj, joinL, HRV.out]
        by_cases hlt2 : j < M'
        · rw [if_pos hlt2, if_pos hlt2]
          have hf := HF2.out.2 j (by rw [HRV.out]; exact hlt2)
          exact ((HR2'.out.nest j hlt2).only HJ.out.only (HFAR2.out j hlt2)).nodes (Nat.le_trans hf.1.1 (by omega)) hf.2
        · rw [if_neg hlt2, if_neg hlt2]
          have hl := HML.out j hj hlt2
          have hf := HF1.out.2 _ (by rw [HRU.out]; exact hl)
          exact ((HR1.out.nest _ hl).only HJ.out.only (HFAR1.out _ hl)).nodes (Nat.le_trans hf.1.1 (by omega)) hf.2
      have HCS := hideIt (jn_cells HJ.out.lrow (fun j hj => by
        rw [HRL.out] at hj
        obtain ⟨_, a, c, e, _⟩ := HND.out j hj
        exact ⟨_, _, _, e⟩))
      rw [HRL.out] at HCS
      have HKS := hideIt (own_strs (l := joinK us vs) (by have := HJ.out.krow; rw [HKA.out] at this; exact this) (by rw [HNL.out]; omega) HSZ.out)
      have hN160 := join_few ok1 ok2 hk1 hk2
      have HOKJ := hideIt (join_okB ok1 ok2 hk1)
      obtain ⟨ns, ps, hso, hjn⟩ := join_sorted ok1 ok2 hk1 hk2
      have hln := sortIn_len hso
      rw [HNL.out] at hln
      have HNK : Hid (∀ i, i < ns.length → (keyAt ns i).size ≤ 140737488355328) := fun i hi => by
        have e2 : keyAt ns i = keyAt (joinK us vs) (ps.getD i 0) := by
          have hmp := sortIn_map hso
          rw [keyAt_get hi, List.getD_eq_getElem?_getD, List.getElem?_eq_getElem (show i < ps.length by omega)]
          subst hmp
          simp
        rw [e2]
        refine HSZ.out _ (sortIn_mem hso _ ?_)
        rw [List.getD_eq_getElem?_getD, List.getElem?_eq_getElem (by omega)]
        exact List.getElem_mem _
      have HJB := hideIt (join_bounds ok1 ok2 hk1 hk2 HFU.out HFV.out hso HNK.out)
      have HSO := hideIt hso
      have HPM : Hid (∀ x ∈ ps, x < joinN us vs) := fun x hx => by have := sortIn_mem hso x hx; rw [HNL.out] at this; exact this
      have HJN := hideIt hjn
      have HLN := hideIt hln
      obtain ⟨JN, hJN⟩ : ∃ JN, joinN us vs = JN := ⟨_, rfl⟩
      rw [hJN] at hpN hqN HNL HND HCS hN160 HOKJ HPM HJN HJB HLN
      subst hpN hqN
      clear hso hjn hln hJN
      go_wp2_with fail
      refine (l1Sorted_any wr.heap.size _ _ (joinK us vs) _ wr (by have := HKS.out; rw [HNL.out] at *; exact this) (by rw [HNL.out]; exact HCS.out) (Nat.le_refl _) (by rw [HNL.out]; omega)).mono ?_
      rintro e w8 ⟨hs8, hb8⟩
      rw [HSO.out] at hs8
      obtain ⟨nv, lv, rfl, hnv, hlv⟩ := hs8
      have z8 := hb8.size
      have HB8 := hideIt (HBw.out.trans (hb8.mono HBw.out.size))
      have HND8 : Hid (∀ i, i < q → NodesAt wr.heap.size w8 ((jR us vs rs1 rs2 k).getD i undef) (joinL us vs i)) := fun i hi => (HND.out i hi).below hb8
      have HST := hideIt (own_strs hnv (by rw [HLN.out.1]; omega) HNK.out)
      have HRW := hideIt (rows_perm hlv HLN.out.2 (by omega) z8 HPM.out HND8.out)
      have HPJ : Hid (∀ i, i < q → ps.getD i 0 < q) := HJB.out.2.1
      have HOK2 : Hid (∀ i, i < q → okB ((fun j => joinL us vs (ps.getD j 0)) i) = true) := fun i hi => HOKJ.out _ (HPJ.out i hi)
      have HLE := hideIt (catNs_le HOK2.out q (Nat.le_refl _))
      obtain ⟨anv, cnv, env⟩ := own_slice hnv
      obtain ⟨alv, clv, elv⟩ := own_slice hlv
      rw [HLN.out.1] at env
      rw [HLN.out.2] at elv
      subst env elv
      have zw := HB8.out.size
      clear hnv hlv hb8
      go_wp2_with fail
      refine (l1Make_any w8.heap.size 6 _ _ ns q (fun j => joinL us vs (ps.getD j 0)) w8 (by have := HST.out; rw [HLN.out.1] at *; exact this) HRW.out (Nat.le_refl _) (by omega) (by rw [HLN.out.1]; omega) (by have := HLE.out; omega) (near_of HOK2.out)).mono ?_
      rintro e w9 ⟨r, KV, IV, rfl, hn9, hb9⟩
      rw [← HJN.out] at hn9
      have HB9 := hideIt (HB8.out.trans (hb9.mono zw))
      have HN9 := hideIt (hn9.low zw)
      have HND9 := hideIt (hn9.nodes (Nat.le_trans HJB.out.2.2.1 (by omega)) (fun i hi => (HJB.out.2.2.2 i hi).1))
      obtain ⟨ar, cr, er⟩ := own_slice hn9.row
      obtain ⟨NS, hNS⟩ : ∃ NS, joinNs us vs = NS := ⟨_, rfl⟩
      rw [hNS] at HM HN9 HND9 er
      obtain ⟨NN, hNN⟩ : ∃ NN, NS.length = NN := ⟨_, rfl⟩
      rw [hNN] at er
      subst er
      clear hn9 hb9 hNN hNS HJN HJB HRW HLE
      cases ok : okB NS
      · go_wp2_with fail
        refine (l8Right_no w9.heap.size _ _ w9 HND9.out (Nat.le_refl _) ok).mono ?_
        rintro e w10 ⟨rfl, hb10⟩
        have HB10 := hideIt (HB9.out.trans (hb10.mono HB9.out.size))
        clear hb10
        go_wp2_with fail
        go_ret2
        exact ⟨_, w.heap.size, fun _ => undef, fun _ => undef, by rw [HM.out.1, ok]; rfl, Nat.le_refl _, by rw [HM.out.2, ok]; exact Nest.nil _ _ _ _, HB10.out⟩
      · go_wp2_with fail
        refine (l8Right_yes w9.heap.size _ _ w9 HND9.out (Nat.le_refl _) ok).mono ?_
        rintro e w10 ⟨rfl, hb10⟩
        have HB10 := hideIt (HB9.out.trans (hb10.mono HB9.out.size))
        have HN10 := hideIt (HN9.out.below hb10)
        clear hb10
        go_wp2_with fail
        go_ret2
        exact ⟨_, w.heap.size, KV, IV, by rw [HM.out.1, ok]; rfl, Nat.le_refl _, by rw [HM.out.2, ok]; exact HN10.out, HB10.out⟩
end Go.Proofs.YtfijafbpdlakaaaGreatDoor
