/-
  The law FnSums: the call returns true and turns nothing that was there.
-/
import Derived.Test.YtfijafbpdlakaaaGreatDoorSParts
import Derived.Test.YtfijafbpdlakaaaGreatDoorMarkO
import Derived.Test.YtfijafbpdlakaaaGreatDoorLawPlus
import Derived.Test.YtfijafbpdlakaaaGreatDoorSumP
import Derived.Test.YtfijafbpdlakaaaGreatDoorSpc2
namespace Go.Proofs.YtfijafbpdlakaaaGreatDoor
open Go.RowKit
set_option linter.unusedSimpArgs false
set_option linter.unusedVariables false

theorem last_kind {B : Nat} {w : World} {a : Option Addr} {M c : Nat} {us : List VN} (h : NodesAt B w (.slice a M c) us) (hM : us.length = M) (hp : 0 < M) : ∃ b o, a = some ⟨b, o, none⟩ ∧ w.cell? ⟨b, o + (M - 1) * 5, none⟩ = some (.int .i64 (rootN us).kind) := by
  obtain ⟨_, a', c', e, hc⟩ := h
  injection e with e1 e2 e3
  subst e1
  obtain ⟨b, o, rfl, _, hc'⟩ := hc (by omega)
  obtain ⟨_, _, hd⟩ := hc' (M - 1) (by omega)
  refine ⟨b, o, rfl, ?_⟩
  have := hd.c0
  rw [← hM] at this ⊢
  exact this

theorem src_row {w : World} {base m c : Nat} {a : Option Addr} {rs : Nat → Value} (h : w.ownsRow base 24 1 (.slice a m c) m ((List.range m).map rs)) : 0 < m → ∃ ad, a = some ad ∧ ∀ (j : Nat) u, ((List.range m).map rs)[j]? = some u → w.cell? (ad.add j) = some u := fun hp => by
  obtain ⟨g, cap9, e9, _, hlt⟩ := h.form hp
  injection e9 with e9 _ _
  refine ⟨_, e9, fun j u hj => ?_⟩
  have hjm : j < m := by have := (List.getElem?_eq_some_iff.1 hj).1; simpa using this
  have ea : (⟨g, 0, none⟩ : Addr).add j = ⟨g, j, none⟩ := by unfold Addr.add; split <;> simp_all
  subst e9
  rw [ea, h.cellAt j (by omega)]
  exact hj
theorem rows_one9 {w : World} {m : Nat} {L : Nat → List VN} {rs : Nat → Value} {KV IV : Nat → Nat → Value} {lo : Nat → Nat} (h : ∀ i, i < m → Nest (lo i) w (rs i) (L i) (KV i) (IV i)) : ∀ u ∈ (List.range m).map rs, u.oneCell' = true := by
  intro u hu
  obtain ⟨i, hi, rfl⟩ := List.mem_map.1 hu
  obtain ⟨_, _, e9⟩ := own_slice (h i (List.mem_range.1 hi)).row
  rw [e9]; rfl
theorem nest_rows_kept {w w' : World} {base m n : Nat} {r : Value} {xs : List Value} {L : Nat → List VN} {rs : Nat → Value} {KV IV : Nat → Nat → Value} {lo : Nat → Nat} (h : ∀ i, i < m → Nest (lo i) w (rs i) (L i) (KV i) (IV i)) (hr : w.ownsRow base 24 1 r n xs) (hg : w.grownBy w' r.ownBlock) : ∀ i, i < m → Nest (lo i) w' (rs i) (L i) (KV i) (IV i) := fun i hi =>
  (h i hi).only (P := fun x => r.ownBlock = some x) ⟨hg.size, fun c hc hp => hg.block c hc (fun e => hp e.symm)⟩ (fun x hx => (h i hi).far hr hx)
theorem rows_both {w : World} {base ma mb : Nat} {v : Value} {ra rb : Nat → Value} {La Lb : Nat → List VN} (h : w.ownsRow base 24 1 v (ma + mb) ((List.range ma).map ra ++ (List.range mb).map rb)) (h1 : ∀ i, i < ma → NodesAt w.heap.size w (ra i) (La i)) (h2 : ∀ i, i < mb → NodesAt w.heap.size w (rb i) (Lb i)) (hm : ma + mb ≤ 1048576) :
    RowsAt w.heap.size w v (ma + mb) (fun i => if i < ma then La i else Lb (i - ma)) := by
  obtain ⟨a, c, e⟩ := own_slice h
  subst e
  refine ⟨hm, a, c, rfl, fun hp => ?_⟩
  obtain ⟨g, cap, e, _, hlt⟩ := h.form hp
  injection e with e _ _
  subst e
  refine ⟨g, rfl, hlt, fun i hi => ?_⟩
  by_cases hi2 : i < ma
  · refine ⟨ra i, ?_, by simp only [hi2, if_true]; exact h1 i hi2⟩
    rw [h.cellAt i (by omega), List.getElem?_append_left (by simp; omega), List.getElem?_map, List.getElem?_range hi2]
    rfl
  · refine ⟨rb (i - ma), ?_, by simp only [hi2, if_false]; exact h2 _ (by omega)⟩
    rw [h.cellAt i (by omega), List.getElem?_append_right (by simp; omega), List.length_map, List.length_range, List.getElem?_map, List.getElem?_range (by omega)]
    rfl
theorem RowsAt.wideS {B B' : Nat} {w : World} {v : Value} {m : Nat} {L : Nat → List VN} (h : RowsAt B w v m L) (hb : B ≤ B') : RowsAt B' w v m L := by
  obtain ⟨h1, a, c, e, h2⟩ := h
  refine ⟨h1, a, c, e, fun hp => ?_⟩
  obtain ⟨b, ea, hbB, h3⟩ := h2 hp
  refine ⟨b, ea, by omega, fun i hi => ?_⟩
  obtain ⟨r, e2, hn⟩ := h3 i hi
  exact ⟨r, e2, hn.wide hb⟩
theorem null_fits : ∀ i, i < nullV.length → Fits (nodeAt nullV i) := fun i hi => by
  obtain rfl : i = 0 := by simp [nullV, leafN] at hi; omega
  refine ⟨by simp [nullV, leafN, nodeAt], fun i hi => absurd hi (by simp [nullV, leafN, nodeAt]), by simp [nullV, leafN, nodeAt], fun i hi => absurd hi (by simp [nullV, leafN, nodeAt]), by simp [nullV, leafN, nodeAt], by simp [nullV, leafN, nodeAt], by simp [nullV, leafN, nodeAt], by simp [nullV, leafN, nodeAt], by simp [nullV, leafN, nodeAt]⟩

set_option maxRecDepth 100000 in
set_option maxHeartbeats 12800000 in
theorem lawFnSums_walk (v : Value) (n : Nat) (w : World) (h : RawCode w v n) (hE : Errs2 w) :
    Calls Tryz.prog 3 #[v] w fun e w' => e = .returned (.bool true) ∧ Below w.heap.size w w' := by
  obtain ⟨hn, a, cap, rfl, hc⟩ := h
  have HCL : Hid (n ≤ 1048576 → CodeAt w.heap.size w (.slice a n cap) n) := fun h => ⟨h, a, cap, rfl, hc⟩
  have HE := hideIt hE
  clear hc hE
  go_enter Tryz.func3, Tryz.ntmps3
  go_wp2_with fail
  refine (big_any a n cap w hn).mono ?_
  rintro e w1 ⟨rfl, rfl⟩
  by_cases hbig : 1048576 < n
  · go_wp2_with fail
    go_ret
    exact ⟨rfl, Below.refl _ _⟩
  have HC := hideIt (HCL.out (by omega))
  clear HCL
  go_wp2_with fail
  refine (drawPlus_any w1.heap.size _ n w1 HC.out (Nat.le_refl _)).mono ?_
  rintro e w2 ⟨r, us, KV, IV, r2, vs, KV2, IV2, rfl, hf1, hf2, hn1, hn2, hb2⟩
  have HFU := hideIt (hf1.few (by omega)).2
  have HFV := hideIt (hf2.few (by omega)).2
  have HA := hideIt (hn1.nodes (by have := hf1.2.1; omega) HFU.out)
  have HV := hideIt (hn2.nodes (by have := hf2.2.1; omega) HFV.out)
  have HPF := hideIt (plus_few HFU.out HFV.out)
  have HMF := hideIt (min_few (vs := vs) HFU.out)
  have HB := hideIt hb2
  have HE2 := hideIt (HE.out.below hb2)
  obtain ⟨aA, cA, eA⟩ := own_slice hn1.row
  obtain ⟨aB, cB, eB⟩ := own_slice hn2.row
  obtain ⟨MA, hMA⟩ : ∃ M, us.length = M := ⟨_, rfl⟩
  obtain ⟨MB, hMB⟩ : ∃ M, vs.length = M := ⟨_, rfl⟩
  have hMAp : 0 < MA := by have := hf1.1; omega
  have hMBp : 0 < MB := by have := hf2.1; omega
  have hMAc : MA ≤ 40 := by have := hf1.2.1; omega
  have hMBc : MB ≤ 40 := by have := hf2.2.1; omega
  have HMA := hideIt hMA
  have HMB := hideIt hMB
  rw [hMA] at eA
  rw [hMB] at eB
  subst eA eB
  obtain ⟨pc, hpc⟩ : ∃ pc, plusC us vs = pc := ⟨_, rfl⟩
  obtain ⟨mc, hmc⟩ : ∃ mc, minC us vs = mc := ⟨_, rfl⟩
  have HPC := hideIt hpc
  have HMC := hideIt hmc
  clear hf1 hf2 hn1 hn2 hb2 hMA hMB hpc hmc
  go_wp2_with fail
  refine (implPlus_any w2.heap.size _ _ (us) (vs) w2 HA.out HV.out (Nat.le_refl _) HE2.out).mono ?_
  rintro e w3 ⟨rx, basex, KX, IX, rfl, _, _, hnx, hbx⟩
  have HB := hideIt (HB.out.trans (hbx.mono HB.out.size))
  have HE2 := hideIt (HE2.out.below hbx)
  have HA := hideIt ((HA.out.below hbx).wide hbx.size)
  have HV := hideIt ((HV.out.below hbx).wide hbx.size)
  have HS := hideIt (hnx.nodes (by have := HPF.out.1.1; omega) HPF.out.2)
  obtain ⟨aHS, cHS, ex⟩ := own_slice hnx.row
  obtain ⟨MHS, hMx⟩ : ∃ M, (plusNs us vs).length = M := ⟨_, rfl⟩
  rw [hMx] at ex
  subst ex
  rw [HPC.out]
  clear hnx hbx hMx
  go_wp2_with fail
  refine (specPlus_any w3.heap.size _ _ (us) (vs) w3 HA.out HV.out (Nat.le_refl _)).mono ?_
  rintro e w4 ⟨rx, basex, KX, IX, rfl, _, hnx, hbx⟩
  have HB := hideIt (HB.out.trans (hbx.mono HB.out.size))
  have HE2 := hideIt (HE2.out.below hbx)
  have HA := hideIt ((HA.out.below hbx).wide hbx.size)
  have HV := hideIt ((HV.out.below hbx).wide hbx.size)
  have HS := hideIt ((HS.out.below hbx).wide hbx.size)
  have HS2 := hideIt (hnx.nodes (by have := HPF.out.1.1; omega) HPF.out.2)
  obtain ⟨aHS2, cHS2, ex⟩ := own_slice hnx.row
  obtain ⟨MHS2, hMx⟩ : ∃ M, (plusNs us vs).length = M := ⟨_, rfl⟩
  rw [hMx] at ex
  subst ex
  rw [HPC.out]
  clear hnx hbx hMx
  go_wp2_with fail
  refine (implMinus_any w4.heap.size _ _ (us) (vs) w4 HA.out HV.out (Nat.le_refl _) HE2.out).mono ?_
  rintro e w5 ⟨rx, basex, KX, IX, rfl, _, _, hnx, hbx⟩
  have HB := hideIt (HB.out.trans (hbx.mono HB.out.size))
  have HE2 := hideIt (HE2.out.below hbx)
  have HA := hideIt ((HA.out.below hbx).wide hbx.size)
  have HV := hideIt ((HV.out.below hbx).wide hbx.size)
  have HS := hideIt ((HS.out.below hbx).wide hbx.size)
  have HS2 := hideIt ((HS2.out.below hbx).wide hbx.size)
  have HD := hideIt (hnx.nodes (by have := HMF.out.1.1; omega) HMF.out.2)
  obtain ⟨aHD, cHD, ex⟩ := own_slice hnx.row
  obtain ⟨MHD, hMx⟩ : ∃ M, (minNs us vs).length = M := ⟨_, rfl⟩
  rw [hMx] at ex
  subst ex
  rw [HMC.out]
  clear hnx hbx hMx
  go_wp2_with fail
  refine (specMinus_any w5.heap.size _ _ (us) (vs) w5 HA.out HV.out (Nat.le_refl _)).mono ?_
  rintro e w6 ⟨rx, basex, KX, IX, rfl, _, hnx, hbx⟩
  have HB := hideIt (HB.out.trans (hbx.mono HB.out.size))
  have HE2 := hideIt (HE2.out.below hbx)
  have HA := hideIt ((HA.out.below hbx).wide hbx.size)
  have HV := hideIt ((HV.out.below hbx).wide hbx.size)
  have HS := hideIt ((HS.out.below hbx).wide hbx.size)
  have HS2 := hideIt ((HS2.out.below hbx).wide hbx.size)
  have HD := hideIt ((HD.out.below hbx).wide hbx.size)
  have HD2 := hideIt (hnx.nodes (by have := HMF.out.1.1; omega) HMF.out.2)
  obtain ⟨aHD2, cHD2, ex⟩ := own_slice hnx.row
  obtain ⟨MHD2, hMx⟩ : ∃ M, (minNs us vs).length = M := ⟨_, rfl⟩
  rw [hMx] at ex
  subst ex
  rw [HMC.out]
  clear hnx hbx hMx
  have q1 : (pc != pc) = false := by simp
  have q2 : (mc != mc) = false := by simp
  go_wp2_with fail
  refine (same_any w6.heap.size _ _ (plusNs us vs) (plusNs us vs) w6 HS.out HS2.out (Nat.le_refl _)).mono ?_
  rintro e w7 ⟨⟨bx, rfl, hbx'⟩, hbx⟩
  obtain rfl : bx = true := hbx'.2 rfl
  have HB := hideIt (HB.out.trans (hbx.mono HB.out.size))
  have HE2 := hideIt (HE2.out.below hbx)
  have HA := hideIt ((HA.out.below hbx).wide hbx.size)
  have HV := hideIt ((HV.out.below hbx).wide hbx.size)
  have HS := hideIt ((HS.out.below hbx).wide hbx.size)
  have HS2 := hideIt ((HS2.out.below hbx).wide hbx.size)
  have HD := hideIt ((HD.out.below hbx).wide hbx.size)
  have HD2 := hideIt ((HD2.out.below hbx).wide hbx.size)
  clear hbx' hbx
  go_wp2_with fail
  refine (same_any w7.heap.size _ _ (minNs us vs) (minNs us vs) w7 HD.out HD2.out (Nat.le_refl _)).mono ?_
  rintro e w8 ⟨⟨bx, rfl, hbx'⟩, hbx⟩
  obtain rfl : bx = true := hbx'.2 rfl
  have HB := hideIt (HB.out.trans (hbx.mono HB.out.size))
  have HE2 := hideIt (HE2.out.below hbx)
  have HA := hideIt ((HA.out.below hbx).wide hbx.size)
  have HV := hideIt ((HV.out.below hbx).wide hbx.size)
  have HS := hideIt ((HS.out.below hbx).wide hbx.size)
  have HS2 := hideIt ((HS2.out.below hbx).wide hbx.size)
  have HD := hideIt ((HD.out.below hbx).wide hbx.size)
  have HD2 := hideIt ((HD2.out.below hbx).wide hbx.size)
  clear hbx' hbx
  go_wp2_with fail
  refine (specOk_any w8.heap.size _ us w8 HA.out (Nat.le_refl _)).mono ?_
  rintro e w9 ⟨rfl, hbx⟩
  have HB := hideIt (HB.out.trans (hbx.mono HB.out.size))
  have HE2 := hideIt (HE2.out.below hbx)
  have HA := hideIt ((HA.out.below hbx).wide hbx.size)
  have HV := hideIt ((HV.out.below hbx).wide hbx.size)
  have HS := hideIt ((HS.out.below hbx).wide hbx.size)
  have HS2 := hideIt ((HS2.out.below hbx).wide hbx.size)
  have HD := hideIt ((HD.out.below hbx).wide hbx.size)
  have HD2 := hideIt ((HD2.out.below hbx).wide hbx.size)
  clear hbx
  cases okA : okB us
  · skip
    go_wp2_with fail
    refine (same_any w9.heap.size _ _ (plusNs us vs) (plusNs us vs) w9 HS.out HS2.out (Nat.le_refl _)).mono ?_
    rintro e w10 ⟨⟨bx, rfl, hbx'⟩, hbx⟩
    obtain rfl : bx = true := hbx'.2 rfl
    have HB := hideIt (HB.out.trans (hbx.mono HB.out.size))
    have HE2 := hideIt (HE2.out.below hbx)
    have HA := hideIt ((HA.out.below hbx).wide hbx.size)
    have HV := hideIt ((HV.out.below hbx).wide hbx.size)
    have HS := hideIt ((HS.out.below hbx).wide hbx.size)
    have HS2 := hideIt ((HS2.out.below hbx).wide hbx.size)
    have HD := hideIt ((HD.out.below hbx).wide hbx.size)
    have HD2 := hideIt ((HD2.out.below hbx).wide hbx.size)
    clear hbx' hbx
    go_wp2_with fail
    refine (same_any w10.heap.size _ _ (minNs us vs) (minNs us vs) w10 HD.out HD2.out (Nat.le_refl _)).mono ?_
    rintro e w11 ⟨⟨bx, rfl, hbx'⟩, hbx⟩
    obtain rfl : bx = true := hbx'.2 rfl
    have HB := hideIt (HB.out.trans (hbx.mono HB.out.size))
    have HE2 := hideIt (HE2.out.below hbx)
    have HA := hideIt ((HA.out.below hbx).wide hbx.size)
    have HV := hideIt ((HV.out.below hbx).wide hbx.size)
    have HS := hideIt ((HS.out.below hbx).wide hbx.size)
    have HS2 := hideIt ((HS2.out.below hbx).wide hbx.size)
    have HD := hideIt ((HD.out.below hbx).wide hbx.size)
    have HD2 := hideIt ((HD2.out.below hbx).wide hbx.size)
    clear hbx' hbx
    go_wp2_with fail
    go_ret
    exact ⟨rfl, HB.out⟩
  go_wp2_with fail
  refine (specOk_any w9.heap.size _ vs w9 HV.out (Nat.le_refl _)).mono ?_
  rintro e w10 ⟨rfl, hbx⟩
  have HB := hideIt (HB.out.trans (hbx.mono HB.out.size))
  have HE2 := hideIt (HE2.out.below hbx)
  have HA := hideIt ((HA.out.below hbx).wide hbx.size)
  have HV := hideIt ((HV.out.below hbx).wide hbx.size)
  have HS := hideIt ((HS.out.below hbx).wide hbx.size)
  have HS2 := hideIt ((HS2.out.below hbx).wide hbx.size)
  have HD := hideIt ((HD.out.below hbx).wide hbx.size)
  have HD2 := hideIt ((HD2.out.below hbx).wide hbx.size)
  clear hbx
  cases okV : okB vs
  · skip
    go_wp2_with fail
    refine (same_any w10.heap.size _ _ (plusNs us vs) (plusNs us vs) w10 HS.out HS2.out (Nat.le_refl _)).mono ?_
    rintro e w11 ⟨⟨bx, rfl, hbx'⟩, hbx⟩
    obtain rfl : bx = true := hbx'.2 rfl
    have HB := hideIt (HB.out.trans (hbx.mono HB.out.size))
    have HE2 := hideIt (HE2.out.below hbx)
    have HA := hideIt ((HA.out.below hbx).wide hbx.size)
    have HV := hideIt ((HV.out.below hbx).wide hbx.size)
    have HS := hideIt ((HS.out.below hbx).wide hbx.size)
    have HS2 := hideIt ((HS2.out.below hbx).wide hbx.size)
    have HD := hideIt ((HD.out.below hbx).wide hbx.size)
    have HD2 := hideIt ((HD2.out.below hbx).wide hbx.size)
    clear hbx' hbx
    go_wp2_with fail
    refine (same_any w11.heap.size _ _ (minNs us vs) (minNs us vs) w11 HD.out HD2.out (Nat.le_refl _)).mono ?_
    rintro e w12 ⟨⟨bx, rfl, hbx'⟩, hbx⟩
    obtain rfl : bx = true := hbx'.2 rfl
    have HB := hideIt (HB.out.trans (hbx.mono HB.out.size))
    have HE2 := hideIt (HE2.out.below hbx)
    have HA := hideIt ((HA.out.below hbx).wide hbx.size)
    have HV := hideIt ((HV.out.below hbx).wide hbx.size)
    have HS := hideIt ((HS.out.below hbx).wide hbx.size)
    have HS2 := hideIt ((HS2.out.below hbx).wide hbx.size)
    have HD := hideIt ((HD.out.below hbx).wide hbx.size)
    have HD2 := hideIt ((HD2.out.below hbx).wide hbx.size)
    clear hbx' hbx
    go_wp2_with fail
    go_ret
    exact ⟨rfl, HB.out⟩
  clear HD HD2 HS2 q2
  have HNL := hideIt (plus_null_left okA)
  have HNR := hideIt (plus_null_right okA)
  have HOA := hideIt okA
  have HOV := hideIt okV
  have HAF : Hid (Few us ∧ ∀ i, i < us.length → Fits (nodeAt us i)) := ⟨okB_few okA, HFU.out⟩
  clear okA okV
  have hbn : Below w10.heap.size w10 (w10.alloc (.cells #[.int .i64 1, .int .i64 0, .string ⟨#[]⟩, .slice none 0 0, .slice none 0 0] 34)) := (Below.refl _ _).alloc (Nat.le_refl _) _
  have HN : Hid (NodesAt (w10.alloc (.cells #[.int .i64 1, .int .i64 0, .string ⟨#[]⟩, .slice none 0 0, .slice none 0 0] 34)).heap.size (w10.alloc (.cells #[.int .i64 1, .int .i64 0, .string ⟨#[]⟩, .slice none 0 0, .slice none 0 0] 34)) (.slice (some ⟨w10.heap.size, 0, none⟩) 1 1) nullV) := (leaf_nest w10 1 0 ⟨#[]⟩).nodes (by decide) null_fits
  have HB := hideIt (HB.out.trans (hbn.mono HB.out.size))
  have HE2 := hideIt (HE2.out.below hbn)
  have HA := hideIt ((HA.out.below hbn).wide hbn.size)
  have HV := hideIt ((HV.out.below hbn).wide hbn.size)
  have HS := hideIt ((HS.out.below hbn).wide hbn.size)
  obtain ⟨nb, hnb⟩ : ∃ nb, w10.heap.size = nb := ⟨_, rfl⟩
  obtain ⟨WN, hWN⟩ : ∃ WN, w10.alloc (.cells #[.int .i64 1, .int .i64 0, .string ⟨#[]⟩, .slice none 0 0, .slice none 0 0] 34) = WN := ⟨_, rfl⟩
  rw [hnb] at HN
  rw [hWN] at HN HA HV HS HB HE2
  have HWN := hideIt hWN
  have HNB := hideIt hnb
  clear hbn hWN hnb
  go_wp2_with fail
  rw [HNB.out, HWN.out]
  refine (implPlus_any WN.heap.size _ _ (nullV) (us) WN HN.out HA.out (Nat.le_refl _) HE2.out).mono ?_
  rintro e w11 ⟨rx, basex, KX, IX, rfl, _, _, hnx, hbx⟩
  rw [HNL.out.2] at hnx
  rw [HNL.out.1]
  have HB := hideIt (HB.out.trans (hbx.mono HB.out.size))
  have HE2 := hideIt (HE2.out.below hbx)
  have HA := hideIt ((HA.out.below hbx).wide hbx.size)
  have HV := hideIt ((HV.out.below hbx).wide hbx.size)
  have HS := hideIt ((HS.out.below hbx).wide hbx.size)
  have HN := hideIt ((HN.out.below hbx).wide hbx.size)
  have HX := hideIt (hnx.nodes (by have := HAF.out.1.1; omega) HAF.out.2)
  obtain ⟨aHX, cHX, ex⟩ := own_slice hnx.row
  obtain ⟨MHX, hMx⟩ : ∃ M, (us).length = M := ⟨_, rfl⟩
  rw [hMx] at ex
  subst ex
  clear hnx hbx hMx
  go_wp2_with fail
  refine (implPlus_any w11.heap.size _ _ (us) (nullV) w11 HA.out HN.out (Nat.le_refl _) HE2.out).mono ?_
  rintro e w12 ⟨rx, basex, KX, IX, rfl, _, _, hnx, hbx⟩
  rw [HNR.out.2] at hnx
  rw [HNR.out.1]
  have HB := hideIt (HB.out.trans (hbx.mono HB.out.size))
  have HE2 := hideIt (HE2.out.below hbx)
  have HA := hideIt ((HA.out.below hbx).wide hbx.size)
  have HV := hideIt ((HV.out.below hbx).wide hbx.size)
  have HS := hideIt ((HS.out.below hbx).wide hbx.size)
  have HN := hideIt ((HN.out.below hbx).wide hbx.size)
  have HX := hideIt ((HX.out.below hbx).wide hbx.size)
  have HY := hideIt (hnx.nodes (by have := HAF.out.1.1; omega) HAF.out.2)
  obtain ⟨aHY, cHY, ex⟩ := own_slice hnx.row
  obtain ⟨MHY, hMx⟩ : ∃ M, (us).length = M := ⟨_, rfl⟩
  rw [hMx] at ex
  subst ex
  clear hnx hbx hMx
  go_wp2_with fail
  refine (same_any w12.heap.size _ _ (us) (us) w12 HX.out HA.out (Nat.le_refl _)).mono ?_
  rintro e w13 ⟨⟨bx, rfl, hbx'⟩, hbx⟩
  obtain rfl : bx = true := hbx'.2 rfl
  have HB := hideIt (HB.out.trans (hbx.mono HB.out.size))
  have HE2 := hideIt (HE2.out.below hbx)
  have HA := hideIt ((HA.out.below hbx).wide hbx.size)
  have HV := hideIt ((HV.out.below hbx).wide hbx.size)
  have HS := hideIt ((HS.out.below hbx).wide hbx.size)
  have HN := hideIt ((HN.out.below hbx).wide hbx.size)
  have HX := hideIt ((HX.out.below hbx).wide hbx.size)
  have HY := hideIt ((HY.out.below hbx).wide hbx.size)
  clear hbx' hbx
  go_wp2_with fail
  refine (same_any w13.heap.size _ _ (us) (us) w13 HY.out HA.out (Nat.le_refl _)).mono ?_
  rintro e w14 ⟨⟨bx, rfl, hbx'⟩, hbx⟩
  obtain rfl : bx = true := hbx'.2 rfl
  have HB := hideIt (HB.out.trans (hbx.mono HB.out.size))
  have HE2 := hideIt (HE2.out.below hbx)
  have HA := hideIt ((HA.out.below hbx).wide hbx.size)
  have HV := hideIt ((HV.out.below hbx).wide hbx.size)
  have HS := hideIt ((HS.out.below hbx).wide hbx.size)
  have HN := hideIt ((HN.out.below hbx).wide hbx.size)
  have HX := hideIt ((HX.out.below hbx).wide hbx.size)
  have HY := hideIt ((HY.out.below hbx).wide hbx.size)
  clear hbx' hbx
  clear HX HY HN
  obtain ⟨ba, oa, rfl, da⟩ := last_kind HA.out HMA.out hMAp
  obtain ⟨bb, ob, rfl, db⟩ := last_kind HV.out HMB.out hMBp
  obtain ⟨ka, hka⟩ : ∃ ka, (rootN us).kind = ka := ⟨_, rfl⟩
  obtain ⟨kb, hkb⟩ : ∃ kb, (rootN vs).kind = kb := ⟨_, rfl⟩
  have HKA := hideIt hka
  have HKB := hideIt hkb
  rw [hka] at da
  rw [hkb] at db
  have t1 : ((MA : Int) - 1).toNat = MA - 1 := by omega
  have t2 : ((MB : Int) - 1).toNat = MB - 1 := by omega
  have t3 : (0 : Int) ≤ (MA : Int) - 1 := by omega
  have t4 : (0 : Int) ≤ (MB : Int) - 1 := by omega
  have t5 : (MA : Int) - 1 < (MA : Int) := by omega
  have t6 : (MB : Int) - 1 < (MB : Int) := by omega
  clear hka hkb
  by_cases hp : pc = 0
  rotate_left
  · have p1 : (pc == 0) = false := by simpa using hp
    have p2 : decide (pc = 0) = false := by simpa using hp
    go_wp2_with fail
    go_ret
    exact ⟨rfl, HB.out⟩
  subst hp
  by_cases h3 : ka = 3
  · subst h3
    have g35 : ((3 : Int) == 5) = false := by decide
    by_cases hk : kb = 3
    · subst hk
      have HNU := hideIt (plus_num HOA.out HOV.out HKA.out HKB.out HPC.out)
      have HPO : Hid (Few (plusNs us vs) ∧ ∀ i, i < (plusNs us vs).length → Fits (nodeAt (plusNs us vs) i)) := HPF.out
      go_wp2_with fail
      refine (implPlus_any w14.heap.size _ _ (vs) (us) w14 HV.out HA.out (Nat.le_refl _) HE2.out).mono ?_
      rintro e w15 ⟨rx, basex, KX, IX, rfl, _, _, hnx, hbx⟩
      rw [HNU.out.2.1] at hnx
      rw [HNU.out.1]
      have HB := hideIt (HB.out.trans (hbx.mono HB.out.size))
      have HE2 := hideIt (HE2.out.below hbx)
      have HA := hideIt ((HA.out.below hbx).wide hbx.size)
      have HV := hideIt ((HV.out.below hbx).wide hbx.size)
      have HS := hideIt ((HS.out.below hbx).wide hbx.size)
      have HZ := hideIt (hnx.nodes (by have := HPO.out.1.1; omega) HPO.out.2)
      obtain ⟨aHZ, cHZ, ex⟩ := own_slice hnx.row
      obtain ⟨MHZ, hMx⟩ : ∃ M, (plusNs us vs).length = M := ⟨_, rfl⟩
      rw [hMx] at ex
      subst ex
      clear hnx hbx hMx
      go_wp2_with fail
      refine (implMinus_any w15.heap.size _ _ (plusNs us vs) (vs) w15 HS.out HV.out (Nat.le_refl _) HE2.out).mono ?_
      rintro e w16 ⟨rx, basex, KX, IX, rfl, _, _, hnx, hbx⟩
      rw [HNU.out.2.2.2] at hnx
      rw [HNU.out.2.2.1]
      have HB := hideIt (HB.out.trans (hbx.mono HB.out.size))
      have HE2 := hideIt (HE2.out.below hbx)
      have HA := hideIt ((HA.out.below hbx).wide hbx.size)
      have HV := hideIt ((HV.out.below hbx).wide hbx.size)
      have HS := hideIt ((HS.out.below hbx).wide hbx.size)
      have HZ := hideIt ((HZ.out.below hbx).wide hbx.size)
      have HM := hideIt (hnx.nodes (by have := HAF.out.1.1; omega) HAF.out.2)
      obtain ⟨aHM, cHM, ex⟩ := own_slice hnx.row
      obtain ⟨MHM, hMx⟩ : ∃ M, (us).length = M := ⟨_, rfl⟩
      rw [hMx] at ex
      subst ex
      clear hnx hbx hMx
      go_wp2_with fail
      refine (same_any w16.heap.size _ _ (plusNs us vs) (plusNs us vs) w16 HZ.out HS.out (Nat.le_refl _)).mono ?_
      rintro e w17 ⟨⟨bx, rfl, hbx'⟩, hbx⟩
      obtain rfl : bx = true := hbx'.2 rfl
      have HB := hideIt (HB.out.trans (hbx.mono HB.out.size))
      have HE2 := hideIt (HE2.out.below hbx)
      have HA := hideIt ((HA.out.below hbx).wide hbx.size)
      have HV := hideIt ((HV.out.below hbx).wide hbx.size)
      have HS := hideIt ((HS.out.below hbx).wide hbx.size)
      have HZ := hideIt ((HZ.out.below hbx).wide hbx.size)
      have HM := hideIt ((HM.out.below hbx).wide hbx.size)
      clear hbx' hbx
      go_wp2_with fail
      refine (same_any w17.heap.size _ _ (us) (us) w17 HM.out HA.out (Nat.le_refl _)).mono ?_
      rintro e w18 ⟨⟨bx, rfl, hbx'⟩, hbx⟩
      obtain rfl : bx = true := hbx'.2 rfl
      have HB := hideIt (HB.out.trans (hbx.mono HB.out.size))
      have HE2 := hideIt (HE2.out.below hbx)
      have HA := hideIt ((HA.out.below hbx).wide hbx.size)
      have HV := hideIt ((HV.out.below hbx).wide hbx.size)
      have HS := hideIt ((HS.out.below hbx).wide hbx.size)
      have HZ := hideIt ((HZ.out.below hbx).wide hbx.size)
      have HM := hideIt ((HM.out.below hbx).wide hbx.size)
      clear hbx' hbx
      go_wp2_with fail
      go_ret
      exact ⟨rfl, HB.out⟩
    · have k1 : ((3 : Int) == kb) = false := by simp; omega
      have k2 : decide ((3 : Int) = kb) = false := by simp; omega
      go_wp2_with fail
      go_ret
      exact ⟨rfl, HB.out⟩
  have n3 : (ka == 3) = false := by simpa using h3
  by_cases h5 : ka = 5
  · subst h5
    by_cases hk : kb = 5
    · subst hk
      have HPP := hideIt (plus_parts HOA.out HOV.out HKA.out HKB.out HPC.out)
      have HPS := hideIt (PL_few HPF.out.2)
      have HPA := hideIt (PL_few HFU.out)
      have HPB := hideIt (PL_few HFV.out)
      have HNS : Hid (partsN (plusNs us vs) = (rootKids us).length + (rootKids vs).length) := by rw [Hid]; unfold partsN; rw [if_pos HPP.out.1]; exact HPP.out.2.1
      have HNA : Hid (partsN us = (rootKids us).length) := by rw [Hid]; unfold partsN; rw [if_pos HOA.out]
      have HNV : Hid (partsN vs = (rootKids vs).length) := by rw [Hid]; unfold partsN; rw [if_pos HOV.out]
      go_wp2_with fail
      refine (implPartsOf_any w14.heap.size _ (plusNs us vs) w14 HS.out (Nat.le_refl _)).mono ?_
      rintro e x1 ⟨rS, baseS, rsS, KS, IS, loS, rfl, _, hrS, hbx⟩
      have HB := hideIt (HB.out.trans (hbx.mono HB.out.size))
      have HA := hideIt ((HA.out.below hbx).wide hbx.size)
      have HV := hideIt ((HV.out.below hbx).wide hbx.size)
      have HRS := hideIt (hrS.rows HPS.out.1 HPS.out.2)
      obtain ⟨aS, cS, eS⟩ := own_slice hrS.row
      obtain ⟨mS, hmS⟩ : ∃ m, partsN (plusNs us vs) = m := ⟨_, rfl⟩
      have HMS := hideIt hmS
      rw [hmS] at eS HRS
      subst eS
      have HBW1 := hideIt HB.out.size
      clear hrS hbx hmS
      have hba : Below x1.heap.size x1 (x1.alloc (.cells #[] 24)) := (Below.refl _ _).alloc (Nat.le_refl _) _
      have HB := hideIt (HB.out.trans (hba.mono HB.out.size))
      have HO : Hid ((x1.alloc (.cells #[] 24)).ownsRow x1.heap.size 24 1 (.slice (some ⟨x1.heap.size, 0, none⟩) 0 0) 0 []) := by
        have := World.ownsRow_lit (base := x1.heap.size) (e := 24) (size := 1) x1 #[] 0 (Nat.le_refl _) (by simp [maxLen]) rfl
        simpa [Hid] using this
      obtain ⟨bx, hbx⟩ : ∃ bx, x1.heap.size = bx := ⟨_, rfl⟩
      have zz1 : bx < (x1.alloc (.cells #[] 24)).heap.size := by rw [← hbx]; simp
      have HA := hideIt (HA.out.below hba)
      have HV := hideIt (HV.out.below hba)
      have HRS := hideIt (HRS.out.below hba)
      obtain ⟨x2, hx2⟩ : ∃ x2, x1.alloc (.cells #[] 24) = x2 := ⟨_, rfl⟩
      rw [hx2] at HB HA HV HRS HO zz1
      rw [hbx] at HO HA HV HRS
      have HX2 := hideIt hx2
      have HBX := hideIt hbx
      clear hba hx2 hbx
      go_wp2_with fail
      rw [HBX.out, HX2.out]
      refine (implPartsOf_any bx _ us x2 HA.out (Nat.le_of_lt zz1)).mono ?_
      rintro e x3 ⟨rA, baseA, rsA, KA, IA, loA, rfl, _, hrA, hbx⟩
      have HB := hideIt (HB.out.trans (hbx.mono HB.out.size))
      have HV := hideIt (HV.out.below (hbx.mono (Nat.le_of_lt zz1)))
      have HRS := hideIt (HRS.out.below (hbx.mono (Nat.le_of_lt zz1)))
      have HO := hideIt (own_below HO.out hbx (fun y hy => (HO.out.lt y hy).2))
      have HOA2 := hideIt hrA.row
      have HNE := hideIt hrA.nest
      have zz3 : bx < x3.heap.size := Nat.lt_of_lt_of_le zz1 hbx.size
      obtain ⟨aA2, cA2, eA2⟩ := own_slice hrA.row
      obtain ⟨mA, hmA⟩ : ∃ m, partsN us = m := ⟨_, rfl⟩
      have HMA2 := hideIt hmA
      have hmA80 : mA ≤ 80 := by have := HPA.out.1; omega
      rw [hmA] at eA2 HOA2 HNE
      subst eA2
      clear hrA hbx hmA
      obtain ⟨i2, hi2, hzz2, hs2, hy2⟩ := info_parts infoRowV
      have HSRC := hideIt (src_row HOA2.out)
      have HONE := hideIt (rows_one9 HNE.out)
      go_wp2_with (at_builtin; refine wpList_append_src rfl _ _ 36 rfl bx 24 i2 (.slice none 0 0) 1 24 Tryz.underlying36 hi2 hzz2 hs2 hy2 rfl (by decide) _ 0 [] rfl HO.out aA2 mA cA2 ((List.range mA).map rsA) rfl ?c1 HSRC.out HONE.out ?c3 ?c4 ?c5 ?_)
      case c1 => simp
      case c3 => unfold maxLen; omega
      case c4 => omega
      case c5 => omega
      intro vd x4 hownd hgd hatd
      
      have hbx : Below bx x3 x4 := (Below.refl bx x3).grown hgd (Nat.le_of_lt zz3) (fun r hr => (HO.out.lt r hr).1)
      have HNE := hideIt (nest_rows_kept HNE.out HO.out hgd)
      have HBD := hideIt (HB.out.trans (hbx.mono (by have := HB.out.size; rw [← HBX.out]; exact HBW1.out)))
      have HV := hideIt (HV.out.below hbx)
      have HRS := hideIt (HRS.out.below hbx)
      have HO := hideIt hownd
      have zz4 : bx < x4.heap.size := Nat.lt_of_lt_of_le zz3 hbx.size
      obtain ⟨ad, cd, ed⟩ := own_slice hownd
      subst ed
      clear hownd hgd hatd hbx HB
      go_wp2_with fail
      refine (implPartsOf_any bx _ vs x4 HV.out (Nat.le_of_lt zz4)).mono ?_
      rintro e x5 ⟨rB, baseB, rsB, KB, IB, loB, rfl, _, hrB, hbx⟩
      have HB := hideIt (HBD.out.trans (hbx.mono HBD.out.size))
      have HRS := hideIt (HRS.out.below (hbx.mono (Nat.le_of_lt zz4)))
      have HO := hideIt (own_below HO.out hbx (fun y hy => (HO.out.lt y hy).2))
      have HNE : Hid (∀ i, i < mA → Nest (loA i) x5 (rsA i) (PL us i) (KA i) (IA i)) := fun i hi => (HNE.out i hi).below hbx
      have HOB2 := hideIt hrB.row
      have HNF := hideIt hrB.nest
      have zz5 : bx < x5.heap.size := Nat.lt_of_lt_of_le zz4 hbx.size
      obtain ⟨aB2, cB2, eB2⟩ := own_slice hrB.row
      obtain ⟨mB, hmB⟩ : ∃ m, partsN vs = m := ⟨_, rfl⟩
      have HMB2 := hideIt hmB
      have hmB80 : mB ≤ 80 := by have := HPB.out.1; omega
      rw [hmB] at eB2 HOB2 HNF
      subst eB2
      clear hrB hbx hmB HBD
      have HSRC := hideIt (src_row HOB2.out)
      have HONE := hideIt (rows_one9 HNF.out)
      go_wp2_with (at_builtin; refine wpList_append_src rfl _ _ 36 rfl bx 24 i2 (.slice none 0 0) 1 24 Tryz.underlying36 hi2 hzz2 hs2 hy2 rfl (by decide) _ mA ((List.range mA).map rsA) rfl HO.out aB2 mB cB2 ((List.range mB).map rsB) rfl ?c1 HSRC.out HONE.out ?c3 ?c4 ?c5 ?_)
      case c1 => simp
      case c3 => unfold maxLen; omega
      case c4 => omega
      case c5 => omega
      intro vf x6 hownf hgf hatf
      have hbx : Below bx x5 x6 := (Below.refl bx x5).grown hgf (Nat.le_of_lt zz5) (fun r hr => (HO.out.lt r hr).1)
      have HNE := hideIt (nest_rows_kept HNE.out HO.out hgf)
      have HNF := hideIt (nest_rows_kept HNF.out HO.out hgf)
      have HBD := hideIt (HB.out.trans (hbx.mono (by rw [← HBX.out]; exact HBW1.out)))
      have HRS := hideIt ((HRS.out.below hbx).wideS (Nat.le_trans (Nat.le_of_lt zz5) hbx.size))
      have HRF := hideIt (rows_both hownf (fun i hi => (HNE.out i hi).nodes (by have := (HPA.out.2 i (by rw [HMA2.out]; exact hi)).1.1; omega) (HPA.out.2 i (by rw [HMA2.out]; exact hi)).2) (fun i hi => (HNF.out i hi).nodes (by have := (HPB.out.2 i (by rw [HMB2.out]; exact hi)).1.1; omega) (HPB.out.2 i (by rw [HMB2.out]; exact hi)).2) (by omega))
      obtain ⟨af, cf, ef⟩ := own_slice hownf
      obtain ⟨mF, hmF⟩ : ∃ m, mA + mB = m := ⟨_, rfl⟩
      have HMF2 := hideIt hmF
      rw [hmF] at ef HRF
      subst ef
      have HSM : Hid (SameRows mS mF (PL (plusNs us vs)) (fun i => if i < mA then PL us i else PL vs (i - mA))) := by
        have e1 : mA = (rootKids us).length := HMA2.out.symm.trans HNA.out
        have e2 : mB = (rootKids vs).length := HMB2.out.symm.trans HNV.out
        have e3 : mS = (rootKids us).length + (rootKids vs).length := HMS.out.symm.trans HNS.out
        refine ⟨by rw [e3, ← HMF2.out, e1, e2], fun i hi => ?_⟩
        rw [HPP.out.2.2 i (by omega), bothL, e1]
      clear hownf hgf hatf hbx HB hmF
      go_wp2_with fail
      refine (sameAll_any x6.heap.size _ _ mS mF _ _ x6 HRS.out HRF.out (Nat.le_refl _)).mono ?_
      rintro e x7 ⟨⟨b7, rfl, hb7'⟩, hb7⟩
      obtain rfl : b7 = true := hb7'.2 HSM.out
      have HB7 := hideIt (HBD.out.trans (hb7.mono HBD.out.size))
      clear hb7' hb7
      go_wp2_with fail
      go_ret
      exact ⟨rfl, HB7.out⟩
    · have k1 : ((5 : Int) == kb) = false := by simp; omega
      have k2 : decide ((5 : Int) = kb) = false := by simp; omega
      go_wp2_with fail
      go_ret
      exact ⟨rfl, HB.out⟩
  have n5 : (ka == 5) = false := by simpa using h5
  go_wp2_with fail
  go_ret
  exact ⟨rfl, HB.out⟩
end Go.Proofs.YtfijafbpdlakaaaGreatDoor
