/-
  The program's filterWriter: writeMap.
-/
import Derived.Test.YtehihemfepbmfaaGreatDoorIFx
namespace Go.Proofs.YtehihemfepbmfaaGreatDoor
open Go.RowKit
set_option linter.unusedSimpArgs false
set_option linter.unusedVariables false

theorem rowF_next (l : List UInt8) (R : Int → Int → List UInt8) (names : List ByteArray) (kids : List Int) (k : Nat) : l ++ [123] ++ rowF R names kids (k + 1) = l ++ [123] ++ rowF R names kids k ++ sepF k ++ ((keyAt names k).data.toList ++ [58, 32]) ++ R (intAt kids k) 3 := by
  rw [rowF]; simp only [List.append_assoc]

set_option maxRecDepth 100000 in
set_option maxHeartbeats 6400000 in
theorem writeMap_any {B b : Nat} {F : Value} {fs : List FN} {names : List ByteArray} {kids : List Int} {aK aI : Option Addr} {M cK cI : Nat} {kk pl : Int} {nm : ByteArray} {aC : Option Addr} {MC cC : Nat} {R : Int → Int → List UInt8} (hM5 : M ≤ 5)
    (hN : ∀ j, j < M → (keyAt names j).size ≤ 60) (hR : ∀ j, j < M → ∃ q : Nat, intAt kids j = q ∧ FwR B b F fs q 3 (R (intAt kids j) 3)) (l : List UInt8) (w : World) (hk : KidsAt B w aI M kids)
    (hn : 0 < M → ∃ b o, aK = some ⟨b, o, none⟩ ∧ b < B ∧ ∀ i, i < M → w.cell? ⟨b, o + i, none⟩ = some (.string (keyAt names i))) (hg : GF B b F l w) (hp : FwP B F fs w) (hlen : (l ++ [123] ++ rowF R names kids M ++ [125]).length ≤ 100000000) :
    Calls Tryz.prog 96 #[.pointer (some ⟨b, 0, none⟩), .agg #[.int .i64 kk, .string nm, .int .i64 pl, .slice aC MC cC, .slice aK M cK, .slice aI M cI]] w fun e w' => e = .returned (.tuple #[]) ∧ GF B b F (l ++ [123] ++ rowF R names kids M ++ [125]) w' ∧ Below B w w' ∧ Beside b w w' := by
  have z0 := hp.hB
  have HN := hideB hN
  have HR := hideB hR
  have HK := hideB hk.2
  have HNM := hideB hn
  have hbl := hg.lt
  clear hN hR hk hn
  obtain ⟨W1, hW1⟩ : ∃ W1, w.alloc (.cells #[.int .i64 kk, .string nm, .int .i64 pl, .slice aC MC cC, .slice aK M cK, .slice aI M cI] 51) = W1 := ⟨_, rfl⟩
  have HW1 := hideB hW1
  have HX : Hid (W1.heap[w.heap.size]? = some (.cells #[.int .i64 kk, .string nm, .int .i64 pl, .slice aC MC cC, .slice aK M cK, .slice aI M cI] 51 (0, 0))) := by rw [Hid, ← hW1]; exact heap_alloc_new w _
  have HG : Hid (GF B b F l W1) := by rw [Hid, ← hW1]; exact hg.alloc _
  have HBX : Hid (Below B w W1) := by rw [Hid, ← hW1]; exact (Below.refl _ _).alloc z0 _
  have HKX : Hid (Beside b w W1) := by rw [Hid, ← hW1]; exact Beside.alloc _ _ _
  have HP := hideB hp
  have HLM : Hid (∀ k, k ≤ M → (l ++ [123] ++ rowF R names kids k).length + 1 ≤ 100000000) := fun k hk => by
    have h2 := rowF_mono R names kids hk
    simp only [List.length_append, List.length_cons, List.length_nil] at hlen ⊢
    omega
  have hl0 : l.length + 1 ≤ 100000000 := by simp only [List.length_append, List.length_cons, List.length_nil] at hlen; omega
  have z1 : B ≤ W1.heap.size := Nat.le_trans z0 HBX.out.size
  clear hg hp hW1 hlen
  go_enter Tryz.func96, Tryz.ntmps96
  go_wp2_with fail
  rw [HW1.out]
  refine (gb_byte gt_filter HG.out 123 (by omega) z1).mono ?_
  rintro e w1 ⟨rfl, f1, b1, k1⟩
  have HF1 := hideB f1
  have HB1 := hideB (HBX.out.trans b1)
  have HK1 := hideB (HKX.out.trans k1)
  have HX1 := hideB (box_kept k1 HX.out (by omega) (by decide))
  have x4 : w1.cell? ⟨w.heap.size, 4, none⟩ = some (.slice aK M cK) := cellAt HX1.out (i := 4) rfl
  clear f1 b1 k1
  go_wp2_with fail
  go_loopw [4, 5, 13] (fun _ _ i wr => ∃ k : Nat, k ≤ M ∧ i = .int .i64 k ∧ GF B b F (l ++ [123] ++ rowF R names kids k) wr ∧ Below B w wr ∧ Beside b w wr ∧ wr.heap[w.heap.size]? = some (.cells #[.int .i64 kk, .string nm, .int .i64 pl, .slice aC MC cC, .slice aK M cK, .slice aI M cI] 51 (0, 0))) (fun _ _ i _ => M - (intOf i).toNat)
  case atStart => exact ⟨0, Nat.zero_le _, rfl, by rw [rowF, List.append_nil]; exact HF1.out, HB1.out, HK1.out, HX1.out⟩
  case round =>
    obtain ⟨k, hk, rfl, hf, hb, hks, hx⟩ := hrel
    have HF := hideB hf
    have HB := hideB hb
    have HKS := hideB hks
    have HXR := hideB hx
    have zr := hb.size
    have hblr := hf.lt
    have hlm0 := HLM.out k hk
    obtain ⟨D, hD⟩ : ∃ D, l ++ [123] ++ rowF R names kids k = D := ⟨_, rfl⟩
    have HPJ := hideB (rowF_next l R names kids k)
    rw [hD] at HF HPJ hlm0
    have HD := hideB hD
    clear hf hb hks hx x4 hD
    by_cases hlt : k < M
    · have hlt' : (k : Int) < (M : Int) := by omega
      obtain ⟨bk, ok, rfl, hbk, hck⟩ := HNM.out (by omega)
      obtain ⟨bi, oi, rfl, hbi, hci⟩ := HK.out (by omega)
      obtain ⟨q, hq, hr⟩ := HR.out k hlt
      have ck := (below_cell HB.out hbk).trans (hck k hlt)
      have hks := HN.out k hlt
      have hlm := HLM.out (k + 1) (by omega)
      rw [HPJ.out] at hlm
      have HCI := hideB (hci k hlt)
      rw [hq] at HCI
      have HRQ := hideB hr
      have HRE : Hid (R (intAt kids k) 3 = R (intAt kids k) 3) := rfl
      obtain ⟨RQ, hRQ⟩ : ∃ RQ, R (intAt kids k) 3 = RQ := ⟨_, rfl⟩
      rw [hRQ] at HRQ HPJ hlm
      obtain ⟨ky, hky⟩ : ∃ ky, keyAt names k = ky := ⟨_, rfl⟩
      rw [hky] at ck hks HPJ hlm
      have hsp := sepF_len k
      have HSP : Hid (sepF k = if k = 0 then [] else [44, 32]) := rfl
      simp only [List.length_append, List.length_cons, List.length_nil, len_is] at hlm
      clear hck hci hq hr hRQ hky HRE
      rcases Nat.eq_zero_or_pos k with hk0 | hk0
      rotate_left
      focus
        have hk0' : (0 : Int) < (k : Int) := by omega
        have hsp2 : D.length + 2 ≤ 100000000 := by have : (sepF k).length = 2 := by rw [HSP.out, if_neg (by omega)]; rfl
                                                   omega
        go_wp2_with fail
        refine (gb_text gt_filter HF.out ⟨#[44, 32]⟩ (by show D.length + 2 ≤ _; omega) (by omega)).mono ?_
        rintro e w2 ⟨rfl, f2, b2, k2⟩
        have HF2 : Hid (GF B b F (D ++ sepF k) w2) := by rw [Hid, HSP.out, if_neg (by omega)]; exact f2
        have HB2 := hideB (HB.out.trans b2)
        have HK2 := hideB (HKS.out.trans k2)
        have HX2 := hideB (box_kept k2 HXR.out (by omega) (by decide))
        have z2 := HB2.out.size
        clear f2 b2 k2
      rotate_left
      focus
        have hk0' : ¬ (0 : Int) < (k : Int) := by omega
        obtain ⟨w2, hw2⟩ : ∃ w2, w2 = wr := ⟨_, rfl⟩
        subst hw2
        have HF2 : Hid (GF B b F (D ++ sepF k) w2) := by rw [Hid, HSP.out, if_pos hk0, List.append_nil]; exact HF.out
        have HB2 := HB
        have HK2 := HKS
        have HX2 := HXR
        have z2 := HB2.out.size
        have HK0 := hideB hk0
        clear hk0
      all_goals
        clear HF HB HKS HXR HSP
        obtain ⟨E, hE⟩ : ∃ E, D ++ sepF k = E := ⟨_, rfl⟩
        have hEl : E.length + (ky.size + 2) + RQ.length + 1 ≤ 100000000 := by rw [← hE, List.length_append]; omega
        rw [hE] at HF2 HPJ
        clear hE hlm hsp
        have hb2l := HF2.out.lt
        have g1 : ¬ 9223372036854775807 < ky.size + 2 := by omega
        obtain ⟨KY, hKY⟩ : ∃ KY : ByteArray, ky ++ ⟨#[58, 32]⟩ = KY := ⟨_, rfl⟩
        have hkz : E.length + KY.size ≤ 1000000000 := by
          have : KY.size = ky.size + 2 := by rw [← hKY, ByteArray.size_append]; rfl
          omega
        have HEQ : Hid (E ++ KY.data.toList = E ++ (ky.data.toList ++ [58, 32])) := by rw [Hid, ← hKY]; simp
        have HT := hideB (gb_text gt_filter HF2.out KY hkz (by omega))
        go_wp2_with fail
        try rw [hKY]
        refine HT.out.mono ?_
        rintro e w3 ⟨rfl, f3, b3, k3⟩
        rw [HEQ.out] at f3
        have HF3 := hideB f3
        have HB3 := hideB (HB2.out.trans b3)
        have HK3 := hideB (HK2.out.trans k3)
        have HX3 := hideB (box_kept k3 HX2.out (by omega) (by decide))
        have z3 := HB3.out.size
        have x5 : w3.cell? ⟨w.heap.size, 5, none⟩ = some (.slice (some ⟨bi, oi, none⟩) M cI) := cellAt HX3.out (i := 5) rfl
        have ci := (below_cell HB3.out hbi).trans HCI.out
        have hb3l := HF3.out.lt
        clear f3 b3 k3
        go_wp2_with fail
        refine (HRQ.out _ _ HF3.out (HP.out.next HB3.out) (by simp only [List.length_append, List.length_cons, List.length_nil, len_is]; omega)).mono ?_
        rintro e w4 ⟨rfl, f4, b4, k4⟩
        rw [← HPJ.out] at f4
        have HF4 := hideB f4
        have HB4 := hideB (HB3.out.trans b4)
        have HK4 := hideB (HK3.out.trans k4)
        have HX4 := hideB (box_kept k4 HX3.out (by omega) (by decide))
        clear f4 b4 k4
        go_wp2_with fail
        exact ⟨⟨k + 1, by omega, by go_num, HF4.out, HB4.out, HK4.out, HX4.out⟩, by simp [intOf]; omega⟩
    · obtain rfl : k = M := by omega
      go_wp2_with fail
      refine (gb_byte gt_filter HF.out 125 (by omega) (by omega)).mono ?_
      rintro e w5 ⟨rfl, f5, b5, k5⟩
      have HF5 := hideB f5
      have HB5 := hideB (HB.out.trans b5)
      have HK5 := hideB (HKS.out.trans k5)
      clear f5 b5 k5
      go_wp2_with fail
      go_end0
      exact ⟨rfl, by rw [HD.out]; exact HF5.out, HB5.out, HK5.out⟩
end Go.Proofs.YtehihemfepbmfaaGreatDoor
