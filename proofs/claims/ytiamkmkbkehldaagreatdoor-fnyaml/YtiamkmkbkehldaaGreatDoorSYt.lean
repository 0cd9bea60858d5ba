/-
  The specification's YamlText.
-/
import Derived.Test.YtiamkmkbkehldaaGreatDoorYmP
import Derived.Test.YtiamkmkbkehldaaGreatDoorSPln
import Derived.Test.YtiamkmkbkehldaaGreatDoorVAt
import Derived.Test.YtiamkmkbkehldaaGreatDoorRowB
import Derived.Test.YtiamkmkbkehldaaGreatDoorYiP
namespace Go.Proofs.YtiamkmkbkehldaaGreatDoor
open Go.RowKit Go.WideShapes
set_option linter.unusedSimpArgs false
set_option linter.unusedVariables false

theorem l5Word_any (s : ByteArray) (w : World) (hs : s.size ≤ 60) : Calls Tryz.prog 145 #[.string s] w fun e w' => e = .returned (.string (txt (wordY s))) ∧ Below w.heap.size w w' := by
  have HP := hideIt (sPlain_walk s w)
  cases hp : plainL s.data.toList
  · have HW : Hid (wordY s = quoT s) := by rw [Hid]; unfold wordY; rw [hp]; rfl
    rw [hp] at HP
    go_enter Tryz.func145, Tryz.ntmps145
    go_wp2_with fail
    refine HP.out.mono ?_
    rintro e w1 ⟨rfl, hb1⟩
    have HB1 := hideIt hb1
    have z1 := hb1.size
    clear hb1
    go_wp2_with fail
    refine (sQuo_any s _ (by omega)).mono ?_
    rintro e w2 ⟨rfl, hb2⟩
    have HB2 := hideIt (HB1.out.trans (hb2.mono z1))
    clear hb2
    go_wp2_with fail
    go_ret
    exact ⟨by rw [HW.out]; rfl, HB2.out⟩
  · have HW : Hid (wordY s = s.data.toList) := by rw [Hid]; unfold wordY; rw [hp]; rfl
    rw [hp] at HP
    go_enter Tryz.func145, Tryz.ntmps145
    go_wp2_with fail
    refine HP.out.mono ?_
    rintro e w1 ⟨rfl, hb1⟩
    have HB1 := hideIt hb1
    clear hb1
    go_wp2_with fail
    go_ret
    exact ⟨by rw [HW.out, txt_bytes]; rfl, HB1.out⟩

set_option maxRecDepth 100000 in
set_option maxHeartbeats 1600000 in
theorem l5Flat_any (kd nn : Int) (ss : ByteArray) (kv iv : Value) (keys : List ByteArray) (w : World) (h : kd = 1 ∨ (kd = 2 ∧ 0 ≤ nn ∧ nn ≤ 1) ∨ (kd = 3 ∧ -1000000000000000 ≤ nn ∧ nn ≤ 1000000000000000) ∨ (kd = 4 ∧ ss.size ≤ 60) ∨ kd = 5 ∨ kd = 6) :
    Calls Tryz.prog 82 #[.agg #[.int .i64 kd, .int .i64 nn, .string ss, kv, iv]] w fun e w' => e = .returned (.string (txt (flatY (.mk kd nn ss keys [])))) ∧ Below w.heap.size w w' := by
  by_cases h4 : kd = 4
  · subst h4
    have hs : ss.size ≤ 60 := by rcases h with h | ⟨h, _⟩ | ⟨h, _⟩ | ⟨_, h⟩ | h | h <;> first | omega | exact h
    have HF : Hid (flatY (.mk 4 nn ss keys []) = wordY ss) := rfl
    go_enter Tryz.func82, Tryz.ntmps82
    go_wp2_with fail
    refine (l5Word_any ss _ hs).mono ?_
    rintro e w1 ⟨rfl, hb1⟩
    have HB := hideIt (((Below.refl _ _).alloc (Nat.le_refl _) _).trans (hb1.mono (by simp)))
    clear hb1
    go_wp2_with fail
    go_ret
    exact ⟨by rw [HF.out]; rfl, HB.out⟩
  by_cases h5 : kd = 5
  · subst h5
    have HF : Hid (flatY (.mk 5 nn ss keys []) = [91, 93]) := rfl
    go_enter Tryz.func82, Tryz.ntmps82
    go_wp2_with fail
    go_ret
    exact ⟨by rw [HF.out]; rfl, (Below.refl _ _).alloc (Nat.le_refl _) _⟩
  by_cases h6 : kd = 6
  · subst h6
    have HF : Hid (flatY (.mk 6 nn ss keys []) = [123, 125]) := rfl
    go_enter Tryz.func82, Tryz.ntmps82
    go_wp2_with fail
    go_ret
    exact ⟨by rw [HF.out]; rfl, (Below.refl _ _).alloc (Nat.le_refl _) _⟩
  have HF : Hid (flatY (.mk kd nn ss keys []) = jsonT false 1 0 (.mk kd nn ss keys [])) := by rw [Hid]; show (if kd = 4 then wordY ss else jsonT false 1 0 (.mk kd nn ss keys [])) = _; rw [if_neg h4]
  have HSC := hideIt (fun W => l2Scalar_any 0 0 false kd nn ss kv iv keys [] W (by
    rcases h with h | h | h | h | h | h
    · exact .inl h
    · exact .inr (.inl h)
    · exact .inr (.inr (.inl h))
    · exact .inr (.inr (.inr h))
    · exact absurd h h5
    · exact absurd h h6))
  have b4 : (kd == 4) = false := by simpa using h4
  have b5 : (kd == 5) = false := by simpa using h5
  have b6 : (kd == 6) = false := by simpa using h6
  clear h
  go_enter Tryz.func82, Tryz.ntmps82
  go_wp2_with fail
  refine (HSC.out _).mono ?_
  rintro e w1 ⟨rfl, hb1⟩
  have HB := hideIt (((Below.refl _ _).alloc (Nat.le_refl _) _).trans (hb1.mono (by simp)))
  clear hb1
  go_wp2_with fail
  go_ret
  exact ⟨by rw [HF.out]; rfl, HB.out⟩
theorem blockY_none {f pad : Nat} {t : VT} (h : (kidsY t).length = 0) : blockY f pad t = [] := by
  cases f with
  | zero => rfl
  | succ f =>
    obtain ⟨kind, n, s, keys, kids⟩ := t
    have e : kids = [] := List.eq_nil_of_length_eq_zero h
    subst e
    rfl
theorem jsonT_96k {vs : List VN} (hok : okB vs = true) {f deep i : Nat} (hi : i < vs.length) (hf : i < f) (hd : deep + i ≤ 100) : (jsonT true f deep (treeOf vs f i)).length ≤ 96000 := by
  obtain ⟨p1, _⟩ := okB_parts hok
  have h1 := jsonT_le hok true f deep i 0 hi hf hd
  have h2 := lay_part hok hf hi
  rw [h2.1] at h1
  have := h2.2
  omega
theorem blockY_96k {vs : List VN} (hok : okB vs = true) {f deep i : Nat} (hi : i < vs.length) (hf : i < f) (hd : deep + i ≤ 100) : (blockY f (2 * deep) (treeOf vs f i)).length ≤ 96000 := by
  by_cases h0 : (kidsY (treeOf vs f i)).length = 0
  · rw [blockY_none h0]; exact Nat.zero_le _
  · exact Nat.le_trans (blockY_len f deep _ (good_tree hok f i hi hf) h0) (jsonT_96k hok hi hf hd)
theorem flatY_96k {vs : List VN} (hok : okB vs = true) {f i : Nat} (hi : i < vs.length) (hf : i < f) (hd : i ≤ 100) (h0 : (kidsY (treeOf vs f i)).length = 0) : (flatY (treeOf vs f i)).length ≤ 96000 := by
  obtain ⟨g, rfl⟩ : ∃ g, f = g + 1 := ⟨f - 1, by omega⟩
  exact Nat.le_trans (flatY_len g 0 _ h0) (jsonT_96k hok hi hf (by omega))
def SyAll (B : Nat) (vs : List VN) (f : Nat) : Prop := ∀ (v : Value) (i deep : Nat) (w : World), NodesAt B w v vs → B ≤ w.heap.size → i < f → i < vs.length → deep + i ≤ 100 →
  Calls Tryz.prog 83 #[v, .int .i64 i, .string (marg deep)] w fun e w' => e = .returned (.string (txt (blockY f (2 * deep) (treeOf vs f i)))) ∧ Below w.heap.size w w'

set_option maxRecDepth 100000 in
set_option maxHeartbeats 12800000 in
theorem l5Block_any (B : Nat) (vs : List VN) (hok : okB vs = true) : ∀ f, SyAll B vs f := by
  intro f
  induction f with
  | zero => intro v i deep w _ _ hi; omega
  | succ f ih =>
    intro v i deep w h hB hif hi hdi
    have HV := hideIt h
    have h80 : vs.length ≤ 80 := (okB_parts hok).1.2
    obtain ⟨hl, a, cap, rfl, hcv⟩ := h
    obtain ⟨bv, ov, rfl, hbv, hcv'⟩ := hcv (by omega)
    have HCV := hideIt hcv'
    obtain ⟨ka, ki, hnd⟩ := hcv' i hi
    have c0 := hnd.c0
    have c1 := hnd.c1
    have c2 := hnd.c2
    have c3 := hnd.c3
    have c4 := hnd.c4
    obtain ⟨_, hks, aK, cK, eK, hkc⟩ := hnd.inn.keys
    obtain ⟨_, _, aI, cI, eI, hic⟩ := hnd.inn.kids
    have HKC := hideIt hkc
    have HIC := hideIt hic
    subst eK eI
    have HSAY := hideIt (node_says hok hi)
    have HKIN := hideIt (((okB_parts hok).2.1 i hi).2)
    have hkf := keys_few hok i hi
    have HLE := hideIt (blockY_96k hok (f := f + 1) (deep := deep) hi hif hdi)
    have HTR : Hid (blockY (f + 1) (2 * deep) (treeOf vs (f + 1) i) = blkY (blockY f (2 * deep + 2)) (decide ((nodeAt vs i).kind = 6)) (2 * deep) (nodeAt vs i).keys ((nodeAt vs i).kids.map fun k => treeOf vs f k.toNat) (nodeAt vs i).kids.length) := by rw [Hid, treeOf, blockY, List.length_map]
    obtain ⟨M, hM⟩ : ∃ M, (nodeAt vs i).kids.length = M := ⟨_, rfl⟩
    obtain ⟨MK, hMK⟩ : ∃ MK, (nodeAt vs i).keys.length = MK := ⟨_, rfl⟩
    obtain ⟨kd, hkd⟩ : ∃ kd, (nodeAt vs i).kind = kd := ⟨_, rfl⟩
    obtain ⟨nn, hnn⟩ : ∃ nn, (nodeAt vs i).n = nn := ⟨_, rfl⟩
    obtain ⟨ss, hss⟩ : ∃ ss, (nodeAt vs i).s = ss := ⟨_, rfl⟩
    rw [hkd, hM] at HTR
    rw [HTR.out] at HLE ⊢
    rw [hM] at c4 HIC hkf HSAY
    rw [hMK] at c3 HKC hkf HSAY
    rw [hkd] at c0 HSAY
    rw [hnn] at c1 HSAY
    rw [hss] at c2 HSAY
    obtain ⟨N, hN⟩ : ∃ N, vs.length = N := ⟨_, rfl⟩
    rw [hN] at hi h80 HV HCV ⊢
    have hiN : (i : Int) < (N : Int) := by omega
    have hM80 : M ≤ 80 := hkf.2.1
    have HOK := hideIt hok
    have HMM := hideIt hM
    have HNN := hideIt hN
    clear hcv hcv' hnd hkc hic hkf hM hMK hkd hnn hss hN hok HTR
    obtain ⟨named, hnm⟩ : ∃ named : Bool, decide (kd = 6) = named := ⟨_, rfl⟩
    have hkey : named = true → MK = M ∧ ∀ j, j < MK → (keyAt (nodeAt vs i).keys j).size ≤ 60 := fun hn => by
      have k6 : kd = 6 := by rw [hn] at hnm; simpa using hnm
      rcases HSAY.out with k | ⟨k, q1, q2⟩ | ⟨k, q1, q2⟩ | ⟨k, q1⟩ | k | ⟨k, q1, q2⟩
      · omega
      · omega
      · omega
      · omega
      · omega
      · exact ⟨q1, q2⟩
    rw [hnm] at HLE ⊢
    have HKEY := hideIt hkey
    clear hkey HSAY
    obtain ⟨T, hT⟩ : ∃ T, ((nodeAt vs i).kids.map fun k => treeOf vs f k.toNat) = T := ⟨_, rfl⟩
    have HTT : Hid (∀ k, k < M → kidT T k = treeOf vs f (intAt (nodeAt vs i).kids k).toNat) := fun k hk => by rw [← hT, kidT_map (by rw [HMM.out]; exact hk)]
    rw [hT] at HLE ⊢
    clear hT
    obtain ⟨KS, hKS⟩ : ∃ KS, (nodeAt vs i).keys = KS := ⟨_, rfl⟩
    rw [hKS] at HLE HKEY HKC ⊢
    clear hKS
    have hmg : (marg deep).size ≤ 200 := by rw [marg_size]; omega
    have hmn := marg_next deep
    obtain ⟨mg, hmg2⟩ : ∃ mg, marg deep = mg := ⟨_, rfl⟩
    have HMG : Hid (mg = txt (List.replicate (2 * deep) 32)) := by rw [Hid, ← hmg2]; rfl
    rw [hmg2] at hmn hmg ⊢
    clear hmg2
    have HMN := hideIt hmn
    clear hmn
    have HLM : Hid (∀ k, k ≤ M → (blkY (blockY f (2 * deep + 2)) named (2 * deep) KS T k).length ≤ 96000) := fun k hk => Nat.le_trans (blkY_mono _ _ _ _ _ hk) HLE.out
    clear HLE
    obtain ⟨W1, hW1⟩ : ∃ W1, w.alloc (.cells #[.int .i64 kd, .int .i64 nn, .string ss, .slice aK MK cK, .slice aI M cI] 73) = W1 := ⟨_, rfl⟩
    have HX0 : Hid (W1.cell? ⟨w.heap.size, 0, none⟩ = some (.int .i64 kd)) := by rw [Hid, ← hW1]; simp
    have HX3 : Hid (W1.cell? ⟨w.heap.size, 3, none⟩ = some (.slice aK MK cK)) := by rw [Hid, ← hW1]; simp
    have HX4 : Hid (W1.cell? ⟨w.heap.size, 4, none⟩ = some (.slice aI M cI)) := by rw [Hid, ← hW1]; simp
    have HBX : Hid (Below w.heap.size w W1) := by rw [Hid, ← hW1]; exact (Below.refl _ _).alloc (Nat.le_refl _) _
    have HZX : Hid (W1.heap.size = w.heap.size + 1) := by rw [Hid, ← hW1]; simp
    have HW1 := hideIt hW1
    clear hW1
    have HIH : Hid (∀ (q : Nat) W, Below w.heap.size w W → q < i → q < N → Calls Tryz.prog 83 #[.slice (some ⟨bv, ov, none⟩) N cap, .int .i64 q, .string (mg ++ ⟨#[32, 32]⟩)] W fun e w' => e = .returned (.string (txt (blockY f (2 * deep + 2) (treeOf vs f q)))) ∧ Below W.heap.size W w') := fun q W hb hqi hq => by
      have := ih _ q (deep + 1) W (by have := HV.out.below (hb.mono hB); exact this) (Nat.le_trans hB hb.size) (by omega) (by rw [HNN.out]; omega) (by omega)
      rw [HMN.out]
      exact this
    have HQL : Hid (∀ q : Nat, q < i → q < N → (txt (blockY f (2 * deep + 2) (treeOf vs f q))).size ≤ 96000) := fun q hqi hq => by
      rw [txt_size]
      exact blockY_96k HOK.out (deep := deep + 1) (by rw [HNN.out]; omega) (by omega) (by omega)
    have HFL : Hid (∀ q : Nat, q < i → q < N → (kidsY (treeOf vs f q)).length = 0 → (txt (flatY (treeOf vs f q))).size ≤ 96000) := fun q hqi hq h0 => by
      rw [txt_size]
      exact flatY_96k HOK.out (by rw [HNN.out]; omega) (by omega) (by omega) h0
    clear ih
    cases named
    · have hk6 : ¬ kd = 6 := by simpa using hnm
      have hk6' : (kd == 6) = false := by simpa using hk6
      go_enter Tryz.func83, Tryz.ntmps83
      go_wp2_with fail
      rw [HW1.out]
      go_loopw [8, 9, 10, 53] (fun o i _ _ wr => ∃ k : Nat, k ≤ M ∧ i = .int .i64 k ∧ o = .string (txt (blkY (blockY f (2 * deep + 2)) false (2 * deep) KS T k)) ∧ Below (w.heap.size + 1) W1 wr) (fun _ i _ _ _ => M - (intOf i).toNat)
      case atStart => exact ⟨0, Nat.zero_le _, rfl, rfl, Below.refl _ _⟩
      case round =>
        obtain ⟨k, hk, rfl, rfl, hbr⟩ := hrel
        have HBR := hideIt hbr
        have HBW := hideIt (HBX.out.trans (hbr.mono (by omega)))
        have zr : w.heap.size + 1 ≤ wr.heap.size := by have := hbr.size; rw [HZX.out] at this; exact this
        have x0 := (below_cell hbr (show w.heap.size < w.heap.size + 1 by omega)).trans HX0.out
        have x3 := (below_cell hbr (show w.heap.size < w.heap.size + 1 by omega)).trans HX3.out
        have x4 := (below_cell hbr (show w.heap.size < w.heap.size + 1 by omega)).trans HX4.out
        have hlm := HLM.out k hk
        have HPJ : Hid (blkY (blockY f (2 * deep + 2)) false (2 * deep) KS T (k + 1) = blkY (blockY f (2 * deep + 2)) false (2 * deep) KS T k ++ (List.replicate (2 * deep) 32 ++ (headY false (keyAt KS k) ++ tailY (blockY f (2 * deep + 2)) (kidT T k)))) := rfl
        obtain ⟨o, ho⟩ : ∃ o, blkY (blockY f (2 * deep + 2)) false (2 * deep) KS T k = o := ⟨_, rfl⟩
        rw [ho] at hlm HPJ ⊢
        have HO := hideIt ho
        have hzo : (txt o).size ≤ 96000 := by rw [txt_size]; exact hlm
        clear ho hbr
        by_cases hlt : k < M
        · have hlt' : (k : Int) < (M : Int) := by omega
          obtain ⟨bi, oi, eai, hbi, hci⟩ := HIC.out (by omega)
          have hki := kidsIn_get HKIN.out (j := k) (by rw [HMM.out]; exact hlt)
          obtain ⟨q, hq⟩ : ∃ q : Nat, intAt (nodeAt vs i).kids k = (q : Int) := ⟨(intAt (nodeAt vs i).kids k).toNat, by omega⟩
          have ci := (below_cell (HBW.out.mono hB) hbi).trans (hci k hlt)
          have CI := hideIt (hci k hlt)
          rw [hq] at ci CI hki
          have hqN : q < N := by omega
          have hqN' : (q : Int) < (N : Int) := by omega
          have hqi : q < i := by omega
          have HKT : Hid (kidT T k = treeOf vs f q) := by rw [Hid, HTT.out k hlt, hq, Int.toNat_natCast]
          rw [HKT.out] at HPJ
          clear hci hq hki
          subst eai
          obtain ⟨ka2, ki2, hn2⟩ := HCV.out q hqN
          have d0 := (below_cell (HBW.out.mono hB) hbv).trans hn2.c0
          have d1 := (below_cell (HBW.out.mono hB) hbv).trans hn2.c1
          have d2 := (below_cell (HBW.out.mono hB) hbv).trans hn2.c2
          have d3 := (below_cell (HBW.out.mono hB) hbv).trans hn2.c3
          have d4 := (below_cell (HBW.out.mono hB) hbv).trans hn2.c4
          obtain ⟨_, _, aK2, cK2, eK2, _⟩ := hn2.inn.keys
          obtain ⟨_, _, aI2, cI2, eI2, _⟩ := hn2.inn.kids
          subst eK2 eI2
          have HSY2 := hideIt (node_says HOK.out (i := q) (by rw [HNN.out]; exact hqN))
          have hf1 : 1 ≤ f := by omega
          obtain ⟨g, hg⟩ : ∃ g, f = g + 1 := ⟨f - 1, by omega⟩
          have HTQ : Hid (treeOf vs f q = .mk (nodeAt vs q).kind (nodeAt vs q).n (nodeAt vs q).s (nodeAt vs q).keys ((nodeAt vs q).kids.map fun k => treeOf vs g k.toNat)) := by rw [Hid, hg]; rfl
          obtain ⟨M2, hM2⟩ : ∃ M2, (nodeAt vs q).kids.length = M2 := ⟨_, rfl⟩
          have HK2 : Hid ((kidsY (treeOf vs f q)).length = M2) := by rw [Hid, HTQ.out]; show (List.map _ _).length = M2; rw [List.length_map, hM2]
          obtain ⟨MK2, hMK2⟩ : ∃ MK2, (nodeAt vs q).keys.length = MK2 := ⟨_, rfl⟩
          obtain ⟨k2, hk2⟩ : ∃ k2, (nodeAt vs q).kind = k2 := ⟨_, rfl⟩
          obtain ⟨n2, hnn2⟩ : ∃ n2, (nodeAt vs q).n = n2 := ⟨_, rfl⟩
          obtain ⟨s2, hs2⟩ : ∃ s2, (nodeAt vs q).s = s2 := ⟨_, rfl⟩
          have HFT : Hid (M2 = 0 → treeOf vs f q = .mk k2 n2 s2 (nodeAt vs q).keys []) := fun h0 => by
            have e : (nodeAt vs q).kids = [] := List.eq_nil_of_length_eq_zero (by rw [hM2]; exact h0)
            rw [HTQ.out, e, hk2, hnn2, hs2]; rfl
          rw [hM2] at d4 HSY2
          rw [hMK2] at d3 HSY2
          rw [hk2] at d0 HSY2
          rw [hnn2] at d1 HSY2
          rw [hs2] at d2 HSY2
          have HQQ := hideIt (HFL.out q hqi hqN)
          have HQB := HQL.out q hqi hqN
          have HIHQ := hideIt (fun W hb => HIH.out q W hb hqi hqN)
          clear hn2 hg hM2 hMK2 hk2 hnn2 hs2 HTQ
          rcases Nat.eq_zero_or_pos M2 with hz | hz
          · subst hz
            have HKZ : Hid ((kidsY (treeOf vs f q)).length = 0) := by rw [Hid, HK2.out]
            have HTL : Hid (tailY (blockY f (2 * deep + 2)) (treeOf vs f q) = 32 :: (flatY (treeOf vs f q) ++ [10])) := by rw [Hid]; unfold tailY; rw [if_pos HKZ.out]
            have hrz := HQQ.out HKZ.out
            have HFC := hideIt (fun W => l5Flat_any k2 n2 s2 (.slice aK2 MK2 cK2) (.slice aI2 0 cI2) (nodeAt vs q).keys W (by
              rcases HSY2.out with k | ⟨k, q1, q2⟩ | ⟨k, q1, q2⟩ | ⟨k, q1⟩ | k | ⟨k, q1, q2⟩
              · exact .inl k
              · exact .inr (.inl ⟨k, q1, q2⟩)
              · exact .inr (.inr (.inl ⟨k, q1, q2⟩))
              · exact .inr (.inr (.inr (.inl ⟨k, q1⟩)))
              · exact .inr (.inr (.inr (.inr (.inl k))))
              · exact .inr (.inr (.inr (.inr (.inr k))))))
            simp only [← HFT.out rfl] at HFC
            obtain ⟨r, hr⟩ : ∃ r, flatY (treeOf vs f q) = r := ⟨_, rfl⟩
            rw [hr] at HTL hrz
            simp only [hr] at HFC
            clear hr
            rw [HTL.out] at HPJ
            go_wp2_with fail
            refine (HFC.out _).mono ?_
            rintro e w3 ⟨rfl, hb3⟩
            have HB5 := hideIt (HBR.out.trans (((Below.refl _ _).alloc (Nat.le_refl _) _).trans (hb3.mono (by simp)) |>.mono zr))
            clear hb3
            go_wp2_with fail
            refine ⟨⟨k + 1, by omega, by go_num, ?_, HB5.out⟩, by simp [intOf]; omega⟩
            rw [HPJ.out]
            refine str_txt ?_
            rw [HMG.out]
            simp only [app_txt, bytes_txt]
            congr 1
            simp [headY]
          · have hz' : (0 : Int) < (M2 : Int) := by omega
            have HTL : Hid (tailY (blockY f (2 * deep + 2)) (treeOf vs f q) = 10 :: blockY f (2 * deep + 2) (treeOf vs f q)) := by rw [Hid]; unfold tailY; rw [if_neg (by rw [HK2.out]; omega)]
            obtain ⟨r, hr⟩ : ∃ r, blockY f (2 * deep + 2) (treeOf vs f q) = r := ⟨_, rfl⟩
            rw [hr] at HTL HQB
            simp only [hr] at HIHQ
            clear hr
            rw [HTL.out] at HPJ
            obtain ⟨W3, hW3⟩ : ∃ W3, wr.alloc (.cells #[.int .i64 k2, .int .i64 n2, .string s2, .slice aK2 MK2 cK2, .slice aI2 M2 cI2] 73) = W3 := ⟨_, rfl⟩
            have HB3 : Hid (Below wr.heap.size wr W3) := by rw [Hid, ← hW3]; exact (Below.refl _ _).alloc (Nat.le_refl _) _
            have t4 : W3.cell? ⟨wr.heap.size, 4, none⟩ = some (.slice aI2 M2 cI2) := by rw [← hW3]; simp
            have s4 := (below_cell HB3.out (show w.heap.size < wr.heap.size by omega)).trans x4
            have s5 := (below_cell HB3.out (show bi < wr.heap.size by omega)).trans ci
            have HBW3 := hideIt (HBW.out.trans (HB3.out.mono (by omega)))
            have HBR3 := hideIt (HBR.out.trans (HB3.out.mono zr))
            have z3 := HB3.out.size
            go_wp2_with fail
            refine (HIHQ.out W3 HBW3.out).mono ?_
            rintro e w3 ⟨rfl, hb3⟩
            have HB5 := hideIt (HBR3.out.trans (hb3.mono (by omega)))
            clear hb3
            go_wp2_with fail
            refine ⟨⟨k + 1, by omega, by go_num, ?_, HB5.out⟩, by simp [intOf]; omega⟩
            rw [HPJ.out]
            refine str_txt ?_
            rw [HMG.out]
            simp only [app_txt, bytes_txt]
            congr 1
            simp [headY]
        · obtain rfl : k = M := by omega
          clear HKC HIC HCV
          go_wp2_with fail
          go_ret
          exact ⟨by rw [HO.out]; rfl, HBW.out⟩
    · obtain rfl : kd = 6 := by simpa using hnm
      go_enter Tryz.func83, Tryz.ntmps83
      go_wp2_with fail
      rw [HW1.out]
      go_loopw [8, 9, 10, 53] (fun o i _ _ wr => ∃ k : Nat, k ≤ M ∧ i = .int .i64 k ∧ o = .string (txt (blkY (blockY f (2 * deep + 2)) true (2 * deep) KS T k)) ∧ Below (w.heap.size + 1) W1 wr) (fun _ i _ _ _ => M - (intOf i).toNat)
      case atStart => exact ⟨0, Nat.zero_le _, rfl, rfl, Below.refl _ _⟩
      case round =>
        obtain ⟨k, hk, rfl, rfl, hbr⟩ := hrel
        have HBR := hideIt hbr
        have HBW := hideIt (HBX.out.trans (hbr.mono (by omega)))
        have zr : w.heap.size + 1 ≤ wr.heap.size := by have := hbr.size; rw [HZX.out] at this; exact this
        have x0 := (below_cell hbr (show w.heap.size < w.heap.size + 1 by omega)).trans HX0.out
        have x3 := (below_cell hbr (show w.heap.size < w.heap.size + 1 by omega)).trans HX3.out
        have x4 := (below_cell hbr (show w.heap.size < w.heap.size + 1 by omega)).trans HX4.out
        have hlm := HLM.out k hk
        have HPJ : Hid (blkY (blockY f (2 * deep + 2)) true (2 * deep) KS T (k + 1) = blkY (blockY f (2 * deep + 2)) true (2 * deep) KS T k ++ (List.replicate (2 * deep) 32 ++ (headY true (keyAt KS k) ++ tailY (blockY f (2 * deep + 2)) (kidT T k)))) := rfl
        obtain ⟨o, ho⟩ : ∃ o, blkY (blockY f (2 * deep + 2)) true (2 * deep) KS T k = o := ⟨_, rfl⟩
        rw [ho] at hlm HPJ ⊢
        have HO := hideIt ho
        have hzo : (txt o).size ≤ 96000 := by rw [txt_size]; exact hlm
        clear ho hbr
        by_cases hlt : k < M
        · have hlt' : (k : Int) < (M : Int) := by omega
          obtain ⟨bi, oi, eai, hbi, hci⟩ := HIC.out (by omega)
          have hki := kidsIn_get HKIN.out (j := k) (by rw [HMM.out]; exact hlt)
          obtain ⟨q, hq⟩ : ∃ q : Nat, intAt (nodeAt vs i).kids k = (q : Int) := ⟨(intAt (nodeAt vs i).kids k).toNat, by omega⟩
          have ci := (below_cell (HBW.out.mono hB) hbi).trans (hci k hlt)
          have CI := hideIt (hci k hlt)
          rw [hq] at ci CI hki
          have hqN : q < N := by omega
          have hqN' : (q : Int) < (N : Int) := by omega
          have hqi : q < i := by omega
          have HKT : Hid (kidT T k = treeOf vs f q) := by rw [Hid, HTT.out k hlt, hq, Int.toNat_natCast]
          rw [HKT.out] at HPJ
          clear hci hq hki
          subst eai
          obtain ⟨hMM, hks6⟩ := HKEY.out (by first | rfl | trivial)
          obtain ⟨bk, ok, eak, hbk, hck⟩ := HKC.out (by omega)
          have ck := (below_cell (HBW.out.mono hB) hbk).trans (hck k (by omega))
          have hkz := hks6 k (by omega)
          have hMK' : (k : Int) < (MK : Int) := by omega
          subst eak
          obtain ⟨key, hkk⟩ : ∃ key, keyAt KS k = key := ⟨_, rfl⟩
          rw [hkk] at ck hkz HPJ
          clear hkk hck hks6 hMM
          have hwz : (txt (wordY key)).size ≤ 400 := by rw [txt_size]; have := wordY_len key; have := (quoT_len key).2; omega
          obtain ⟨ka2, ki2, hn2⟩ := HCV.out q hqN
          have d0 := (below_cell (HBW.out.mono hB) hbv).trans hn2.c0
          have d1 := (below_cell (HBW.out.mono hB) hbv).trans hn2.c1
          have d2 := (below_cell (HBW.out.mono hB) hbv).trans hn2.c2
          have d3 := (below_cell (HBW.out.mono hB) hbv).trans hn2.c3
          have d4 := (below_cell (HBW.out.mono hB) hbv).trans hn2.c4
          obtain ⟨_, _, aK2, cK2, eK2, _⟩ := hn2.inn.keys
          obtain ⟨_, _, aI2, cI2, eI2, _⟩ := hn2.inn.kids
          subst eK2 eI2
          have HSY2 := hideIt (node_says HOK.out (i := q) (by rw [HNN.out]; exact hqN))
          have hf1 : 1 ≤ f := by omega
          obtain ⟨g, hg⟩ : ∃ g, f = g + 1 := ⟨f - 1, by omega⟩
          have HTQ : Hid (treeOf vs f q = .mk (nodeAt vs q).kind (nodeAt vs q).n (nodeAt vs q).s (nodeAt vs q).keys ((nodeAt vs q).kids.map fun k => treeOf vs g k.toNat)) := by rw [Hid, hg]; rfl
          obtain ⟨M2, hM2⟩ : ∃ M2, (nodeAt vs q).kids.length = M2 := ⟨_, rfl⟩
          have HK2 : Hid ((kidsY (treeOf vs f q)).length = M2) := by rw [Hid, HTQ.out]; show (List.map _ _).length = M2; rw [List.length_map, hM2]
          obtain ⟨MK2, hMK2⟩ : ∃ MK2, (nodeAt vs q).keys.length = MK2 := ⟨_, rfl⟩
          obtain ⟨k2, hk2⟩ : ∃ k2, (nodeAt vs q).kind = k2 := ⟨_, rfl⟩
          obtain ⟨n2, hnn2⟩ : ∃ n2, (nodeAt vs q).n = n2 := ⟨_, rfl⟩
          obtain ⟨s2, hs2⟩ : ∃ s2, (nodeAt vs q).s = s2 := ⟨_, rfl⟩
          have HFT : Hid (M2 = 0 → treeOf vs f q = .mk k2 n2 s2 (nodeAt vs q).keys []) := fun h0 => by
            have e : (nodeAt vs q).kids = [] := List.eq_nil_of_length_eq_zero (by rw [hM2]; exact h0)
            rw [HTQ.out, e, hk2, hnn2, hs2]; rfl
          rw [hM2] at d4 HSY2
          rw [hMK2] at d3 HSY2
          rw [hk2] at d0 HSY2
          rw [hnn2] at d1 HSY2
          rw [hs2] at d2 HSY2
          have HQQ := hideIt (HFL.out q hqi hqN)
          have HQB := HQL.out q hqi hqN
          have HIHQ := hideIt (fun W hb => HIH.out q W hb hqi hqN)
          clear hn2 hg hM2 hMK2 hk2 hnn2 hs2 HTQ
          rcases Nat.eq_zero_or_pos M2 with hz | hz
          · subst hz
            have HKZ : Hid ((kidsY (treeOf vs f q)).length = 0) := by rw [Hid, HK2.out]
            have HTL : Hid (tailY (blockY f (2 * deep + 2)) (treeOf vs f q) = 32 :: (flatY (treeOf vs f q) ++ [10])) := by rw [Hid]; unfold tailY; rw [if_pos HKZ.out]
            have hrz := HQQ.out HKZ.out
            have HFC := hideIt (fun W => l5Flat_any k2 n2 s2 (.slice aK2 MK2 cK2) (.slice aI2 0 cI2) (nodeAt vs q).keys W (by
              rcases HSY2.out with k | ⟨k, q1, q2⟩ | ⟨k, q1, q2⟩ | ⟨k, q1⟩ | k | ⟨k, q1, q2⟩
              · exact .inl k
              · exact .inr (.inl ⟨k, q1, q2⟩)
              · exact .inr (.inr (.inl ⟨k, q1, q2⟩))
              · exact .inr (.inr (.inr (.inl ⟨k, q1⟩)))
              · exact .inr (.inr (.inr (.inr (.inl k))))
              · exact .inr (.inr (.inr (.inr (.inr k))))))
            simp only [← HFT.out rfl] at HFC
            obtain ⟨r, hr⟩ : ∃ r, flatY (treeOf vs f q) = r := ⟨_, rfl⟩
            rw [hr] at HTL hrz
            simp only [hr] at HFC
            clear hr
            rw [HTL.out] at HPJ
            go_wp2_with fail
            refine (l5Word_any key _ hkz).mono ?_
            rintro e w2 ⟨rfl, hb2⟩
            have HB2 := hideIt (HBW.out.trans (hb2.mono (by omega)))
            have HR2 := hideIt (HBR.out.trans (hb2.mono zr))
            have z2 := HB2.out.size
            have z2' : w.heap.size + 1 ≤ w2.heap.size := by have := hb2.size; omega
            have y0 := (below_cell hb2 (show w.heap.size < wr.heap.size by omega)).trans x0
            have y3 := (below_cell hb2 (show w.heap.size < wr.heap.size by omega)).trans x3
            have y4 := (below_cell hb2 (show w.heap.size < wr.heap.size by omega)).trans x4
            have zz : B ≤ wr.heap.size := by omega
            have u0 := (below_cell hb2 (show bv < wr.heap.size by omega)).trans d0
            have u1 := (below_cell hb2 (show bv < wr.heap.size by omega)).trans d1
            have u2 := (below_cell hb2 (show bv < wr.heap.size by omega)).trans d2
            have u3 := (below_cell hb2 (show bv < wr.heap.size by omega)).trans d3
            have u4 := (below_cell hb2 (show bv < wr.heap.size by omega)).trans d4
            have v5 := (below_cell hb2 (show bi < wr.heap.size by omega)).trans ci
            clear hb2
            go_wp2_with fail
            refine (HFC.out _).mono ?_
            rintro e w3 ⟨rfl, hb3⟩
            have HB5 := hideIt (HR2.out.trans (((Below.refl _ _).alloc (Nat.le_refl _) _).trans (hb3.mono (by simp)) |>.mono z2'))
            clear hb3
            go_wp2_with fail
            refine ⟨⟨k + 1, by omega, by go_num, ?_, HB5.out⟩, by simp [intOf]; omega⟩
            rw [HPJ.out]
            refine str_txt ?_
            rw [HMG.out]
            simp only [app_txt, bytes_txt]
            congr 1
            simp [headY]
          · have hz' : (0 : Int) < (M2 : Int) := by omega
            have HTL : Hid (tailY (blockY f (2 * deep + 2)) (treeOf vs f q) = 10 :: blockY f (2 * deep + 2) (treeOf vs f q)) := by rw [Hid]; unfold tailY; rw [if_neg (by rw [HK2.out]; omega)]
            obtain ⟨r, hr⟩ : ∃ r, blockY f (2 * deep + 2) (treeOf vs f q) = r := ⟨_, rfl⟩
            rw [hr] at HTL HQB
            simp only [hr] at HIHQ
            clear hr
            rw [HTL.out] at HPJ
            go_wp2_with fail
            refine (l5Word_any key _ hkz).mono ?_
            rintro e w2 ⟨rfl, hb2⟩
            have HB2 := hideIt (HBW.out.trans (hb2.mono (by omega)))
            have HR2 := hideIt (HBR.out.trans (hb2.mono zr))
            have z2 := HB2.out.size
            have z2' : w.heap.size + 1 ≤ w2.heap.size := by have := hb2.size; omega
            have y0 := (below_cell hb2 (show w.heap.size < wr.heap.size by omega)).trans x0
            have y3 := (below_cell hb2 (show w.heap.size < wr.heap.size by omega)).trans x3
            have y4 := (below_cell hb2 (show w.heap.size < wr.heap.size by omega)).trans x4
            have zz : B ≤ wr.heap.size := by omega
            have u0 := (below_cell hb2 (show bv < wr.heap.size by omega)).trans d0
            have u1 := (below_cell hb2 (show bv < wr.heap.size by omega)).trans d1
            have u2 := (below_cell hb2 (show bv < wr.heap.size by omega)).trans d2
            have u3 := (below_cell hb2 (show bv < wr.heap.size by omega)).trans d3
            have u4 := (below_cell hb2 (show bv < wr.heap.size by omega)).trans d4
            have v5 := (below_cell hb2 (show bi < wr.heap.size by omega)).trans ci
            clear hb2
            obtain ⟨W3, hW3⟩ : ∃ W3, w2.alloc (.cells #[.int .i64 k2, .int .i64 n2, .string s2, .slice aK2 MK2 cK2, .slice aI2 M2 cI2] 73) = W3 := ⟨_, rfl⟩
            have HB3 : Hid (Below w2.heap.size w2 W3) := by rw [Hid, ← hW3]; exact (Below.refl _ _).alloc (Nat.le_refl _) _
            have t4 : W3.cell? ⟨w2.heap.size, 4, none⟩ = some (.slice aI2 M2 cI2) := by rw [← hW3]; simp
            have s4 := (below_cell HB3.out (show w.heap.size < w2.heap.size by omega)).trans y4
            have s5 := (below_cell HB3.out (show bi < w2.heap.size by omega)).trans v5
            have HBW3 := hideIt (HB2.out.trans (HB3.out.mono (by omega)))
            have HBR3 := hideIt (HR2.out.trans (HB3.out.mono z2'))
            have z3 := HB3.out.size
            go_wp2_with fail
            refine (HIHQ.out W3 HBW3.out).mono ?_
            rintro e w3 ⟨rfl, hb3⟩
            have HB5 := hideIt (HBR3.out.trans (hb3.mono (by omega)))
            clear hb3
            go_wp2_with fail
            refine ⟨⟨k + 1, by omega, by go_num, ?_, HB5.out⟩, by simp [intOf]; omega⟩
            rw [HPJ.out]
            refine str_txt ?_
            rw [HMG.out]
            simp only [app_txt, bytes_txt]
            congr 1
            simp [headY]
        · obtain rfl : k = M := by omega
          clear HKC HIC HCV
          go_wp2_with fail
          go_ret
          exact ⟨by rw [HO.out]; rfl, HBW.out⟩
end Go.Proofs.YtiamkmkbkehldaaGreatDoor
