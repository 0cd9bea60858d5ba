/-
  The specification's YamlText.
-/
import Derived.Test.YtiamkmkbkehldaaGreatDoorSYt
import Derived.Test.YtiamkmkbkehldaaGreatDoorSpc3
namespace Go.Proofs.YtiamkmkbkehldaaGreatDoor
open Go.RowKit Go.WideShapes
set_option linter.unusedSimpArgs false
set_option linter.unusedVariables false

def yamlV (vs : List VN) : List UInt8 := if okB vs = true then yamlT vs.length (treeOf vs vs.length (vs.length - 1)) else []
theorem yamlV_yes {vs : List VN} (h : okB vs = true) : yamlV vs = yamlT vs.length (treeOf vs vs.length (vs.length - 1)) := by unfold yamlV; rw [if_pos h]
theorem yamlV_no {vs : List VN} (h : okB vs = false) : yamlV vs = [] := by unfold yamlV; rw [h]; rfl

set_option maxRecDepth 100000 in
set_option maxHeartbeats 3200000 in
theorem l5Yaml_any (B : Nat) (v : Value) (vs : List VN) (w : World) (h : NodesAt B w v vs) (hB : B ≤ w.heap.size) (hok : okB vs = true) :
    Calls Tryz.prog 41 #[v] w fun e w' => e = .returned (.string (txt (yamlT vs.length (treeOf vs vs.length (vs.length - 1))))) ∧ Below w.heap.size w w' := by
  have HV := hideIt h
  obtain ⟨p1, _⟩ := okB_parts hok
  obtain ⟨hl, a, cap, rfl, hcv⟩ := h
  obtain ⟨bv, ov, rfl, hbv, hcv'⟩ := hcv (by omega)
  obtain ⟨q, hq⟩ : ∃ q, vs.length - 1 = q := ⟨_, rfl⟩
  have hqN : q < vs.length := by omega
  have HBL := hideIt (l5Block_any B vs hok vs.length _ q 0 w HV.out hB (by omega) hqN (by omega))
  have HFB := hideIt (flatY_96k hok (f := vs.length) (i := q) hqN (by omega) (by omega))
  obtain ⟨ka2, ki2, hn2⟩ := hcv' q hqN
  have d0 := hn2.c0
  have d1 := hn2.c1
  have d2 := hn2.c2
  have d3 := hn2.c3
  have d4 := hn2.c4
  obtain ⟨g1, g2, aK2, cK2, eK2, g3⟩ := hn2.inn.keys
  obtain ⟨g4, g5, aI2, cI2, eI2, g6⟩ := hn2.inn.kids
  clear g1 g2 g3 g4 g5 g6
  subst eK2 eI2
  have HSY2 := hideIt (node_says hok hqN)
  obtain ⟨g, hg⟩ : ∃ g, vs.length = g + 1 := ⟨vs.length - 1, by omega⟩
  have HTQ : Hid (treeOf vs vs.length q = .mk (nodeAt vs q).kind (nodeAt vs q).n (nodeAt vs q).s (nodeAt vs q).keys ((nodeAt vs q).kids.map fun k => treeOf vs g k.toNat)) := by rw [Hid, hg]; rfl
  obtain ⟨M2, hM2⟩ : ∃ M2, (nodeAt vs q).kids.length = M2 := ⟨_, rfl⟩
  have HK2 : Hid ((kidsY (treeOf vs vs.length q)).length = M2) := by rw [Hid, HTQ.out]; show (List.map _ _).length = M2; rw [List.length_map, hM2]
  obtain ⟨MK2, hMK2⟩ : ∃ MK2, (nodeAt vs q).keys.length = MK2 := ⟨_, rfl⟩
  obtain ⟨k2, hk2⟩ : ∃ k2, (nodeAt vs q).kind = k2 := ⟨_, rfl⟩
  obtain ⟨n2, hnn2⟩ : ∃ n2, (nodeAt vs q).n = n2 := ⟨_, rfl⟩
  obtain ⟨s2, hs2⟩ : ∃ s2, (nodeAt vs q).s = s2 := ⟨_, rfl⟩
  have HFT : Hid (M2 = 0 → treeOf vs vs.length q = .mk k2 n2 s2 (nodeAt vs q).keys []) := fun h0 => by
    have e : (nodeAt vs q).kids = [] := List.eq_nil_of_length_eq_zero (by rw [hM2]; exact h0)
    rw [HTQ.out, e, hk2, hnn2, hs2]; rfl
  rw [hM2] at d4 HSY2
  rw [hMK2] at d3 HSY2
  rw [hk2] at d0 HSY2
  rw [hnn2] at d1 HSY2
  rw [hs2] at d2 HSY2
  rw [hq]
  obtain ⟨N, hN⟩ : ∃ N, vs.length = N := ⟨_, rfl⟩
  have e1 : (N : Int) - 1 = (q : Int) := by omega
  rw [hN] at HBL HFB HK2 HFT hqN ⊢
  have hqN' : (q : Int) < (N : Int) := by omega
  have hq80 : (q : Int) ≤ 80 := by omega
  have HEE := hideIt e1
  clear hcv hcv' hn2 hg hM2 hMK2 hk2 hnn2 hs2 HTQ hq hN p1
  rcases Nat.eq_zero_or_pos M2 with hz | hz
  · subst hz
    have hrz := HFB.out HK2.out
    have HYT : Hid (yamlT N (treeOf vs N q) = flatY (treeOf vs N q) ++ [10]) := by rw [Hid]; unfold yamlT; rw [if_pos HK2.out]
    have HFC := hideIt (fun W => l5Flat_any k2 n2 s2 (.slice aK2 MK2 cK2) (.slice aI2 0 cI2) (nodeAt vs q).keys W (by
      rcases HSY2.out with k | ⟨k, q1, q2⟩ | ⟨k, q1, q2⟩ | ⟨k, q1⟩ | k | ⟨k, q1, q2⟩
      · exact .inl k
      · exact .inr (.inl ⟨k, q1, q2⟩)
      · exact .inr (.inr (.inl ⟨k, q1, q2⟩))
      · exact .inr (.inr (.inr (.inl ⟨k, q1⟩)))
      · exact .inr (.inr (.inr (.inr (.inl k))))
      · exact .inr (.inr (.inr (.inr (.inr k))))))
    simp only [← HFT.out rfl] at HFC
    obtain ⟨r, hr⟩ : ∃ r, flatY (treeOf vs N q) = r := ⟨_, rfl⟩
    rw [hr] at HYT hrz
    simp only [hr] at HFC
    have hrz' : (txt r).size ≤ 96000 := by rw [txt_size]; exact hrz
    clear hr hrz
    rw [HYT.out]
    go_enter Tryz.func41, Tryz.ntmps41
    go_wp2_with fail
    refine (HFC.out _).mono ?_
    rintro e w3 ⟨rfl, hb3⟩
    have HB3 := hideIt hb3
    clear hb3
    go_wp2_with fail
    go_ret
    refine ⟨ret_str ?_, HB3.out⟩
    simp only [app_txt]
  · have hz' : ¬ (M2 : Int) = 0 := by omega
    have hzb : ((M2 : Int) == 0) = false := by simp; omega
    have HYT : Hid (yamlT N (treeOf vs N q) = blockY N 0 (treeOf vs N q)) := by rw [Hid]; unfold yamlT; rw [if_neg (by rw [HK2.out]; omega)]
    rw [HYT.out]
    have em : marg 0 = ⟨#[]⟩ := rfl
    rw [em] at HBL
    go_enter Tryz.func41, Tryz.ntmps41
    go_wp2_with fail
    refine HBL.out.mono ?_
    rintro e w3 ⟨rfl, hb3⟩
    have HB3 := hideIt hb3
    clear hb3
    go_wp2_with fail
    go_ret
    exact ⟨rfl, HB3.out⟩

set_option maxRecDepth 100000 in
set_option maxHeartbeats 1600000 in
theorem specYaml_any (B : Nat) (v : Value) (vs : List VN) (w : World) (h : NodesAt B w v vs) (hB : B ≤ w.heap.size) :
    Calls Tryz.prog 11 #[v] w fun e w' => e = .returned (.string (txt (yamlV vs))) ∧ Below w.heap.size w w' := by
  have HV := hideIt h
  obtain ⟨_, a, cap, rfl, _⟩ := h
  go_enter Tryz.func11, Tryz.ntmps11
  go_wp2_with fail
  refine (specOk_any B _ vs _ HV.out hB).mono ?_
  rintro e w1 ⟨rfl, hb1⟩
  have z1 := hb1.size
  cases ok1 : okB vs
  · have HP := hideIt (yamlV_no ok1)
    go_wp2_with fail
    go_ret
    exact ⟨by rw [HP.out]; rfl, hb1⟩
  · have HP := hideIt (yamlV_yes ok1)
    have HTX := hideIt (l5Yaml_any B _ vs w1 (HV.out.below (hb1.mono hB)) (by omega) ok1)
    have HB1 := hideIt hb1
    clear hb1
    go_wp2_with fail
    refine HTX.out.mono ?_
    rintro e w2 ⟨rfl, hb2⟩
    have HB2 := hideIt (HB1.out.trans (hb2.mono z1))
    clear hb2
    go_wp2_with fail
    go_ret
    exact ⟨by rw [HP.out]; rfl, HB2.out⟩
end Go.Proofs.YtiamkmkbkehldaaGreatDoor
