/-
  The specification's YamlText.
-/
import Derived.Test.YtiamkmkbkehldaaGreatDoorSYt
import Derived.Test.YtiamkmkbkehldaaGreatDoorSpc3
import Derived.Test.YtiamkmkbkehldaaGreatDoorIYc
import Derived.Laws.EntriesVeiled
import Derived.Test.YtiamkmkbkehldaaGreatDoorOrdZ
import Derived.Test.YtiamkmkbkehldaaGreatDoorSame
import Derived.Test.YtiamkmkbkehldaaGreatDoorYiP
import Derived.Test.YtiamkmkbkehldaaGreatDoorLowN
import Derived.Test.YtiamkmkbkehldaaGreatDoorCards
import Derived.Test.YtiamkmkbkehldaaGreatDoorTie
import Derived.ProofKit
import Derived.Lay
import Derived.ChangeMaps5
import Derived.OpenShut
import Derived.ShutString
import Derived.ChangeOld
import Derived.SevenTiedAt
namespace Go.Proofs.YtiamkmkbkehldaaGreatDoor
open Go.RowKit Go.WideShapes
set_option linter.unusedSimpArgs false
set_option linter.unusedVariables false

def yamlV (vs : List VN) : List UInt8 := if okB vs = true then yamlT vs.length (treeOf vs vs.length (vs.length - 1)) else []
theorem yamlV_yes {vs : List VN} (h : okB vs = true) : yamlV vs = yamlT vs.length (treeOf vs vs.length (vs.length - 1)) := by unfold yamlV; rw [if_pos h]
theorem yamlV_no {vs : List VN} (h : okB vs = false) : yamlV vs = [] := by unfold yamlV; rw [h]; rfl

set_option maxRecDepth 100000 in
set_option maxHeartbeats 3200000 in
theorem l5Yaml_any (B : Nat) (v : Value) (vs : List VN) (w : World) (h : NodesAt B w v vs) (hB : B ≤ w.heap.size) (hok : okB vs = true) :
    Calls Tryz.prog 41 #[v] w fun e w' => e = .returned (.string (txt (yamlT vs.length (treeOf vs vs.length (vs.length - 1))))) ∧ Below w.heap.size w w' := by
  have HV := hideIt h
  obtain ⟨p1, _⟩ := okB_parts hok
  obtain ⟨hl, a, cap, rfl, hcv⟩ := h
  obtain ⟨bv, ov, rfl, hbv, hcv'⟩ := hcv (by omega)
  obtain ⟨q, hq⟩ : ∃ q, vs.length - 1 = q := ⟨_, rfl⟩
  have hqN : q < vs.length := by omega
  have HBL := hideIt (l5Block_any B vs hok vs.length _ q 0 w HV.out hB (by omega) hqN (by omega))
  have HFB := hideIt (flatY_96k hok (f := vs.length) (i := q) hqN (by omega) (by omega))
  obtain ⟨ka2, ki2, hn2⟩ := hcv' q hqN
  have d0 := hn2.c0
  have d1 := hn2.c1
  have d2 := hn2.c2
  have d3 := hn2.c3
  have d4 := hn2.c4
  obtain ⟨g1, g2, aK2, cK2, eK2, g3⟩ := hn2.inn.keys
  obtain ⟨g4, g5, aI2, cI2, eI2, g6⟩ := hn2.inn.kids
  clear g1 g2 g3 g4 g5 g6
  subst eK2 eI2
  have HSY2 := hideIt (node_says hok hqN)
  obtain ⟨g, hg⟩ : ∃ g, vs.length = g + 1 := ⟨vs.length - 1, by omega⟩
  have HTQ : Hid (treeOf vs vs.length q = .mk (nodeAt vs q).kind (nodeAt vs q).n (nodeAt vs q).s (nodeAt vs q).keys ((nodeAt vs q).kids.map fun k => treeOf vs g k.toNat)) := by rw [Hid, hg]; rfl
  obtain ⟨M2, hM2⟩ : ∃ M2, (nodeAt vs q).kids.length = M2 := ⟨_, rfl⟩
  have HK2 : Hid ((kidsY (treeOf vs vs.length q)).length = M2) := by rw [Hid, HTQ.out]; show (List.map _ _).length = M2; rw [List.length_map, hM2]
  obtain ⟨MK2, hMK2⟩ : ∃ MK2, (nodeAt vs q).keys.length = MK2 := ⟨_, rfl⟩
  obtain ⟨k2, hk2⟩ : ∃ k2, (nodeAt vs q).kind = k2 := ⟨_, rfl⟩
  obtain ⟨n2, hnn2⟩ : ∃ n2, (nodeAt vs q).n = n2 := ⟨_, rfl⟩
  obtain ⟨s2, hs2⟩ : ∃ s2, (nodeAt vs q).s = s2 := ⟨_, rfl⟩
  have HFT : Hid (M2 = 0 → treeOf vs vs.length q = .mk k2 n2 s2 (nodeAt vs q).keys []) := fun h0 => by
    have e : (nodeAt vs q).kids = [] := List.eq_nil_of_length_eq_zero (by rw [hM2]; exact h0)
    rw [HTQ.out, e, hk2, hnn2, hs2]; rfl
  rw [hM2] at d4 HSY2
  rw [hMK2] at d3 HSY2
  rw [hk2] at d0 HSY2
  rw [hnn2] at d1 HSY2
  rw [hs2] at d2 HSY2
  rw [hq]
  obtain ⟨N, hN⟩ : ∃ N, vs.length = N := ⟨_, rfl⟩
  have e1 : (N : Int) - 1 = (q : Int) := by omega
  rw [hN] at HBL HFB HK2 HFT hqN ⊢
  have hqN' : (q : Int) < (N : Int) := by omega
  have hq80 : (q : Int) ≤ 80 := by omega
  have HEE := hideIt e1
  clear hcv hcv' hn2 hg hM2 hMK2 hk2 hnn2 hs2 HTQ hq hN p1
  rcases Nat.eq_zero_or_pos M2 with hz | hz
  · subst hz
    have hrz := HFB.out HK2.out
    have HYT : Hid (yamlT N (treeOf vs N q) = flatY (treeOf vs N q) ++ [10]) := by rw [Hid]; unfold yamlT; rw [if_pos HK2.out]
    have HFC := hideIt (fun W => l5Flat_any k2 n2 s2 (.slice aK2 MK2 cK2) (.slice aI2 0 cI2) (nodeAt vs q).keys W (by
      rcases HSY2.out with k | ⟨k, q1, q2⟩ | ⟨k, q1, q2⟩ | ⟨k, q1⟩ | k | ⟨k, q1, q2⟩
      · exact .inl k
      · exact .inr (.inl ⟨k, q1, q2⟩)
      · exact .inr (.inr (.inl ⟨k, q1, q2⟩))
      · exact .inr (.inr (.inr (.inl ⟨k, q1⟩)))
      · exact .inr (.inr (.inr (.inr (.inl k))))
      · exact .inr (.inr (.inr (.inr (.inr k))))))
    simp only [← HFT.out rfl] at HFC
    obtain ⟨r, hr⟩ : ∃ r, flatY (treeOf vs N q) = r := ⟨_, rfl⟩
    rw [hr] at HYT hrz
    simp only [hr] at HFC
    have hrz' : (txt r).size ≤ 96000 := by rw [txt_size]; exact hrz
    clear hr hrz
    rw [HYT.out]
    go_enter Tryz.func41, Tryz.ntmps41
    go_wp2_with fail
    refine (HFC.out _).mono ?_
    rintro e w3 ⟨rfl, hb3⟩
    have HB3 := hideIt hb3
    clear hb3
    go_wp2_with fail
    go_ret
    refine ⟨ret_str ?_, HB3.out⟩
    simp only [app_txt]
  · have hz' : ¬ (M2 : Int) = 0 := by omega
    have hzb : ((M2 : Int) == 0) = false := by simp; omega
    have HYT : Hid (yamlT N (treeOf vs N q) = blockY N 0 (treeOf vs N q)) := by rw [Hid]; unfold yamlT; rw [if_neg (by rw [HK2.out]; omega)]
    rw [HYT.out]
    have em : marg 0 = ⟨#[]⟩ := rfl
    rw [em] at HBL
    go_enter Tryz.func41, Tryz.ntmps41
    go_wp2_with fail
    refine HBL.out.mono ?_
    rintro e w3 ⟨rfl, hb3⟩
    have HB3 := hideIt hb3
    clear hb3
    go_wp2_with fail
    go_ret
    exact ⟨rfl, HB3.out⟩

set_option maxRecDepth 100000 in
set_option maxHeartbeats 1600000 in
theorem specYaml_any (B : Nat) (v : Value) (vs : List VN) (w : World) (h : NodesAt B w v vs) (hB : B ≤ w.heap.size) :
    Calls Tryz.prog 11 #[v] w fun e w' => e = .returned (.string (txt (yamlV vs))) ∧ Below w.heap.size w w' := by
  have HV := hideIt h
  obtain ⟨_, a, cap, rfl, _⟩ := h
  go_enter Tryz.func11, Tryz.ntmps11
  go_wp2_with fail
  refine (specOk_any B _ vs _ HV.out hB).mono ?_
  rintro e w1 ⟨rfl, hb1⟩
  have z1 := hb1.size
  cases ok1 : okB vs
  · have HP := hideIt (yamlV_no ok1)
    go_wp2_with fail
    go_ret
    exact ⟨by rw [HP.out]; rfl, hb1⟩
  · have HP := hideIt (yamlV_yes ok1)
    have HTX := hideIt (l5Yaml_any B _ vs w1 (HV.out.below (hb1.mono hB)) (by omega) ok1)
    have HB1 := hideIt hb1
    clear hb1
    go_wp2_with fail
    refine HTX.out.mono ?_
    rintro e w2 ⟨rfl, hb2⟩
    have HB2 := hideIt (HB1.out.trans (hb2.mono z1))
    clear hb2
    go_wp2_with fail
    go_ret
    exact ⟨by rw [HP.out]; rfl, HB2.out⟩
end Go.Proofs.YtiamkmkbkehldaaGreatDoor

/-
  The program's YamlText.
-/
namespace Go.Proofs.YtiamkmkbkehldaaGreatDoor
open Go.RowKit
set_option linter.unusedSimpArgs false
set_option linter.unusedVariables false

theorem blockY_pos {f pad : Nat} {t : VT} (h : (kidsY t).length ≠ 0) : blockY (f + 1) pad t ≠ [] := by
  obtain ⟨kind, n, s, keys, kids⟩ := t
  have h0 : kids.length ≠ 0 := h
  obtain ⟨m, hm⟩ : ∃ m, kids.length = m + 1 := ⟨kids.length - 1, by omega⟩
  rw [blockY, hm, blkY]
  intro e
  have h1 := congrArg List.length e
  have h2 : 1 ≤ (tailY (blockY f (pad + 2)) (kidT kids m)).length := by unfold tailY; split <;> simp
  simp only [List.length_append, List.length_nil] at h1
  omega
theorem fb_newY (w : World) (o : Obj) : FB 52 w.heap.size w.heap.size [] [] ((w.alloc (.cells #[.pointer none, .slice none 0 0] 52)).alloc o) := by
  have h := heap_alloc_new w (.cells #[.pointer none, .slice none 0 0] 52)
  have h2 : ((w.alloc (.cells #[.pointer none, .slice none 0 0] 52)).alloc o).heap[w.heap.size]? = some (.cells #[.pointer none, .slice none 0 0] 52 (0, 0)) := by
    rw [Below.heap_alloc _ _ _ (by simp)]; exact h
  exact ⟨Nat.le_refl _, .pointer none, .slice none 0 0, .inl rfl, h2, World.ownsRow_nil _ _ _ _, by simp [Value.ownBlock]⟩

set_option maxRecDepth 100000 in
set_option maxHeartbeats 3200000 in
theorem implYaml_any (B : Nat) (v : Value) (vs : List VN) (w : World) (h : NodesAt B w v vs) (hB : B ≤ w.heap.size) (htab : TabB w.heap.size w) :
    Calls Tryz.prog 10 #[v] w fun e w' => e = .returned (.string (txt (yamlV vs))) ∧ Below w.heap.size w w' := by
  have HV := hideIt h
  have HTAB := hideIt htab
  clear htab
  obtain ⟨_, a, cap, rfl, _⟩ := h
  go_enter Tryz.func10, Tryz.ntmps10
  go_wp2_with fail
  cases ok1 : okB vs
  · have HP := hideIt (yamlV_no ok1)
    refine (valueOf_no B _ vs _ HV.out hB ok1).mono ?_
    rintro e w1 ⟨rfl, hb1⟩
    go_wp2_with fail
    go_ret
    exact ⟨by rw [HP.out]; rfl, hb1⟩
  · have HP := hideIt (yamlV_yes ok1)
    refine (valueOf_yes B _ vs _ HV.out hB ok1).mono ?_
    rintro e w1 ⟨lo1, t, x, rfl, hl1, hl1', hv1, hb1⟩
    have z1 := hb1.size
    obtain ⟨p1, p2, _, p4⟩ := okB_parts ok1
    have ht := ValIs.tree (by omega) p2 p4 p1.2 (by omega) hv1
    have HFIT := hideIt (tfit_of ok1 vs.length (vs.length - 1) (by omega))
    have H96 := hideIt (blockY_96k ok1 (f := vs.length) (deep := 0) (i := vs.length - 1) (by omega) (by omega) (by omega))
    rw [Nat.mul_zero] at H96
    have HFL := hideIt (flatY_96k ok1 (f := vs.length) (i := vs.length - 1) (by omega) (by omega) (by omega))
    have HB1 := hideIt hb1
    have HT1 := hideIt ht
    have hN80 : vs.length ≤ 80 := p1.2
    obtain ⟨g, hg⟩ : ∃ g, vs.length = g + 1 := ⟨vs.length - 1, by omega⟩
    obtain ⟨T, hT⟩ : ∃ T, treeOf vs vs.length (vs.length - 1) = T := ⟨_, rfl⟩
    rw [hT] at HP HFIT H96 HFL HT1
    have HTB1 : Hid (TabB w1.heap.size w1) := (HTAB.out.next HB1.out).wide z1
    rw [hg] at HP HFIT H96 HT1 hN80
    clear hv1 p2 p4 hb1 ht hT hg p1 hl1 hl1'
    have HIS := hideIt (isShort_any w1.heap.size g T (.iface t x) w1 HT1.out)
    obtain ⟨Q, hQ⟩ : ∃ Q, (kidsY T).length = Q := ⟨_, rfl⟩
    rw [hQ] at HIS
    have HQ := hideIt hQ
    clear hQ
    go_wp2_with fail
    refine HIS.out.mono ?_
    rintro e w2 ⟨rfl, hb2⟩
    have HB2 := hideIt (HB1.out.trans (hb2.mono z1))
    have z12 := hb2.size
    have HT2 : Hid (TreeAt w2.heap.size w2 (g + 1) T (.iface t x)) := TreeAt.keep (fun c hc => hb2.block c hc) z12 HT1.out
    have HTB2 : Hid (TabB w2.heap.size w2) := (HTB1.out.next hb2).wide z12
    clear hb2 HIS
    have z2 := HB2.out.size
    by_cases hz : Q = 0
    · subst hz
      have HYT : Hid (yamlT (g + 1) T = flatY T ++ [10]) := by rw [Hid]; unfold yamlT; rw [if_pos HQ.out]
      have HSL := hideIt (shortLine_any w2.heap.size g T (.iface t x) w2 HT2.out HFIT.out HTB2.out (Nat.le_refl _) (by omega) HQ.out)
      have hfl := HFL.out HQ.out
      obtain ⟨FL, hFL⟩ : ∃ FL, flatY T = FL := ⟨_, rfl⟩
      rw [hFL] at HSL HYT hfl
      have hfz : (txt FL).size ≤ 96000 := by rw [txt_size]; exact hfl
      clear hFL hfl
      go_wp2_with fail
      refine HSL.out.mono ?_
      rintro e w3 ⟨rfl, hb3⟩
      have HB3 := hideIt (HB2.out.trans (hb3.mono z2))
      clear hb3
      go_wp2_with fail
      go_ret
      refine ⟨?_, HB3.out⟩
      rw [HP.out, HYT.out]
      refine ret_str ?_
      simp only [app_txt]
    · have hz' : decide (Q = 0) = false := by simpa using hz
      have HYT : Hid (yamlT (g + 1) T = blockY (g + 1) 0 T) := by rw [Hid]; unfold yamlT; rw [if_neg (by rw [HQ.out]; exact hz)]
      rw [hz']
      obtain ⟨W3, hW3⟩ : ∃ W3, (w2.alloc (.cells #[.pointer none, .slice none 0 0] 52)).alloc (.cells #[.func (.func 34) #[] #[.pointer (some ⟨w2.heap.size, 0, none⟩), .pointer (some ⟨w2.heap.size + 1, 0, none⟩)]] 53) = W3 := ⟨_, rfl⟩
      have HFB : Hid (FB 52 w2.heap.size w2.heap.size [] [] W3) := by rw [Hid, ← hW3]; exact fb_newY w2 _
      have HBX : Hid (BoxY W3 w2.heap.size (w2.heap.size + 1)) := by
        rw [Hid, ← hW3]
        refine ⟨by omega, ?_⟩
        have e : (w2.alloc (.cells #[.pointer none, .slice none 0 0] 52)).heap.size = w2.heap.size + 1 := by simp
        have h := heap_alloc_new (w2.alloc (.cells #[.pointer none, .slice none 0 0] 52)) (.cells #[.func (.func 34) #[] #[.pointer (some ⟨w2.heap.size, 0, none⟩), .pointer (some ⟨w2.heap.size + 1, 0, none⟩)]] 53)
        rw [e] at h
        exact h
      have HB3 : Hid (Below w2.heap.size w2 W3) := by rw [Hid, ← hW3]; exact ((Below.refl _ _).alloc (Nat.le_refl _) _).alloc (by simp) _
      have HT3 : Hid (TreeAt w2.heap.size W3 (g + 1) T (.iface t x)) := TreeAt.keep (fun c hc => HB3.out.block c hc) (Nat.le_refl _) HT2.out
      have HTB3 : Hid (TabB w2.heap.size W3) := HTB2.out.next HB3.out
      have z3 := HB3.out.size
      have cx := HBX.out.cell
      have HJY := hideIt (jyWrite_any w2.heap.size w2.heap.size (w2.heap.size + 1) (g + 1) 0 T (.iface t x) [] W3 HFB.out HBX.out HT3.out HFIT.out HTB3.out z3 (by omega) (by rw [HQ.out]; exact hz) (by rw [List.nil_append]; have := H96.out; omega))
      go_wp2_with fail
      refine HJY.out.mono ?_
      rintro e w4 ⟨rfl, f4, b4, k4⟩
      rw [List.nil_append] at f4
      have HF4 := hideIt f4
      have HB4 := hideIt (HB3.out.trans b4)
      clear f4 b4 k4
      go_wp2_with fail
      refine (fb_string HF4.out (blockY_pos (by rw [HQ.out]; exact hz))).mono ?_
      rintro e w5 ⟨rfl, b5⟩
      have HB5 := hideIt (HB2.out.trans ((HB4.out.trans b5).mono z2))
      clear b5
      go_wp2_with fail
      go_ret
      exact ⟨by rw [HP.out, HYT.out]; rfl, HB5.out⟩
end Go.Proofs.YtiamkmkbkehldaaGreatDoor

/-
  The law FnYaml: the call returns true and turns nothing that was there.
-/
namespace Go.Proofs.YtiamkmkbkehldaaGreatDoor
open Go.RowKit
set_option linter.unusedSimpArgs false
set_option linter.unusedVariables false

set_option maxHeartbeats 800000 in
theorem drawYamlText_any (B : Nat) (v : Value) (n : Nat) (w : World) (h : CodeAt B w v n) (hB : B ≤ w.heap.size) :
    Calls Tryz.prog 9 #[v] w fun e w' => ∃ r vs KV IV, e = .returned r ∧ Fine 40 vs ∧ Nest w.heap.size w' r vs KV IV ∧ Below w.heap.size w w' := by
  have H := hideIt h
  obtain ⟨_, a, cap, rfl, _⟩ := h
  go_enter Tryz.func9, Tryz.ntmps9
  go_wp2_with fail
  refine (l1Open_any B _ n w H.out hB).mono ?_
  rintro e w1 ⟨rfl, hr, hb⟩
  have HR := hideIt hr
  have HB := hideIt hb
  have z1 := hb.size
  clear hr hb
  go_wp2_with fail
  refine (rdMaybe_any w.heap.size n w1 ⟨0, HR.out⟩).mono ?_
  rintro e w2 ⟨⟨r, vs, KV, IV, rfl, hf, hn⟩, hd⟩
  have HF := hideIt hf
  have HN := hideIt (hn.low z1)
  have HB2 := hideIt (HB.out.trans hd.below)
  obtain ⟨ar, cr, er⟩ := own_slice hn.row
  obtain ⟨M, hM⟩ : ∃ M, vs.length = M := ⟨_, rfl⟩
  rw [hM] at er
  subst er
  clear hf hn hd hM
  go_wp2_with fail
  go_ret
  exact ⟨_, vs, KV, IV, rfl, HF.out, HN.out, HB2.out⟩

theorem yaml_is {vs : List VN} (hok : okB vs = true) {s : ByteArray} (hs : s.data.toList = yamlV vs ∨ s.data.toList = remarkY ++ (yamlV vs ++ blankY)) : rdYaml s.data.toList = some (treeOf vs vs.length (vs.length - 1)) := by
  obtain ⟨p1, _⟩ := okB_parts hok
  have hg := good_tree hok vs.length (vs.length - 1) (by omega) (by omega)
  rcases hs with h | h
  · rw [h, yamlV_yes hok]; exact read_yaml hg
  · rw [h, yamlV_yes hok]; exact read_around hg
/-- The program reads it. -/
theorem yaml_reads {vs : List VN} (hok : okB vs = true) {s : ByteArray} (hz : s.size ≤ 4000) (hs : s.data.toList = yamlV vs ∨ s.data.toList = remarkY ++ (yamlV vs ++ blankY)) (w : World) (htab : TabB w.heap.size w) :
    Calls Tryz.prog 12 #[.string s] w fun e w' => ∃ r base KV IV, e = .returned (.tuple #[r, .bool true]) ∧ w.heap.size ≤ base ∧ base ≤ w'.heap.size ∧ Nest base w' r vs KV IV ∧ Below w.heap.size w w' := by
  obtain ⟨p1, _⟩ := okB_parts hok
  exact implReadYaml_yes hz (yaml_is hok hs) (good_tree hok vs.length (vs.length - 1) (by omega) (by omega)) (whole_lay hok) hok w htab

set_option maxRecDepth 100000 in
set_option maxHeartbeats 6400000 in
theorem lawFnYaml_walk (v : Value) (n : Nat) (w : World) (h : RawCode w v n) (htab : TabB w.heap.size w) :
    Calls Tryz.prog 3 #[v] w fun e w' => e = .returned (.bool true) ∧ Below w.heap.size w w' := by
  obtain ⟨hn, a, cap, rfl, hc⟩ := h
  have HTAB := hideIt htab
  have HCL : Hid (n ≤ 1048576 → CodeAt w.heap.size w (.slice a n cap) n) := fun h => ⟨h, a, cap, rfl, hc⟩
  clear hc htab
  go_enter Tryz.func3, Tryz.ntmps3
  go_wp2_with fail
  refine (big_any a n cap w hn).mono ?_
  rintro e w1 ⟨rfl, rfl⟩
  by_cases hbig : 1048576 < n
  · go_wp2_with fail
    go_ret
    exact ⟨rfl, Below.refl _ _⟩
  have HC := hideIt (HCL.out (by omega))
  clear HCL
  go_wp2_with fail
  refine (drawYamlText_any w1.heap.size _ n w1 HC.out (Nat.le_refl _)).mono ?_
  rintro e w2 ⟨r, vs, KV, IV, rfl, hf1, hn1, hb2⟩
  have HF1 := hideIt hf1
  have HND : Hid (∀ w', Below w2.heap.size w2 w' → NodesAt w'.heap.size w' r vs) := fun w' hb => (hn1.below hb).nodes (by have := HF1.out.2.1; omega) (HF1.out.few (by omega)).2
  have HB2 := hideIt hb2
  have z2 := hb2.size
  have HTB : Hid (∀ w', Below w2.heap.size w2 w' → TabB w'.heap.size w') := fun w' hb => (HTAB.out.next (HB2.out.trans (hb.mono z2))).wide (Nat.le_trans z2 hb.size)
  obtain ⟨ar, cr, er⟩ := own_slice hn1.row
  obtain ⟨M, hM⟩ : ∃ M, vs.length = M := ⟨_, rfl⟩
  rw [hM] at er
  subst er
  clear hf1 hn1 hb2 hM HC
  obtain ⟨S, hS⟩ : ∃ S, txt (yamlV vs) = S := ⟨_, rfl⟩
  have HSB : Hid (S.data.toList = yamlV vs) := by rw [Hid, ← hS, bytes_txt]
  have CI := hideIt (fun (w' : World) (hb : Below w2.heap.size w2 w') => implYaml_any w'.heap.size _ vs w' (HND.out w' hb) (Nat.le_refl _) (HTB.out w' hb))
  have CS := hideIt (fun (w' : World) (hb : Below w2.heap.size w2 w') => specYaml_any w'.heap.size _ vs w' (HND.out w' hb) (Nat.le_refl _))
  simp only [hS] at CI CS
  clear hS
  have hss : (S.toList == S.toList) = true := by simp
  have hsn : (S.toList != S.toList) = false := by simp
  go_wp2_with fail
  refine (CI.out w2 (Below.refl _ _)).mono ?_
  rintro e w3 ⟨rfl, hb3⟩
  have H3 := hideIt hb3
  have z3 := hb3.size
  clear hb3
  go_wp2_with fail
  refine (CS.out w3 H3.out).mono ?_
  rintro e w4 ⟨rfl, hb4⟩
  have H4 := hideIt (H3.out.trans (hb4.mono z3))
  have z4 := H4.out.size
  clear hb4
  have HEND : Hid (∀ w7, Below w4.heap.size w4 w7 → Below w1.heap.size w1 w7) := fun w7 hb => HB2.out.trans ((H4.out.trans (hb.mono z4)).mono z2)
  have HTE : Hid (S.toList.isEmpty = false → okB vs = true) := fun he => by
    cases ho : okB vs
    · exfalso
      rw [Lib.toList_data, HSB.out, yamlV_no ho] at he
      cases he
    · rfl
  by_cases hE : S.toList.isEmpty = true
  · go_wp2_with fail
    refine (CS.out w4 H4.out).mono ?_
    rintro e w5 ⟨rfl, hb5⟩
    have E5 := hideIt (HEND.out w5 hb5)
    clear hb5
    go_wp2_with fail
    go_ret
    exact ⟨by rfl, E5.out⟩
  have hE' : S.toList.isEmpty = false := by simpa using hE
  clear hE
  by_cases h40 : 3980 < S.size
  · have h40' : (3980 : Int) < (S.size : Int) := by omega
    go_wp2_with fail
    refine (CS.out w4 H4.out).mono ?_
    rintro e w5 ⟨rfl, hb5⟩
    have E5 := hideIt (HEND.out w5 hb5)
    clear hb5
    go_wp2_with fail
    go_ret
    exact ⟨by rfl, E5.out⟩
  have h40' : ¬ (3980 : Int) < (S.size : Int) := by omega
  have HOK := hideIt (HTE.out hE')
  obtain ⟨S2, hS2⟩ : ∃ S2, (ByteArray.mk #[35, 32, 97, 32, 114, 101, 109, 97, 114, 107, 10, 10]) ++ S ++ (ByteArray.mk #[32, 32, 32, 10]) = S2 := ⟨_, rfl⟩
  have HS2B : Hid (S2.data.toList = remarkY ++ (yamlV vs ++ blankY)) := by
    rw [Hid, ← hS2]
    simp [HSB.out, remarkY, blankY]
  have HS2Z : Hid (S2.size ≤ 4000) := by
    have h1 := congrArg List.length HS2B.out
    have h2 := congrArg List.length HSB.out
    rw [len_is] at h1 h2
    simp only [List.length_append] at h1
    rw [← h2] at h1
    have e1 : remarkY.length = 12 := rfl
    have e2 : blankY.length = 4 := rfl
    rw [Hid]; omega
  have HR1 := hideIt (fun w' (hb : Below w2.heap.size w2 w') => yaml_reads HOK.out (s := S) (by omega) (.inl HSB.out) w' (HTB.out w' hb))
  have HR2 := hideIt (fun w' (hb : Below w2.heap.size w2 w') => yaml_reads HOK.out (s := S2) HS2Z.out (.inr HS2B.out) w' (HTB.out w' hb))
  clear HTE h40
  go_wp2_with fail
  refine (HR1.out w4 H4.out).mono ?_
  rintro e w7 ⟨r7, base7, KV7, IV7, rfl, hb1, hb2, hn7, hbl7⟩
  have HN7 : Hid (∀ w', Below w7.heap.size w7 w' → NodesAt w'.heap.size w' r7 vs) := fun w' hb => Nest.nodes (vs := vs) (hn7.below hb) (by have := HF1.out.2.1; omega) (HF1.out.few (by omega)).2
  have H7 := hideIt hbl7
  have z7 := hbl7.size
  obtain ⟨a7, c7, e7⟩ := own_slice hn7.row
  obtain ⟨M7, hM7⟩ : ∃ M, vs.length = M := ⟨_, rfl⟩
  rw [hM7] at e7
  subst e7
  clear hM7 hn7 hbl7 hb1 hb2 HR1
  have H27 := hideIt (H4.out.trans (H7.out.mono z4))
  go_wp2_with fail
  refine (HR2.out w7 H27.out).mono ?_
  rintro e w8 ⟨r8, base8, KV8, IV8, rfl, hb1, hb2, hn8, hbl8⟩
  have HN8 : Hid (∀ w', Below w8.heap.size w8 w' → NodesAt w'.heap.size w' r8 vs) := fun w' hb => Nest.nodes (vs := vs) (hn8.below hb) (by have := HF1.out.2.1; omega) (HF1.out.few (by omega)).2
  have H8 := hideIt hbl8
  have z8 := hbl8.size
  obtain ⟨a8, c8, e8⟩ := own_slice hn8.row
  obtain ⟨M8, hM8⟩ : ∃ M, vs.length = M := ⟨_, rfl⟩
  rw [hM8] at e8
  subst e8
  clear hM8 hn8 hbl8 hb1 hb2 HR2
  have H28 := hideIt (H27.out.trans (H8.out.mono H27.out.size))
  go_wp2_with fail
  refine (same_any w8.heap.size _ _ vs vs w8 (HN7.out w8 H8.out) (HND.out w8 H28.out) (Nat.le_refl _)).mono ?_
  rintro e w9 ⟨⟨b, rfl, hb⟩, hb9⟩
  obtain rfl : b = true := hb.2 rfl
  have H9 := hideIt hb9
  have z9 := hb9.size
  clear hb hb9
  go_wp2_with fail
  refine (same_any w9.heap.size _ _ vs vs w9 (HN8.out w9 H9.out) (HND.out w9 (H28.out.trans (H9.out.mono H28.out.size))) (Nat.le_refl _)).mono ?_
  rintro e wA ⟨⟨b, rfl, hb⟩, hbA⟩
  obtain rfl : b = true := hb.2 rfl
  have HA := hideIt hbA
  clear hb hbA
  go_wp2_with fail
  go_ret
  exact ⟨rfl, HEND.out wA (((H7.out.trans (H8.out.mono z7)).trans (H9.out.mono (Nat.le_trans z7 z8))).trans (HA.out.mono (Nat.le_trans (Nat.le_trans z7 z8) z9)))⟩
end Go.Proofs.YtiamkmkbkehldaaGreatDoor

/-
  PROVED: for every code of bytes the law FnYaml returns true: a drawn right value comes back from its lines, also with a remark and empty lines around, where these are of at most 3980 bytes. Conditions: the row's own (the eight listed variables read as their initialisers lay them), tied to the program's text by the card.
-/
namespace Go.Proofs.YtiamkmkbkehldaaGreatDoor
open Go.ChangeShapes Go.WideShapes Go.ChangeAt Go.RowKit
set_option linter.unusedVariables false

set_option maxRecDepth 100000 in
theorem fnYaml_lifted (os : Os) (started : os.Started) (H : Type) (enc : TypeId × Value → H) :
    ReturnsInHanded {} Tryz.checked os 3 .any (fun w args => (Rows.fnYamlSpec.pre enc Tryz.prog Tryz.f3 [] false w args ∧ laidMetH Tryz.prog Rows.fnYamlRow.laid w) ∧ sizedMet enc Tryz.prog Tryz.f3 (OpenSpec.ofChange Rows.fnYamlSpec) false w args)
      (Rows.fnYamlSpec.post enc Tryz.prog Tryz.f3 false true false false) := by
  refine returnsInHanded_of_change_and (C := Tryz.checked) (X := fun w _ => laidMetH Tryz.prog Rows.fnYamlRow.laid w) (fun _ _ _ hh h => h.of_heap hh) js_own started (by kernel_rfl) Tryz.func3
    (ChangeSpec.witness_shaped (enc := enc) (C := Tryz.checked) (os := os) (X := fun w _ => laidMetH Tryz.prog Rows.fnYamlRow.laid w) false (World.laidAll Tryz.prog os Rows.fnYamlRow.laid) #[.slice none 0 0] 8 (World.laidAll_os _ _ _)
      (World.shaped_of_ZipB (by kernel_rfl) (by kernel_rfl)) (by kernel_rfl) (by kernel_rfl) (by kernel_rfl)
      (by rw [MakeChecks.laidMetH_plain _ _ _ (by kernel_rfl)]; exact laidMet_laidAll _ (by kernel_rfl) (by kernel_rfl))) ?_
  intro W base args ds gs before hval0 hW _ _ hL0 _
  have hL : laidMetH Tryz.prog Rows.fnYamlRow.laid W := hL0
  rw [MakeChecks.laidMetH_plain _ _ _ (by kernel_rfl)] at hL
  have hval : ∀ (j : Nat) t v, Tryz.f3.params[j]? = some t → args[j]? = some v → Value.okWide Tryz.prog W .any base t v := hval0
  have hW' := hW
  obtain ⟨p, q, hA0, hV, rfl, hfz, hnd⟩ := hW
  have hA : DataW.TrodAll enc Tryz.prog W 0 (fun _ => true) true Tryz.f3.params.toList args.toList ds p := hA0
  rw [Tryz.params3] at hA hval
  obtain ⟨v0, vs0, d0, ds0, p0, q0, hargs, rfl, rfl, h0, r0⟩ := trodAll_cons hA
  obtain ⟨rfl, rfl, rfl⟩ := trodAll_nil r0
  obtain rfl : args = #[v0] := by cases args; simp_all
  obtain ⟨rfl, rfl⟩ := trodVars_none hV
  obtain ⟨a0, len0, cap0, rfl⟩ := okWide_slice Tryz.underlying22 (hval 0 22 v0 rfl rfl)
  have k0 := h0
  have lt0 : ∀ x ∈ p0, x.block < W.heap.size := by obtain ⟨m, hm⟩ := k0; exact DataW.trod_lt m _ _ _ hm
  obtain ⟨n, w0⟩ : ∃ n, RawCode W (.slice a0 len0 cap0) n := by
    obtain ⟨fuel, hf⟩ := h0
    exact raw_code (by simpa [Value.cells] using hf)
  clear hA0 hval0
  refine (lawFnYaml_walk (.slice a0 len0 cap0) n W w0 (js_tabB (js_tabIs hL))).mono fun e W' ⟨he, bel⟩ => ?_
  subst he
  exact ⟨_, rfl, _, _, _, [], _, [], hW', trodAll_mk1 (shut_bool Tryz.underlying4 _), (trodAll_cons_mk (Below.trod js_laidOut (by kernel_rfl) (of_decide_eq_true (by kernel_rfl)) k0 bel lt0) trodAll_mk0), rfl, bel.frame _, fun h => by cases h⟩

theorem fnYaml_row : Rows.FnYamlSaid :=
  OpenClaim.holds_of_wide 3 Tryz.f3 rfl rfl rfl rfl rfl rfl rfl ⟨rfl, rfl, rfl, rfl, rfl⟩ rfl rfl rfl rfl rfl (by kernel_rfl) Tryz.func3 (by kernel_rfl)
    (of_decide_eq_true (by kernel_rfl)) (by unfold Func.isWrapper; first | (rw [if_pos (by decide +kernel)]; kernel_rfl) | (rw [if_neg (by decide +kernel)]; exact ⟨rfl, rfl⟩))
    (fun os started H enc _ => fnYaml_lifted os started H enc)

theorem fnYaml_holds : Rows.FnYamlCardSaid :=
  Claim7.holds_tied_plain_at .later [] [.data, .data, .data, .data, .sentinel, .sentinel, .pinned, .pinned] true (true, "177964f6622676db90bf16036cf3aba4e1445575b9fafeaec24a4835ab9b79e9") true
    fnYaml_row (fun _ h => by cases h) (by kernel_rfl) (fun _ h => by cases h) fnYaml_row_tie rfl ⟨rfl, rfl⟩ (by kernel_rfl) rfl
    (fun f fn hf hfn => by
      obtain rfl : f = 3 := Option.some.inj ((show Tryz.prog.funcNamed "loop.example/g00345/laws.FnYaml" = some 3 by kernel_rfl).symm.trans hf) |>.symm
      obtain rfl : fn = Tryz.f3 := (Option.some.inj (Tryz.func3.symm.trans hfn)).symm
      exact ⟨by kernel_rfl, fun j t ht => by
        rw [Tryz.params3] at ht
        have h3 : t = 22 := by
          rcases j with _ | j
          · simpa using ht.symm
          · simp at ht
        subst h3
        exact (show Tryz.prog.wantsStandIn 22 = false by kernel_rfl)⟩)
    (by kernel_rfl)
#print axioms fnYaml_holds
end Go.Proofs.YtiamkmkbkehldaaGreatDoor
