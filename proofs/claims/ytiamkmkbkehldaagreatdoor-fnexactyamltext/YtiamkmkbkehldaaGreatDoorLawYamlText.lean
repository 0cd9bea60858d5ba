/-
  The program's YamlText.
-/
import Derived.Test.YtiamkmkbkehldaaGreatDoorIYc
import Derived.Test.YtiamkmkbkehldaaGreatDoorSYm
import Derived.Laws.EntriesVeiled
import Derived.Test.YtiamkmkbkehldaaGreatDoorSz
import Derived.Test.YtiamkmkbkehldaaGreatDoorPlnP
namespace Go.Proofs.YtiamkmkbkehldaaGreatDoor
open Go.RowKit
set_option linter.unusedSimpArgs false
set_option linter.unusedVariables false

theorem blockY_pos {f pad : Nat} {t : VT} (h : (kidsY t).length ≠ 0) : blockY (f + 1) pad t ≠ [] := by
  obtain ⟨kind, n, s, keys, kids⟩ := t
  have h0 : kids.length ≠ 0 := h
  obtain ⟨m, hm⟩ : ∃ m, kids.length = m + 1 := ⟨kids.length - 1, by omega⟩
  rw [blockY, hm, blkY]
  intro e
  have h1 := congrArg List.length e
  have h2 : 1 ≤ (tailY (blockY f (pad + 2)) (kidT kids m)).length := by unfold tailY; split <;> simp
  simp only [List.length_append, List.length_nil] at h1
  omega
theorem fb_newY (w : World) (o : Obj) : FB 52 w.heap.size w.heap.size [] [] ((w.alloc (.cells #[.pointer none, .slice none 0 0] 52)).alloc o) := by
  have h := heap_alloc_new w (.cells #[.pointer none, .slice none 0 0] 52)
  have h2 : ((w.alloc (.cells #[.pointer none, .slice none 0 0] 52)).alloc o).heap[w.heap.size]? = some (.cells #[.pointer none, .slice none 0 0] 52 (0, 0)) := by
    rw [Below.heap_alloc _ _ _ (by simp)]; exact h
  exact ⟨Nat.le_refl _, .pointer none, .slice none 0 0, .inl rfl, h2, World.ownsRow_nil _ _ _ _, by simp [Value.ownBlock]⟩

set_option maxRecDepth 100000 in
set_option maxHeartbeats 3200000 in
theorem implYaml_any (B : Nat) (v : Value) (vs : List VN) (w : World) (h : NodesAt B w v vs) (hB : B ≤ w.heap.size) (htab : TabB w.heap.size w) :
    Calls Tryz.prog 10 #[v] w fun e w' => e = .returned (.string (txt (yamlV vs))) ∧ Below w.heap.size w w' := by
  have HV := hideIt h
  have HTAB := hideIt htab
  clear htab
  obtain ⟨_, a, cap, rfl, _⟩ := h
  go_enter Tryz.func10, Tryz.ntmps10
  go_wp2_with fail
  cases ok1 : okB vs
  · have HP := hideIt (yamlV_no ok1)
    refine (valueOf_no B _ vs _ HV.out hB ok1).mono ?_
    rintro e w1 ⟨rfl, hb1⟩
    go_wp2_with fail
    go_ret
    exact ⟨by rw [HP.out]; rfl, hb1⟩
  · have HP := hideIt (yamlV_yes ok1)
    refine (valueOf_yes B _ vs _ HV.out hB ok1).mono ?_
    rintro e w1 ⟨lo1, t, x, rfl, hl1, hl1', hv1, hb1⟩
    have z1 := hb1.size
    obtain ⟨p1, p2, _, p4⟩ := okB_parts ok1
    have ht := ValIs.tree (by omega) p2 p4 p1.2 (by omega) hv1
    have HFIT := hideIt (tfit_of ok1 vs.length (vs.length - 1) (by omega))
    have H96 := hideIt (blockY_96k ok1 (f := vs.length) (deep := 0) (i := vs.length - 1) (by omega) (by omega) (by omega))
    rw [Nat.mul_zero] at H96
    have HFL := hideIt (flatY_96k ok1 (f := vs.length) (i := vs.length - 1) (by omega) (by omega) (by omega))
    have HB1 := hideIt hb1
    have HT1 := hideIt ht
    have hN80 : vs.length ≤ 80 := p1.2
    obtain ⟨g, hg⟩ : ∃ g, vs.length = g + 1 := ⟨vs.length - 1, by omega⟩
    obtain ⟨T, hT⟩ : ∃ T, treeOf vs vs.length (vs.length - 1) = T := ⟨_, rfl⟩
    rw [hT] at HP HFIT H96 HFL HT1
    have HTB1 : Hid (TabB w1.heap.size w1) := (HTAB.out.next HB1.out).wide z1
    rw [hg] at HP HFIT H96 HT1 hN80
    clear hv1 p2 p4 hb1 ht hT hg p1 hl1 hl1'
    have HIS := hideIt (isShort_any w1.heap.size g T (.iface t x) w1 HT1.out)
    obtain ⟨Q, hQ⟩ : ∃ Q, (kidsY T).length = Q := ⟨_, rfl⟩
    rw [hQ] at HIS
    have HQ := hideIt hQ
    clear hQ
    go_wp2_with fail
    refine HIS.out.mono ?_
    rintro e w2 ⟨rfl, hb2⟩
    have HB2 := hideIt (HB1.out.trans (hb2.mono z1))
    have z12 := hb2.size
    have HT2 : Hid (TreeAt w2.heap.size w2 (g + 1) T (.iface t x)) := TreeAt.keep (fun c hc => hb2.block c hc) z12 HT1.out
    have HTB2 : Hid (TabB w2.heap.size w2) := (HTB1.out.next hb2).wide z12
    clear hb2 HIS
    have z2 := HB2.out.size
    by_cases hz : Q = 0
    · subst hz
      have HYT : Hid (yamlT (g + 1) T = flatY T ++ [10]) := by rw [Hid]; unfold yamlT; rw [if_pos HQ.out]
      have HSL := hideIt (shortLine_any w2.heap.size g T (.iface t x) w2 HT2.out HFIT.out HTB2.out (Nat.le_refl _) (by omega) HQ.out)
      have hfl := HFL.out HQ.out
      obtain ⟨FL, hFL⟩ : ∃ FL, flatY T = FL := ⟨_, rfl⟩
      rw [hFL] at HSL HYT hfl
      have hfz : (txt FL).size ≤ 96000 := by rw [txt_size]; exact hfl
      clear hFL hfl
      go_wp2_with fail
      refine HSL.out.mono ?_
      rintro e w3 ⟨rfl, hb3⟩
      have HB3 := hideIt (HB2.out.trans (hb3.mono z2))
      clear hb3
      go_wp2_with fail
      go_ret
      refine ⟨?_, HB3.out⟩
      rw [HP.out, HYT.out]
      refine ret_str ?_
      simp only [app_txt]
    · have hz' : decide (Q = 0) = false := by simpa using hz
      have HYT : Hid (yamlT (g + 1) T = blockY (g + 1) 0 T) := by rw [Hid]; unfold yamlT; rw [if_neg (by rw [HQ.out]; exact hz)]
      rw [hz']
      obtain ⟨W3, hW3⟩ : ∃ W3, (w2.alloc (.cells #[.pointer none, .slice none 0 0] 52)).alloc (.cells #[.func (.func 34) #[] #[.pointer (some ⟨w2.heap.size, 0, none⟩), .pointer (some ⟨w2.heap.size + 1, 0, none⟩)]] 53) = W3 := ⟨_, rfl⟩
      have HFB : Hid (FB 52 w2.heap.size w2.heap.size [] [] W3) := by rw [Hid, ← hW3]; exact fb_newY w2 _
      have HBX : Hid (BoxY W3 w2.heap.size (w2.heap.size + 1)) := by
        rw [Hid, ← hW3]
        refine ⟨by omega, ?_⟩
        have e : (w2.alloc (.cells #[.pointer none, .slice none 0 0] 52)).heap.size = w2.heap.size + 1 := by simp
        have h := heap_alloc_new (w2.alloc (.cells #[.pointer none, .slice none 0 0] 52)) (.cells #[.func (.func 34) #[] #[.pointer (some ⟨w2.heap.size, 0, none⟩), .pointer (some ⟨w2.heap.size + 1, 0, none⟩)]] 53)
        rw [e] at h
        exact h
      have HB3 : Hid (Below w2.heap.size w2 W3) := by rw [Hid, ← hW3]; exact ((Below.refl _ _).alloc (Nat.le_refl _) _).alloc (by simp) _
      have HT3 : Hid (TreeAt w2.heap.size W3 (g + 1) T (.iface t x)) := TreeAt.keep (fun c hc => HB3.out.block c hc) (Nat.le_refl _) HT2.out
      have HTB3 : Hid (TabB w2.heap.size W3) := HTB2.out.next HB3.out
      have z3 := HB3.out.size
      have cx := HBX.out.cell
      have HJY := hideIt (jyWrite_any w2.heap.size w2.heap.size (w2.heap.size + 1) (g + 1) 0 T (.iface t x) [] W3 HFB.out HBX.out HT3.out HFIT.out HTB3.out z3 (by omega) (by rw [HQ.out]; exact hz) (by rw [List.nil_append]; have := H96.out; omega))
      go_wp2_with fail
      refine HJY.out.mono ?_
      rintro e w4 ⟨rfl, f4, b4, k4⟩
      rw [List.nil_append] at f4
      have HF4 := hideIt f4
      have HB4 := hideIt (HB3.out.trans b4)
      clear f4 b4 k4
      go_wp2_with fail
      refine (fb_string HF4.out (blockY_pos (by rw [HQ.out]; exact hz))).mono ?_
      rintro e w5 ⟨rfl, b5⟩
      have HB5 := hideIt (HB2.out.trans ((HB4.out.trans b5).mono z2))
      clear b5
      go_wp2_with fail
      go_ret
      exact ⟨by rw [HP.out, HYT.out]; rfl, HB5.out⟩
end Go.Proofs.YtiamkmkbkehldaaGreatDoor

/-
  The law of YamlText: the call returns true and turns nothing that was there.
-/
namespace Go.Proofs.YtiamkmkbkehldaaGreatDoor
open Go.RowKit
set_option linter.unusedSimpArgs false
set_option linter.unusedVariables false

set_option maxRecDepth 100000 in
set_option maxHeartbeats 3200000 in
theorem lawYamlText_walk (v : Value) (vs : List VN) (w : World) (h : RawNodes w.heap.size w v vs) (htab : TabB w.heap.size w) :
    Calls Tryz.prog 6 #[v] w fun e w' => e = .returned (.bool true) ∧ Below w.heap.size w w' := by
  have H := hideIt h
  have HTAB := hideIt htab
  clear htab
  obtain ⟨_, a, cap, rfl, _⟩ := h
  obtain ⟨S, hS⟩ : ∃ S, txt (yamlV vs) = S := ⟨_, rfl⟩
  have CS := hideIt (specYaml_any (vs := vs))
  have CI := hideIt (implYaml_any (vs := vs))
  simp only [hS] at CS CI
  clear hS
  have hss : (S.toList == S.toList) = true := by simp
  go_enter Tryz.func6, Tryz.ntmps6
  go_wp2_with fail
  refine (szVNodeS_any w.heap.size _ vs 1048576 _ H.out (Nat.le_refl _) (by omega) (by omega)).mono ?_
  rintro e w1 ⟨⟨q, rfl, hq, hs⟩, hb1⟩
  have HS := hideIt hs
  clear hs
  by_cases hq0 : q < 0
  · go_wp2_with fail
    go_ret
    exact ⟨rfl, hb1⟩
  · have HN := hideIt (H.out.fit (HS.out (by omega)).1 (HS.out (by omega)).2)
    have HF := hideIt HN.out.fits
    have HL := hideIt HN.out.1
    have z1 := hb1.size
    go_wp2_with fail
    refine (toVNodeS_any w.heap.size _ vs _ (HN.out.below hb1) (by omega)).mono ?_
    rintro e w2 ⟨KB, KI, rfl, ho2, hb2⟩
    have HO2 := hideIt ho2
    have z2 := hb2.size
    clear ho2
    go_wp2_with fail
    refine (CS.out w2.heap.size _ _ (HO2.out.nodes HL.out HF.out) (Nat.le_refl _)).mono ?_
    rintro e w3 ⟨rfl, hb3⟩
    have z3 := hb3.size
    have hb13 : Below w.heap.size w w3 := (hb1.trans (hb2.mono z1)).trans (hb3.mono (by omega))
    go_wp2_with fail
    refine (toVNodeS_any w.heap.size _ vs _ (HN.out.below hb13) (by omega)).mono ?_
    rintro e w4 ⟨KB4, KI4, rfl, ho4, hb4⟩
    have HO4 := hideIt ho4
    have z4 := hb4.size
    clear ho4
    go_wp2_with fail
    refine (CI.out w4.heap.size _ _ (HO4.out.nodes HL.out HF.out) (Nat.le_refl _) ((HTAB.out.next (hb13.trans (hb4.mono (by omega)))).wide (by omega))).mono ?_
    rintro e w5 ⟨rfl, hb5⟩
    have z5 := hb5.size
    have hb15 : Below w.heap.size w w5 := (hb13.trans (hb4.mono (by omega))).trans (hb5.mono (by omega))
    have HO5 := hideIt (HO4.out.below hb5)
    go_wp2_with fail
    all_goals
      refine (toVNodeS_any w.heap.size _ vs _ (HN.out.below hb15) (by omega)).mono ?_
      rintro e w6 ⟨KB6, KI6, rfl, ho6, hb6⟩
      have HO6 := hideIt ho6
      have z6 := hb6.size
      clear ho6
      go_wp2_with fail
      refine (eqVNodeS_any w6.heap.size _ _ vs _ ((HO5.out.below hb6).nodes HL.out HF.out) (HO6.out.nodes HL.out HF.out) (Nat.le_refl _)).mono ?_
      rintro e w7 ⟨rfl, hb7⟩
      go_wp2_with fail
      go_ret
      exact ⟨rfl, (hb15.trans (hb6.mono (by omega))).trans (hb7.mono (by omega))⟩
end Go.Proofs.YtiamkmkbkehldaaGreatDoor
