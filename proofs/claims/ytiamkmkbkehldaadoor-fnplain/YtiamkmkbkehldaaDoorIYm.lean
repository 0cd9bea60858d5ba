/-
  Plain: the nodes of a list and of a map out of those of their parts; what is wrong in a part is wrong in the whole.
-/
import Derived.Test.YtiamkmkbkehldaaDoorNdS
import Derived.Test.YtiamkmkbkehldaaDoorSortP
import Derived.Test.YtiamkmkbkehldaaDoorYmP
import Derived.Test.YtiamkmkbkehldaaDoorSPln
import Derived.Test.YtiamkmkbkehldaaDoorSJt
import Derived.Test.YtiamkmkbkehldaaDoorJsB
import Derived.Test.YtiamkmkbkehldaaDoorSpc3
import Derived.Test.YtiamkmkbkehldaaDoorIYc
import Derived.Laws.EntriesVeiled
namespace Go.Proofs.YtiamkmkbkehldaaDoor
open Go.RowKit
set_option linter.unusedSimpArgs false
set_option linter.unusedVariables false

end Go.Proofs.YtiamkmkbkehldaaDoor

/-
  Plain: the tree of right nodes is good; the nodes that are laid for a tree, and its tree again.
-/
namespace Go.Proofs.YtiamkmkbkehldaaDoor
open Go.RowKit
set_option linter.unusedSimpArgs false
set_option linter.unusedVariables false

theorem good_tree {vs : List VN} (hok : okB vs = true) : ∀ f i, i < vs.length → i < f → goodT f (treeOf vs f i) := by
  intro f
  induction f with
  | zero => intro i _ h; omega
  | succ f ih =>
    intro i hi hf
    obtain ⟨_, p2, _, _⟩ := okB_parts hok
    rw [treeOf]
    refine ⟨?_, fun j hj => ?_⟩
    · have := (p2 i hi).1
      rw [nodeT_eq] at this
      rw [List.length_map]
      exact this
    · rw [List.length_map] at hj
      have hki := kidsIn_get (p2 i hi).2 hj
      rw [kidT_map hj]
      exact ih _ (by omega) (by omega)
end Go.Proofs.YtiamkmkbkehldaaDoor

/-
  The specification's YamlText.
-/
namespace Go.Proofs.YtiamkmkbkehldaaDoor
open Go.RowKit Go.WideShapes
set_option linter.unusedSimpArgs false
set_option linter.unusedVariables false

theorem blockY_none {f pad : Nat} {t : VT} (h : (kidsY t).length = 0) : blockY f pad t = [] := by
  cases f with
  | zero => rfl
  | succ f =>
    obtain ⟨kind, n, s, keys, kids⟩ := t
    have e : kids = [] := List.eq_nil_of_length_eq_zero h
    subst e
    rfl
theorem jsonT_96k {vs : List VN} (hok : okB vs = true) {f deep i : Nat} (hi : i < vs.length) (hf : i < f) (hd : deep + i ≤ 100) : (jsonT true f deep (treeOf vs f i)).length ≤ 96000 := by
  obtain ⟨p1, _⟩ := okB_parts hok
  have h1 := jsonT_le hok true f deep i 0 hi hf hd
  have h2 := lay_part hok hf hi
  rw [h2.1] at h1
  have := h2.2
  omega
theorem blockY_96k {vs : List VN} (hok : okB vs = true) {f deep i : Nat} (hi : i < vs.length) (hf : i < f) (hd : deep + i ≤ 100) : (blockY f (2 * deep) (treeOf vs f i)).length ≤ 96000 := by
  by_cases h0 : (kidsY (treeOf vs f i)).length = 0
  · rw [blockY_none h0]; exact Nat.zero_le _
  · exact Nat.le_trans (blockY_len f deep _ (good_tree hok f i hi hf) h0) (jsonT_96k hok hi hf hd)
theorem flatY_96k {vs : List VN} (hok : okB vs = true) {f i : Nat} (hi : i < vs.length) (hf : i < f) (hd : i ≤ 100) (h0 : (kidsY (treeOf vs f i)).length = 0) : (flatY (treeOf vs f i)).length ≤ 96000 := by
  obtain ⟨g, rfl⟩ : ∃ g, f = g + 1 := ⟨f - 1, by omega⟩
  exact Nat.le_trans (flatY_len g 0 _ h0) (jsonT_96k hok hi hf (by omega))
end Go.Proofs.YtiamkmkbkehldaaDoor

/-
  The specification's YamlText.
-/
namespace Go.Proofs.YtiamkmkbkehldaaDoor
open Go.RowKit Go.WideShapes
set_option linter.unusedSimpArgs false
set_option linter.unusedVariables false

def yamlV (vs : List VN) : List UInt8 := if okB vs = true then yamlT vs.length (treeOf vs vs.length (vs.length - 1)) else []
theorem yamlV_yes {vs : List VN} (h : okB vs = true) : yamlV vs = yamlT vs.length (treeOf vs vs.length (vs.length - 1)) := by unfold yamlV; rw [if_pos h]
theorem yamlV_no {vs : List VN} (h : okB vs = false) : yamlV vs = [] := by unfold yamlV; rw [h]; rfl

end Go.Proofs.YtiamkmkbkehldaaDoor

/-
  The program's YamlText.
-/
namespace Go.Proofs.YtiamkmkbkehldaaDoor
open Go.RowKit
set_option linter.unusedSimpArgs false
set_option linter.unusedVariables false

theorem blockY_pos {f pad : Nat} {t : VT} (h : (kidsY t).length ≠ 0) : blockY (f + 1) pad t ≠ [] := by
  obtain ⟨kind, n, s, keys, kids⟩ := t
  have h0 : kids.length ≠ 0 := h
  obtain ⟨m, hm⟩ : ∃ m, kids.length = m + 1 := ⟨kids.length - 1, by omega⟩
  rw [blockY, hm, blkY]
  intro e
  have h1 := congrArg List.length e
  have h2 : 1 ≤ (tailY (blockY f (pad + 2)) (kidT kids m)).length := by unfold tailY; split <;> simp
  simp only [List.length_append, List.length_nil] at h1
  omega
theorem fb_newY (w : World) (o : Obj) : FB 53 w.heap.size w.heap.size [] [] ((w.alloc (.cells #[.pointer none, .slice none 0 0] 53)).alloc o) := by
  have h := heap_alloc_new w (.cells #[.pointer none, .slice none 0 0] 53)
  have h2 : ((w.alloc (.cells #[.pointer none, .slice none 0 0] 53)).alloc o).heap[w.heap.size]? = some (.cells #[.pointer none, .slice none 0 0] 53 (0, 0)) := by
    rw [Below.heap_alloc _ _ _ (by simp)]; exact h
  exact ⟨Nat.le_refl _, .pointer none, .slice none 0 0, .inl rfl, h2, World.ownsRow_nil _ _ _ _, by simp [Value.ownBlock]⟩

set_option maxRecDepth 100000 in
set_option maxHeartbeats 3200000 in
theorem implYaml_any (B : Nat) (v : Value) (vs : List VN) (w : World) (h : NodesAt B w v vs) (hB : B ≤ w.heap.size) (htab : TabB w.heap.size w) :
    Calls Tryd.prog 9 #[v] w fun e w' => e = .returned (.string (txt (yamlV vs))) ∧ Below w.heap.size w w' := by
  have HV := hideIt h
  have HTAB := hideIt htab
  clear htab
  obtain ⟨_, a, cap, rfl, _⟩ := h
  go_enter Tryd.func9, Tryd.ntmps9
  go_wp2_with fail
  cases ok1 : okB vs
  · have HP := hideIt (yamlV_no ok1)
    refine (valueOf_no B _ vs _ HV.out hB ok1).mono ?_
    rintro e w1 ⟨rfl, hb1⟩
    go_wp2_with fail
    go_ret
    exact ⟨by rw [HP.out]; rfl, hb1⟩
  · have HP := hideIt (yamlV_yes ok1)
    refine (valueOf_yes B _ vs _ HV.out hB ok1).mono ?_
    rintro e w1 ⟨lo1, t, x, rfl, hl1, hl1', hv1, hb1⟩
    have z1 := hb1.size
    obtain ⟨p1, p2, _, p4⟩ := okB_parts ok1
    have ht := ValIs.tree (by omega) p2 p4 p1.2 (by omega) hv1
    have HFIT := hideIt (tfit_of ok1 vs.length (vs.length - 1) (by omega))
    have H96 := hideIt (blockY_96k ok1 (f := vs.length) (deep := 0) (i := vs.length - 1) (by omega) (by omega) (by omega))
    rw [Nat.mul_zero] at H96
    have HFL := hideIt (flatY_96k ok1 (f := vs.length) (i := vs.length - 1) (by omega) (by omega) (by omega))
    have HB1 := hideIt hb1
    have HT1 := hideIt ht
    have hN80 : vs.length ≤ 80 := p1.2
    obtain ⟨g, hg⟩ : ∃ g, vs.length = g + 1 := ⟨vs.length - 1, by omega⟩
    obtain ⟨T, hT⟩ : ∃ T, treeOf vs vs.length (vs.length - 1) = T := ⟨_, rfl⟩
    rw [hT] at HP HFIT H96 HFL HT1
    have HTB1 : Hid (TabB w1.heap.size w1) := (HTAB.out.next HB1.out).wide z1
    rw [hg] at HP HFIT H96 HT1 hN80
    clear hv1 p2 p4 hb1 ht hT hg p1 hl1 hl1'
    have HIS := hideIt (isShort_any w1.heap.size g T (.iface t x) w1 HT1.out)
    obtain ⟨Q, hQ⟩ : ∃ Q, (kidsY T).length = Q := ⟨_, rfl⟩
    rw [hQ] at HIS
    have HQ := hideIt hQ
    clear hQ
    go_wp2_with fail
    refine HIS.out.mono ?_
    rintro e w2 ⟨rfl, hb2⟩
    have HB2 := hideIt (HB1.out.trans (hb2.mono z1))
    have z12 := hb2.size
    have HT2 : Hid (TreeAt w2.heap.size w2 (g + 1) T (.iface t x)) := TreeAt.keep (fun c hc => hb2.block c hc) z12 HT1.out
    have HTB2 : Hid (TabB w2.heap.size w2) := (HTB1.out.next hb2).wide z12
    clear hb2 HIS
    have z2 := HB2.out.size
    by_cases hz : Q = 0
    · subst hz
      have HYT : Hid (yamlT (g + 1) T = flatY T ++ [10]) := by rw [Hid]; unfold yamlT; rw [if_pos HQ.out]
      have HSL := hideIt (shortLine_any w2.heap.size g T (.iface t x) w2 HT2.out HFIT.out HTB2.out (Nat.le_refl _) (by omega) HQ.out)
      have hfl := HFL.out HQ.out
      obtain ⟨FL, hFL⟩ : ∃ FL, flatY T = FL := ⟨_, rfl⟩
      rw [hFL] at HSL HYT hfl
      have hfz : (txt FL).size ≤ 96000 := by rw [txt_size]; exact hfl
      clear hFL hfl
      go_wp2_with fail
      refine HSL.out.mono ?_
      rintro e w3 ⟨rfl, hb3⟩
      have HB3 := hideIt (HB2.out.trans (hb3.mono z2))
      clear hb3
      go_wp2_with fail
      go_ret
      refine ⟨?_, HB3.out⟩
      rw [HP.out, HYT.out]
      refine ret_str ?_
      simp only [app_txt]
    · have hz' : decide (Q = 0) = false := by simpa using hz
      have HYT : Hid (yamlT (g + 1) T = blockY (g + 1) 0 T) := by rw [Hid]; unfold yamlT; rw [if_neg (by rw [HQ.out]; exact hz)]
      rw [hz']
      obtain ⟨W3, hW3⟩ : ∃ W3, (w2.alloc (.cells #[.pointer none, .slice none 0 0] 53)).alloc (.cells #[.func (.func 25) #[] #[.pointer (some ⟨w2.heap.size, 0, none⟩), .pointer (some ⟨w2.heap.size + 1, 0, none⟩)]] 54) = W3 := ⟨_, rfl⟩
      have HFB : Hid (FB 53 w2.heap.size w2.heap.size [] [] W3) := by rw [Hid, ← hW3]; exact fb_newY w2 _
      have HBX : Hid (BoxY W3 w2.heap.size (w2.heap.size + 1)) := by
        rw [Hid, ← hW3]
        refine ⟨by omega, ?_⟩
        have e : (w2.alloc (.cells #[.pointer none, .slice none 0 0] 53)).heap.size = w2.heap.size + 1 := by simp
        have h := heap_alloc_new (w2.alloc (.cells #[.pointer none, .slice none 0 0] 53)) (.cells #[.func (.func 25) #[] #[.pointer (some ⟨w2.heap.size, 0, none⟩), .pointer (some ⟨w2.heap.size + 1, 0, none⟩)]] 54)
        rw [e] at h
        exact h
      have HB3 : Hid (Below w2.heap.size w2 W3) := by rw [Hid, ← hW3]; exact ((Below.refl _ _).alloc (Nat.le_refl _) _).alloc (by simp) _
      have HT3 : Hid (TreeAt w2.heap.size W3 (g + 1) T (.iface t x)) := TreeAt.keep (fun c hc => HB3.out.block c hc) (Nat.le_refl _) HT2.out
      have HTB3 : Hid (TabB w2.heap.size W3) := HTB2.out.next HB3.out
      have z3 := HB3.out.size
      have cx := HBX.out.cell
      have HJY := hideIt (jyWrite_any w2.heap.size w2.heap.size (w2.heap.size + 1) (g + 1) 0 T (.iface t x) [] W3 HFB.out HBX.out HT3.out HFIT.out HTB3.out z3 (by omega) (by rw [HQ.out]; exact hz) (by rw [List.nil_append]; have := H96.out; omega))
      go_wp2_with fail
      refine HJY.out.mono ?_
      rintro e w4 ⟨rfl, f4, b4, k4⟩
      rw [List.nil_append] at f4
      have HF4 := hideIt f4
      have HB4 := hideIt (HB3.out.trans b4)
      clear f4 b4 k4
      go_wp2_with fail
      refine (fb_string HF4.out (blockY_pos (by rw [HQ.out]; exact hz))).mono ?_
      rintro e w5 ⟨rfl, b5⟩
      have HB5 := hideIt (HB2.out.trans ((HB4.out.trans b5).mono z2))
      clear b5
      go_wp2_with fail
      go_ret
      exact ⟨by rw [HP.out, HYT.out]; rfl, HB5.out⟩
end Go.Proofs.YtiamkmkbkehldaaDoor
