/-
  The program's filterReader: names and words.
-/
import Derived.Test.YtehihemfepbmfaaGreatDoorSgW
import Derived.Test.YtehihemfepbmfaaGreatDoorFSpc1
import Derived.Test.YtehihemfepbmfaaGreatDoorMkG
namespace Go.Proofs.YtehihemfepbmfaaGreatDoor
open Go.RowKit
set_option linter.unusedSimpArgs false
set_option linter.unusedVariables false
set_option linter.unusedSectionVars false

set_option maxRecDepth 100000 in
set_option maxHeartbeats 3200000 in
theorem readName_any {rb mb base p : Nat} {Z : Nat → Prop} {s : ByteArray} {fs : List FN} {w : World} (h : FrAt w rb mb base Z s p fs) (hs : s.size ≤ 4000) :
    Calls Tryz.prog 173 #[.pointer (some ⟨rb, 0, none⟩)] w fun e w' => e = .returned (.string (txt (nameF s.data.toList p))) ∧ FrAt w' rb mb base Z s (skF s.data.toList (nmJ s.data.toList p)) fs ∧ ButF rb base w w' := by
  have H := hideB h
  have HLN := hideB (len_is s)
  have hp := h.le
  obtain ⟨c0, c1, f1, lt0⟩ := h.cells
  clear h
  go_enter Tryz.func173, Tryz.ntmps173
  go_wp2_with fail
  go_loopw [15, 16] (fun _ _ wr => ∃ q, FrAt wr rb mb base Z s q fs ∧ Hid (nmJ s.data.toList q = nmJ s.data.toList p) ∧ ButF rb base w wr ∧ p ≤ q) (fun _ _ wr => s.size - placeOf wr rb)
  case atStart => exact ⟨p, H.out, rfl, ButF.refl _ _ _, Nat.le_refl _⟩
  case round =>
    obtain ⟨q, hsr, HK, hbt, hpq⟩ := hrel
    have HS := hideB hsr
    have HBT := hideB hbt
    have hqs := hsr.le
    have HPK := hideB (fPeek_any hsr hs)
    have hc256 := byAt_lt s.data.toList q
    obtain ⟨c, hc⟩ : ∃ c, byAt s.data.toList q = c := ⟨_, rfl⟩
    have HC := hideB hc
    rw [hc] at HPK hc256
    clear c0 c1 f1 lt0
    obtain ⟨c0, c1, f1, lt0⟩ := hsr.cells
    clear hsr hbt hc
    go_wp2_with fail
    refine HPK.out.mono ?_
    rintro e w1 ⟨rfl, hr1, hb1⟩
    have HR1 := hideB hr1
    have HB1 := hideB hb1
    clear c0 c1 f1 lt0
    obtain ⟨c0, c1, f1, lt0⟩ := hr1.cells
    clear hr1 hb1
    go_wp2_with fail
    refine (inName_any c w1 hc256).mono ?_
    rintro e w2 ⟨rfl, rfl⟩
    cases hn : nmC c
    · have hn' : (letN c || digN c) = false := hn
      have HEND : Hid (nmJ s.data.toList q = q) := runJ_no (fun e => by rw [HC.out, hn] at e; cases e.2)
      have HZ : Hid (nmJ s.data.toList p = q) := by rw [Hid, ← HK.out]; exact HEND.out
      have hcut : ∀ w, (Instr.slice 9 (.string s) (some (.int .i64 (p : Int))) (some (.int .i64 (q : Int))) none).run Tryz.prog w = .ok (.string (txt (nameF s.data.toList p))) w := fun w => by
        have := run_cut (P := Tryz.prog) (t := 9) s p q Tryz.underlying9 hpq hqs w
        rw [this]; unfold nameF; rw [HZ.out]
      rw [hn']
      clear hn hn'
      go_wp2_with fail
      go_quiet (fail)
      have HD := hideB (below_drewB (w := w2) nq)
      have HR2 := hideB (HR1.out.below HD.out)
      have HSK := hideB (fSkip_any HR2.out hs)
      generalize w2.drewN nq = W2 at HR2 HD HSK ⊢
      clear nq c0 c1 f1
      go_wp2_with fail
      refine HSK.out.mono ?_
      rintro e w3 ⟨rfl, hr3, hb3⟩
      have HR3 := hideB hr3
      have HB3 := hideB (((HBT.out.trans HB1.out).trans (ButF.of_below HD.out)).trans hb3)
      clear hr3 hb3
      go_wp2_with fail
      go_ret
      exact ⟨rfl, by rw [HZ.out]; exact HR3.out, HB3.out⟩
    · have hn' : (letN c || digN c) = true := hn
      have hq : q < s.size := by
        rcases Nat.lt_or_ge q s.size with h | h
        · exact h
        · exfalso
          have : byAt s.data.toList q = 0 := byAt_past (by rw [HLN.out]; omega)
          rw [HC.out] at this
          subst this
          revert hn; decide
      have HNX : Hid (nmJ s.data.toList q = nmJ s.data.toList (q + 1)) := runJ_yes (by rw [HLN.out]; exact hq) (by rw [HC.out]; exact hn)
      rw [hn']
      clear hn hn'
      have e1 : ((q + 1 : Nat) : Int) = (q : Int) + 1 := by omega
      have HR2 := hideB (HR1.out.to (q := q + 1) hq)
      rw [e1] at HR2
      have HB2 := hideB ((HBT.out.trans HB1.out).trans (ButF.of_set 1 (.int .i64 ((q : Int) + 1))))
      clear e1
      go_wp2_with fail
      go_roundw
      case rel => exact ⟨q + 1, HR2.out, by rw [Hid, ← HNX.out]; exact HK.out, HB2.out, by omega⟩
      case measure => rw [HS.out.place, HR2.out.place]; omega
set_option maxRecDepth 100000 in
set_option maxHeartbeats 1600000 in
theorem mustWord_any {rb mb base p : Nat} {Z : Nat → Prop} {s u : ByteArray} {fs : List FN} {w : World} (h : FrAt w rb mb base Z s p fs) (hs : s.size ≤ 4000) :
    Calls Tryz.prog 193 #[.pointer (some ⟨rb, 0, none⟩), .string u] w fun e w' => ButF rb base w w' ∧ ((nameF s.data.toList p = u.data.toList ∧ e = .returned (.tuple #[]) ∧ FrAt w' rb mb base Z s (skF s.data.toList (nmJ s.data.toList p)) fs) ∨ (nameF s.data.toList p ≠ u.data.toList ∧ e = gup)) := by
  have HN := hideB (readName_any h hs)
  obtain ⟨t, ht⟩ : ∃ t, txt (nameF s.data.toList p) = t := ⟨_, rfl⟩
  have HT : Hid (nameF s.data.toList p = t.data.toList) := by rw [Hid, ← ht, bytes_txt]
  rw [ht] at HN
  clear h ht
  by_cases he : t = u
  · subst he
    have q1 : (t.toList == t.toList) = true := by simp
    have q2 : (t.toList != t.toList) = false := by simp
    go_enter Tryz.func193, Tryz.ntmps193
    go_wp2_with fail
    refine HN.out.mono ?_
    rintro e w1 ⟨rfl, h1, h2⟩
    have H1 := hideB h1
    have H2 := hideB h2
    clear h1 h2
    go_wp2_with fail
    go_end0
    exact ⟨H2.out, .inl ⟨HT.out, rfl, H1.out⟩⟩
  · have hne : t.data.toList ≠ u.data.toList := fun e => he (by rw [← txt_bytes t, e, txt_bytes])
    have HNE : Hid (nameF s.data.toList p ≠ u.data.toList) := by rw [Hid, HT.out]; exact hne
    have q0 : ¬ t.toList = u.toList := fun e => he (str_eq (by rw [e]; simp))
    have q1 : (t.toList == u.toList) = false := by simpa using q0
    have q2 : (t.toList != u.toList) = true := by simpa using q0
    clear he hne
    go_enter Tryz.func193, Tryz.ntmps193
    go_wp2_with fail
    refine HN.out.mono ?_
    rintro e w1 ⟨rfl, h1, h2⟩
    have H2 := hideB h2
    clear h1 h2
    go_wp2_with fail
    exact ⟨rfl, H2.out, .inr ⟨HNE.out, rfl⟩⟩
end Go.Proofs.YtehihemfepbmfaaGreatDoor

/-
  The specification's l7Rf: a bracket behind a point.
-/
namespace Go.Proofs.YtehihemfepbmfaaGreatDoor
open Go.RowKit
set_option linter.unusedSimpArgs false
set_option linter.unusedVariables false
set_option linter.unusedSectionVars false

set_option maxRecDepth 100000 in
set_option maxHeartbeats 3200000 in
theorem lfDot_at {rb base p : Nat} {Z : Nat → Prop} {s : ByteArray} {fs : List FN} {w : World} (h : LfAt w rb base Z s p false fs) (hs : s.size ≤ 4000) (hl : fs.length ≤ 40) (h1 : isAt s.data.toList p 91 = true) :
    Calls Tryz.prog 113 #[.pointer (some ⟨rb, 0, none⟩)] w (LfOr (pointF WSp s.data.toList fs p) rb base Z s p w) := by
  have HLN := hideB (len_is s)
  have hlt : p < s.size := by rw [← HLN.out]; exact (isAt_yes.1 h1).1
  have HE : Hid (pointF WSp s.data.toList fs p = placeF WSp s.data.toList fs (skF s.data.toList (p + 1))) := by
    rw [Hid]; unfold pointF
    rw [if_neg (fun e => by unfold letAt at e; rw [(isAt_yes.1 h1).2] at e; revert e; simp; intro _; decide), if_pos h1]
  obtain ⟨c0, c1, c2⟩ := h.cells
  have f1 := h.free 1
  have hple := h.le
  have HF0 := hideB h
  have HB0 : Hid (LB rb base Z w w) := LB.refl _ _ _ _
  clear h
  have hlt' : (p : Int) < (s.size : Int) := by omega
  have HB := hideB (byS hlt)
  obtain ⟨c, hc⟩ : ∃ c, s[p].toNat = c := ⟨_, rfl⟩
  have HC : Hid (byAt s.data.toList p = c) := by rw [Hid, ← HB.out]; exact hc
  have n0 : c = 91 := by rw [← HC.out]; exact (isAt_yes.1 h1).2
  have n1 : ((c : Int) == 91) = true := by rw [n0]; rfl
  have n2 : (c : Int) = 91 := by omega
  clear n0 h1
  go_enter Tryz.func113, Tryz.ntmps113
  go_wp2_with fail
  go_quiet (fail)
  have HD1 := hideB (below_drewB (w := w) nq)
  have HF1 := hideB (HF0.out.below HD1.out)
  have HB1 := hideB (HB0.out.trans (LB.of_below HD1.out))
  clear c0 c1 c2 f1
  obtain ⟨c0, c1, c2⟩ := HF1.out.cells
  have f1 := HF1.out.free 1
  have lt1 := HF1.out.lt
  generalize w.drewN nq = W1 at HD1 HF1 HB1 c0 c1 c2 f1 lt1 ⊢
  clear nq
  have e1 : ((p + 1 : Nat) : Int) = (p : Int) + 1 := by omega
  have hset := HF1.out.setP (q := p + 1) (by omega)
  have hbs : LB rb base Z w (W1.setCell ⟨rb, 1, none⟩ (.int .i64 ((p : Int) + 1))) := HB1.out.trans (LB.of_set 1 _)
  rw [e1] at hset
  have HI := hideB (lfIs1 93 hset hs)
  have HB2 := hideB hbs
  have hsk := skF_ge s.data.toList (p + 1)
  obtain ⟨q, hq⟩ : ∃ q, skF s.data.toList (p + 1) = q := ⟨_, rfl⟩
  have HQI : Hid (skF s.data.toList q = q) := by rw [Hid, ← hq]; exact skF_idem _ _
  rw [hq] at HI HE hsk
  rw [show (93 : UInt8).toNat = 93 from rfl] at HI
  have hpq : p ≤ q := by omega
  clear hset hbs e1 hq hsk
  cases hi : isAt s.data.toList q 93
  · rw [hi] at HI
    have HE2 : Hid (placeF WSp s.data.toList fs q = decF WSp s.data.toList q fun n q => mustF s.data.toList q 93 fun q => addF WSp ⟨3, ByteArray.empty, n, [], [], []⟩ fs q) := by rw [Hid]; unfold placeF; rw [if_neg (by rw [hi]; simp)]
    clear hi
    go_wp2_with fail
    refine HI.out.mono ?_
    rintro e w2 ⟨rfl, h2, b2⟩
    have h2' : LfAt w2 rb base Z s q false fs := h2
    have HB3 := hideB (HB2.out.trans b2)
    have HN := hideB (lfNum_any h2' hs)
    rw [HQI.out] at HN
    clear h2 h2' b2 c0 c1 c2 f1
    go_wp2_with fail
    refine HN.out.mono ?_
    rintro e w3 ⟨b3, n, rfl, ⟨hd, h3⟩ | ⟨hd, rfl, h3⟩⟩
    · have HB4 := hideB (HB3.out.trans b3)
      obtain ⟨D, hD⟩ : ∃ D, dgJ s.data.toList (numAt s.data.toList q) = D := ⟨_, rfl⟩
      have hqD : q ≤ D := by rw [← hD]; exact Nat.le_trans (numAt_ge _ _) (runJ_ge _ _ _)
      have HR : Hid (placeF WSp s.data.toList fs q = mustF s.data.toList (skF s.data.toList D) 93 fun q => addF WSp ⟨3, ByteArray.empty, n, [], [], []⟩ fs q) := by
        rw [Hid, HE2.out]; unfold decF; rw [show WSp.dec = intT from rfl, hd, hD]
      rw [hD] at h3
      have HWA := hideB (lfWant_any 93 h3 hs)
      have hsk := skF_ge s.data.toList D
      obtain ⟨Q, hQ⟩ : ∃ Q, skF s.data.toList D = Q := ⟨_, rfl⟩
      rw [hQ] at HWA HR hsk
      rw [show (93 : UInt8).toNat = 93 from rfl] at HWA
      have hpQ : p ≤ Q := by omega
      clear h3 b3 hd hD hqD hsk hQ
      go_wp2_with fail
      refine HWA.out.mono ?_
      rintro e w4 ⟨rfl, b4, ⟨_, hy, h4⟩ | ⟨hn, h4⟩⟩
      · have HB5 := hideB (HB4.out.trans b4)
        have HY : Hid (pointF WSp s.data.toList fs p = addF WSp ⟨3, ByteArray.empty, n, [], [], []⟩ fs (skF s.data.toList (Q + 1))) := by rw [Hid, HE.out, HR.out]; unfold mustF; rw [if_pos hy]
        have HA := hideB (lfAddK_any h4 (by omega) 3 ByteArray.empty n)
        clear h4 b4 hy
        go_wp2_with fail
        refine HA.out.mono ?_
        rintro e w9 ⟨rfl, h9, b9⟩
        have HF9 := hideB h9
        have HB9 := hideB (HB5.out.trans b9)
        clear h9 b9
        go_wp2_with fail
        go_ret
        exact LfOr.of HY.out (LfOr.add HF9.out hl (by omega) HB9.out)
      · have HB5 := hideB (HB4.out.trans b4)
        have HY : Hid (pointF WSp s.data.toList fs p = none) := by
          rw [Hid, HE.out, HR.out]; unfold mustF
          rcases hn with hn | hn
          · cases hn
          · rw [if_neg (by rw [hn]; simp)]
        have HA := hideB (lfAddK_any h4 (by omega) 3 ByteArray.empty n)
        clear h4 b4 hn
        go_wp2_with fail
        refine HA.out.mono ?_
        rintro e w9 ⟨rfl, h9, b9⟩
        have HF9 := hideB h9
        have HB9 := hideB (HB5.out.trans b9)
        clear h9 b9
        go_wp2_with fail
        go_ret
        exact LfOr.addB HY.out HF9.out (by omega) (by omega) HB9.out
    · have HB4 := hideB (HB3.out.trans b3)
      have HY : Hid (pointF WSp s.data.toList fs p = none) := by
        rw [Hid, HE.out, HE2.out]; unfold decF; rw [show WSp.dec = intT from rfl, hd]
      have HWA := hideB (lfWant_any 93 h3 hs)
      rw [HQI.out] at HWA
      clear h3 b3 hd
      go_wp2_with fail
      refine HWA.out.mono ?_
      rintro e w4 ⟨rfl, b4, ⟨hx, _, _⟩ | ⟨hn, h4⟩⟩
      · cases hx
      · have HB5 := hideB (HB4.out.trans b4)
        have HA := hideB (lfAddK_any h4 (by omega) 3 ByteArray.empty 0)
        clear h4 b4 hn
        go_wp2_with fail
        refine HA.out.mono ?_
        rintro e w9 ⟨rfl, h9, b9⟩
        have HF9 := hideB h9
        have HB9 := hideB (HB5.out.trans b9)
        clear h9 b9
        go_wp2_with fail
        go_ret
        exact LfOr.addB HY.out HF9.out (by omega) (by omega) HB9.out
  · rw [hi] at HI
    have HY : Hid (pointF WSp s.data.toList fs p = addF WSp (nodeK 4) fs (skF s.data.toList (q + 1))) := by rw [Hid, HE.out]; unfold placeF; rw [if_pos hi]
    clear hi
    go_wp2_with fail
    refine HI.out.mono ?_
    rintro e w2 ⟨rfl, h2, b2⟩
    have h2' : LfAt w2 rb base Z s (q + 1) false fs := h2
    have HB3 := hideB (HB2.out.trans b2)
    have HA := hideB (lfAddK_any h2' (by omega) 4 ByteArray.empty 0)
    clear h2 h2' b2 c0 c1 c2 f1
    go_wp2_with fail
    refine HA.out.mono ?_
    rintro e w9 ⟨rfl, h9, b9⟩
    have HF9 := hideB h9
    have HB9 := hideB (HB3.out.trans b9)
    clear h9 b9
    go_wp2_with fail
    go_ret
    exact LfOr.of HY.out (LfOr.add HF9.out hl (by omega) HB9.out)

/-- What stands behind a point. -/
theorem lfDot_any {rb base p : Nat} {Z : Nat → Prop} {s : ByteArray} {fs : List FN} {w : World} (h : LfAt w rb base Z s p false fs) (hs : s.size ≤ 4000) (hl : fs.length ≤ 40) :
    Calls Tryz.prog 113 #[.pointer (some ⟨rb, 0, none⟩)] w (LfOr (pointF WSp s.data.toList fs p) rb base Z s p w) := by
  cases h1 : isAt s.data.toList p 91
  · cases h2 : letAt s.data.toList p
    · exact lfDot_self h hs hl h1 h2
    · exact lfDot_key h hs hl h2
  · exact lfDot_at h hs hl h1
end Go.Proofs.YtehihemfepbmfaaGreatDoor

/-
  The specification's l7Rf: where the reader stands behind a step, good or spoilt, and the steps from there.
-/
namespace Go.Proofs.YtehihemfepbmfaaGreatDoor
open Go.RowKit
set_option linter.unusedSimpArgs false
set_option linter.unusedVariables false
set_option linter.unusedSectionVars false

/-- The nodes so far, and where the reader stands; none: spoilt. -/
abbrev CF := Option (List FN × Nat)
def LfSt (r : CF) (rb base : Nat) (Z : Nat → Prop) (s : ByteArray) (p0 : Nat) (w : World) : Prop :=
  ∃ (fs : List FN) (p : Nat), p0 ≤ p ∧ ((r = some (fs, skF s.data.toList p) ∧ LfAt w rb base Z s p false fs ∧ fs.length ≤ 40) ∨ (r = none ∧ fs.length + p0 ≤ 42 + p ∧ LfAt w rb base Z s p true fs))
theorem LfSt.good {fs : List FN} {rb base p p0 : Nat} {Z : Nat → Prop} {s : ByteArray} {w : World} (h : LfAt w rb base Z s p false fs) (hl : fs.length ≤ 40) (hp : p0 ≤ p) : LfSt (some (fs, skF s.data.toList p)) rb base Z s p0 w := ⟨fs, p, hp, .inl ⟨rfl, h, hl⟩⟩
theorem LfSt.bad {fs : List FN} {rb base p p0 : Nat} {Z : Nat → Prop} {s : ByteArray} {w : World} (h : LfAt w rb base Z s p true fs) (hl : fs.length + p0 ≤ 42 + p) (hp : p0 ≤ p) : LfSt none rb base Z s p0 w := ⟨fs, p, hp, .inr ⟨rfl, hl, h⟩⟩
theorem LfSt.of {r r' : CF} {rb base p0 : Nat} {Z : Nat → Prop} {s : ByteArray} {w : World} (e : r = r') (h : LfSt r rb base Z s p0 w) : LfSt r' rb base Z s p0 w := e ▸ h
theorem LfSt.less {r : CF} {rb base p0 p1 : Nat} {Z : Nat → Prop} {s : ByteArray} {w : World} (h : LfSt r rb base Z s p0 w) (hp : p1 ≤ p0) : LfSt r rb base Z s p1 w := by
  obtain ⟨fs, p, h1, h2 | ⟨h2, h3, h4⟩⟩ := h
  · exact ⟨fs, p, by omega, .inl h2⟩
  · exact ⟨fs, p, by omega, .inr ⟨h2, by omega, h4⟩⟩
theorem LfSt.fresh {r : CF} {rb base p0 : Nat} {Z Z' : Nat → Prop} {s : ByteArray} {w w' : World} (h : LfSt r rb base Z s p0 w) (hb : Below w.heap.size w w') (hz : ∀ x, Z' x → Z x ∨ w.heap.size ≤ x) (hz2 : ∀ x, Z' x → x < w'.heap.size) : LfSt r rb base Z' s p0 w' := by
  obtain ⟨fs, p, h1, ⟨h2, h3, h4⟩ | ⟨h2, h3, h4⟩⟩ := h
  · exact ⟨fs, p, h1, .inl ⟨h2, h3.fresh hb hz hz2, h4⟩⟩
  · exact ⟨fs, p, h1, .inr ⟨h2, h3, h4.fresh hb hz hz2⟩⟩
theorem LfSt.zb {r : CF} {rb base p0 : Nat} {Z : Nat → Prop} {s : ByteArray} {w : World} (h : LfSt r rb base Z s p0 w) : ∀ x, Z x → x < w.heap.size := by
  obtain ⟨fs, p, h1, ⟨h2, h3, h4⟩ | ⟨h2, h3, h4⟩⟩ := h
  · exact h3.zb
  · exact h4.zb
theorem LfSt.below {r : CF} {rb base p0 : Nat} {Z : Nat → Prop} {s : ByteArray} {w w' : World} (h : LfSt r rb base Z s p0 w) (hb : Below w.heap.size w w') : LfSt r rb base Z s p0 w' := h.fresh hb (fun x hx => .inl hx) (fun x hx => Nat.lt_of_lt_of_le (h.zb x hx) hb.size)
theorem LfSt.at {r : CF} {rb base p0 : Nat} {Z : Nat → Prop} {s : ByteArray} {w : World} (h : LfSt r rb base Z s p0 w) : ∃ b fs p, LfAt w rb base Z s p b fs ∧ p0 ≤ p ∧ fs.length + p0 ≤ 42 + p ∧ (b = true → r = none) ∧ (b = false → r = some (fs, skF s.data.toList p) ∧ fs.length ≤ 40) := by
  obtain ⟨fs, p, h1, ⟨h2, h3, h4⟩ | ⟨h2, h3, h4⟩⟩ := h
  · exact ⟨false, fs, p, h3, h1, by omega, fun e => (by cases e), fun _ => ⟨h2, h4⟩⟩
  · exact ⟨true, fs, p, h4, h1, h3, fun _ => h2, fun e => by cases e⟩
/-- What a call that reads a filter leaves, as such a state. -/
theorem LfOr.st {r : RF} {rb base p0 : Nat} {Z : Nat → Prop} {s : ByteArray} {w w' : World} {e : Ending} (h : LfOr r rb base Z s p0 w e w') : ∃ n, e = .returned (.int .i64 n) ∧ LB rb base Z w w' ∧ LfSt (r.map (·.2)) rb base Z s p0 w' ∧ ∀ y, r = some y → y.1 = n := by
  obtain ⟨hb, n, fs, p, he, hp, ⟨h1, h2, h3⟩ | ⟨h1, h2, h3⟩⟩ := h
  · exact ⟨n, he, hb, ⟨fs, p, hp, .inl ⟨by rw [h1]; rfl, h2, h3⟩⟩, fun y hy => by rw [h1] at hy; cases hy; rfl⟩
  · exact ⟨n, he, hb, ⟨fs, p, hp, .inr ⟨by rw [h1]; rfl, h2, h3⟩⟩, fun y hy => by rw [h1] at hy; cases hy⟩
/-- .. and back. -/
theorem LfSt.or {r : CF} {r' : RF} {n : Int} {rb base p0 p1 : Nat} {Z : Nat → Prop} {s : ByteArray} {w w' : World} (h : LfSt r rb base Z s p1 w') (hp : p0 ≤ p1) (hb : LB rb base Z w w') (hr : r' = r.map fun x => (n, x)) : LfOr r' rb base Z s p0 w (.returned (.int .i64 n)) w' := by
  obtain ⟨fs, p, h1, ⟨h2, h3, h4⟩ | ⟨h2, h3, h4⟩⟩ := h
  · exact ⟨hb, n, fs, p, rfl, by omega, .inl ⟨by rw [hr, h2]; rfl, h3, h4⟩⟩
  · exact ⟨hb, n, fs, p, rfl, by omega, .inr ⟨by rw [hr, h2]; rfl, by omega, h4⟩⟩

/-- What 'level' does, for texts with less than f bytes left. -/
def RdsS (R : RD) (f rb base : Nat) (s : ByteArray) : Prop := ∀ (l : Int) (Z : Nat → Prop) (fs : List FN) (p : Nat) (w : World), 1 ≤ l → l ≤ 6 → (∀ x, Z x → x < w.heap.size) → LfAt w rb base Z s p false fs → fs.length ≤ 40 → s.size < p + f → Calls Tryz.prog 43 #[.pointer (some ⟨rb, 0, none⟩), .int .i64 l] w (LfOr (R l fs (skF s.data.toList p)) rb base Z s p w)

theorem level_st {R : RD} {f rb base p0 : Nat} {s : ByteArray} {r : CF} {Z : Nat → Prop} {w : World} (HR : RdsS R f rb base s) (l : Int) (h1 : 1 ≤ l) (h6 : l ≤ 6) (hZ : ∀ x, Z x → x < w.heap.size) (hf : s.size < p0 + f) (h : LfSt r rb base Z s p0 w) :
    Calls Tryz.prog 43 #[.pointer (some ⟨rb, 0, none⟩), .int .i64 l] w fun e w' => ∃ n, e = .returned (.int .i64 n) ∧ LB rb base Z w w' ∧ LfSt (r.bind fun x => (R l x.1 x.2).map (·.2)) rb base Z s p0 w' ∧ ∀ fs q y, r = some (fs, q) → R l fs q = some y → y.1 = n := by
  obtain ⟨fs, p, hp, ⟨hr, ha, hl⟩ | ⟨hr, hl, ha⟩⟩ := h
  · subst hr
    refine (HR l Z fs p w h1 h6 hZ ha hl (by omega)).mono ?_
    intro e w' h
    obtain ⟨n, he, hb, hs, hy⟩ := h.st
    exact ⟨n, he, hb, hs.less hp, fun fs' q y e1 e2 => by cases e1; exact hy y e2⟩
  · subst hr
    refine (lfLevel_bad ha l).mono ?_
    rintro e w' ⟨he, ha', hb⟩
    exact ⟨0, he, hb, LfSt.bad ha' hl hp, fun fs' q y e1 => by cases e1⟩

theorem want_st {rb base p0 : Nat} {s : ByteArray} {r : CF} {Z : Nat → Prop} {w : World} (c : UInt8) (hs : s.size ≤ 4000) (h : LfSt r rb base Z s p0 w) :
    Calls Tryz.prog 114 #[.pointer (some ⟨rb, 0, none⟩), .string ⟨#[c]⟩] w fun e w' => e = .returned (.tuple #[]) ∧ LB rb base Z w w' ∧ LfSt (r.bind fun x => if isAt s.data.toList x.2 c.toNat = true then some (x.1, skF s.data.toList (x.2 + 1)) else none) rb base Z s p0 w' := by
  obtain ⟨fs, p, hp, ⟨hr, ha, hl⟩ | ⟨hr, hl, ha⟩⟩ := h
  · have hsk := skF_ge s.data.toList p
    subst hr
    refine (lfWant_any c ha hs).mono ?_
    rintro e w' ⟨he, hb, ⟨_, hy, h'⟩ | ⟨hn, h'⟩⟩
    · refine ⟨he, hb, LfSt.of ?_ (LfSt.good h' hl (by omega))⟩
      show _ = if isAt s.data.toList (skF s.data.toList p) c.toNat = true then _ else _
      rw [if_pos hy]
    · refine ⟨he, hb, LfSt.of ?_ (LfSt.bad h' (by omega) (by omega))⟩
      show _ = if isAt s.data.toList (skF s.data.toList p) c.toNat = true then _ else _
      rcases hn with hn | hn
      · cases hn
      · rw [if_neg (by rw [hn]; simp)]
  · have hsk := skF_ge s.data.toList p
    subst hr
    refine (lfWant_any c ha hs).mono ?_
    rintro e w' ⟨he, hb, ⟨hx, _, h'⟩ | ⟨hn, h'⟩⟩
    · cases hx
    · exact ⟨he, hb, LfSt.bad h' (by omega) (by omega)⟩

theorem is_st {rb base p0 : Nat} {s : ByteArray} {r : CF} {Z : Nat → Prop} {w : World} (c : UInt8) (hs : s.size ≤ 4000) (h : LfSt r rb base Z s p0 w) :
    Calls Tryz.prog 79 #[.pointer (some ⟨rb, 0, none⟩), .string ⟨#[c]⟩] w fun e w' => LB rb base Z w w' ∧ ((e = .returned (.bool true) ∧ ∃ fs q, r = some (fs, q) ∧ isAt s.data.toList q c.toNat = true ∧ LfSt (some (fs, skF s.data.toList (q + 1))) rb base Z s (p0 + 1) w') ∨ (e = .returned (.bool false) ∧ (∀ fs q, r = some (fs, q) → isAt s.data.toList q c.toNat = false) ∧ LfSt r rb base Z s p0 w')) := by
  obtain ⟨fs, p, hp, ⟨hr, ha, hl⟩ | ⟨hr, hl, ha⟩⟩ := h
  · have hsk := skF_ge s.data.toList p
    have hid := skF_idem s.data.toList p
    subst hr
    refine (lfIs1 c ha hs).mono ?_
    rintro e w' ⟨he, h', hb⟩
    cases hi : isAt s.data.toList (skF s.data.toList p) c.toNat
    · rw [hi] at he h'
      have h2 : LfAt w' rb base Z s (skF s.data.toList p) false fs := h'
      refine ⟨hb, .inr ⟨he, fun fs' q e1 => (by cases e1; exact hi), ?_⟩⟩
      have := LfSt.good (p0 := p0) h2 hl (by omega)
      rw [hid] at this
      exact this
    · rw [hi] at he h'
      have h2 : LfAt w' rb base Z s (skF s.data.toList p + 1) false fs := h'
      exact ⟨hb, .inl ⟨he, fs, _, rfl, hi, LfSt.good h2 hl (by omega)⟩⟩
  · have hsk := skF_ge s.data.toList p
    subst hr
    refine (lfIs1 c ha hs).mono ?_
    rintro e w' ⟨he, h', hb⟩
    have h2 : LfAt w' rb base Z s (skF s.data.toList p) true fs := h'
    exact ⟨hb, .inr ⟨he, fun fs' q e1 => (by cases e1), LfSt.bad h2 (by omega) (by omega)⟩⟩

theorem then_st {rb base p0 : Nat} {s u : ByteArray} {r : CF} {Z : Nat → Prop} {w : World} (hs : s.size ≤ 4000) (hu : ∃ c l, u.data.toList = c :: l ∧ letN c.toNat = true) (h : LfSt r rb base Z s p0 w) :
    Calls Tryz.prog 156 #[.pointer (some ⟨rb, 0, none⟩), .string u] w fun e w' => e = .returned (.tuple #[]) ∧ LB rb base Z w w' ∧ LfSt (r.bind fun x => if nameF s.data.toList x.2 = u.data.toList then some (x.1, skF s.data.toList (nmJ s.data.toList x.2)) else none) rb base Z s p0 w' := by
  obtain ⟨fs, p, hp, ⟨hr, ha, hl⟩ | ⟨hr, hl, ha⟩⟩ := h
  · have hsk := skF_ge s.data.toList p
    subst hr
    refine (lfThen_any ha hs hu).mono ?_
    rintro e w' ⟨he, hb, ⟨_, hy, h'⟩ | ⟨hn, p', hp', h'⟩⟩
    · refine ⟨he, hb, LfSt.of ?_ (LfSt.good h' hl (Nat.le_trans (show p0 ≤ skF s.data.toList p by omega) (runJ_ge _ _ _)))⟩
      show _ = if nameF s.data.toList (skF s.data.toList p) = u.data.toList then _ else _
      rw [if_pos hy]
    · refine ⟨he, hb, LfSt.of ?_ (LfSt.bad h' (by omega) (by omega))⟩
      show _ = if nameF s.data.toList (skF s.data.toList p) = u.data.toList then _ else _
      rcases hn with hn | hn
      · cases hn
      · rw [if_neg hn]
  · subst hr
    refine (lfThen_any ha hs hu).mono ?_
    rintro e w' ⟨he, hb, ⟨hx, _, h'⟩ | ⟨hn, p', hp', h'⟩⟩
    · cases hx
    · exact ⟨he, hb, LfSt.bad h' (by omega) (by omega)⟩

theorem word_st {rb base p0 : Nat} {s : ByteArray} {r : CF} {Z : Nat → Prop} {w : World} (hs : s.size ≤ 4000) (h : LfSt r rb base Z s p0 w) :
    Calls Tryz.prog 119 #[.pointer (some ⟨rb, 0, none⟩)] w fun e w' => ∃ T, e = .returned (.string T) ∧ LB rb base Z w w' ∧ LfSt (r.bind fun x => some (x.1, skF s.data.toList (wdJ s.data.toList x.2))) rb base Z s p0 w' ∧ ∀ fs q, r = some (fs, q) → T = txt ((s.data.toList.drop q).take (wdJ s.data.toList q - q)) := by
  have hwd : ∀ q, q ≤ wdJ s.data.toList q := fun q => by
    unfold wdJ; split
    · exact runJ_ge _ _ _
    · exact Nat.le_refl _
  obtain ⟨fs, p, hp, ⟨hr, ha, hl⟩ | ⟨hr, hl, ha⟩⟩ := h
  · have hsk := skF_ge s.data.toList p
    have hw2 := hwd (skF s.data.toList p)
    subst hr
    refine (lfWord_any ha hs).mono ?_
    rintro e w' ⟨hb, he, h'⟩
    rw [if_neg (by decide)] at he h'
    exact ⟨_, he, hb, LfSt.good h' hl (show p0 ≤ wdJ s.data.toList (skF s.data.toList p) by omega), fun fs' q e1 => by cases e1; rfl⟩
  · have hsk := skF_ge s.data.toList p
    subst hr
    refine (lfWord_any ha hs).mono ?_
    rintro e w' ⟨hb, he, h'⟩
    rw [if_pos rfl] at he h'
    exact ⟨_, he, hb, LfSt.bad h' (by omega) (by omega), fun fs' q e1 => by cases e1⟩

/-- A node with kids more; a byte paid for it. -/
theorem addR_st {rb base p0 p1 : Nat} {s : ByteArray} {r : CF} {Z : Nat → Prop} {w : World} (h : LfSt r rb base Z s p1 w) (hs : s.size ≤ 1000) (hp : p0 + 1 ≤ p1) (hZ : ∀ x, Z x → x < w.heap.size) (k : Int) (ks : List Int) (hn : ks.length ≤ 1000) :
    Calls Tryz.prog 80 #[.pointer (some ⟨rb, 0, none⟩), .agg #[.int .i64 k, .string ByteArray.empty, .int .i64 0, .slice none 0 0, .slice none 0 0, .slice (some ⟨w.heap.size, 0, none⟩) ks.length ks.length]] (w.alloc (.cells (ks.map (Value.int .i64)).toArray 2)) (LfOr (r.bind fun x => addF WSp (nodeR k ks) x.1 x.2) rb base Z s p0 w) := by
  obtain ⟨fs, p, hp1, ⟨hr, ha, hl⟩ | ⟨hr, hl, ha⟩⟩ := h
  · subst hr
    refine (lfAddR_any ha hZ (by omega) k ks hn).mono ?_
    rintro e w' ⟨rfl, h', hb⟩
    exact LfOr.add h' hl (by omega) hb
  · subst hr
    have := ha.le
    refine (lfAddR_any ha hZ (by omega) k ks hn).mono ?_
    rintro e w' ⟨rfl, h', hb⟩
    exact LfOr.addB rfl h' (by omega) (by omega) hb
end Go.Proofs.YtehihemfepbmfaaGreatDoor

/-
  The specification's l7Rf: what a word means. (Made by mksgk.py.)
-/
namespace Go.Proofs.YtehihemfepbmfaaGreatDoor
open Go.RowKit
set_option linter.unusedSimpArgs false
set_option linter.unusedVariables false
set_option linter.unusedSectionVars false

theorem namedS_none {R : RD} {L : List UInt8} {w : List UInt8} {fs : List FN} {p : Nat} (h_null : w ≠ [110, 117, 108, 108]) (h_true : w ≠ [116, 114, 117, 101]) (h_false : w ≠ [102, 97, 108, 115, 101]) (h_length : w ≠ [108, 101, 110, 103, 116, 104]) (h_keys : w ≠ [107, 101, 121, 115]) (h_not : w ≠ [110, 111, 116]) (h_empty : w ≠ [101, 109, 112, 116, 121]) (h_select : w ≠ [115, 101, 108, 101, 99, 116]) (h_if : w ≠ [105, 102]) : namedF WSp R L w fs p = none := by
  unfold namedF
  rw [if_neg (show w ≠ nullW from h_null), if_neg (show w ≠ trueW from h_true), if_neg (show w ≠ falseW from h_false), if_neg h_select, if_neg h_if, if_neg h_length, if_neg h_keys, if_neg h_not, if_neg h_empty]
theorem wordYS {L : List UInt8} {w : List UInt8} {q : Nat} {k : Nat → RF} (h : nameF L q = w) : wordF L w q k = k (skF L (nmJ L q)) := by unfold wordF; rw [if_pos h]
theorem wordNS {L : List UInt8} {w : List UInt8} {q : Nat} {k : Nat → RF} (h : nameF L q ≠ w) : wordF L w q k = none := by unfold wordF; rw [if_neg h]
theorem ifF_is {R : RD} {L : List UInt8} {fs : List FN} {p : Nat} {a b c : Int} {ra rb' rc : CF} {sa sb se : CF}
    (ha : ra = (R 1 fs p).map (·.2)) (hn : ∀ y, R 1 fs p = some y → y.1 = a) (hsa : sa = ra.bind fun x => if nameF L x.2 = [116, 104, 101, 110] then some (x.1, skF L (nmJ L x.2)) else none)
    (hb : rb' = sa.bind fun x => (R 1 x.1 x.2).map (·.2)) (hnb : ∀ fs q y, sa = some (fs, q) → R 1 fs q = some y → y.1 = b) (hsb : sb = rb'.bind fun x => if nameF L x.2 = [101, 108, 115, 101] then some (x.1, skF L (nmJ L x.2)) else none)
    (hc : rc = sb.bind fun x => (R 1 x.1 x.2).map (·.2)) (hnc : ∀ fs q y, sb = some (fs, q) → R 1 fs q = some y → y.1 = c) (hse : se = rc.bind fun x => if nameF L x.2 = [101, 110, 100] then some (x.1, skF L (nmJ L x.2)) else none) :
    ifF WSp R L fs p = se.bind fun x => addF WSp (nodeR 22 [a, b, c]) x.1 x.2 := by
  unfold ifF
  cases h1 : R 1 fs p with
  | none => rw [h1] at ha; subst ha; subst hsa; subst hb; subst hsb; subst hc; subst hse; rfl
  | some y =>
    obtain ⟨a', f1, q1⟩ := y
    obtain rfl : a' = a := hn _ h1
    rw [h1] at ha
    subst ha
    rw [bindF_some]
    by_cases e1 : nameF L q1 = [116, 104, 101, 110]
    · rw [wordYS e1]
      obtain rfl : sa = some (f1, skF L (nmJ L q1)) := by rw [hsa]; show (if _ then _ else _) = _; rw [if_pos e1]
      clear hsa
      cases h2 : R 1 f1 (skF L (nmJ L q1)) with
      | none =>
        have : rb' = none := by rw [hb]; show (R 1 f1 (skF L (nmJ L q1))).map (·.2) = none; rw [h2]; rfl
        subst this; subst hsb; subst hc; subst hse; rw [bindF_none]; rfl
      | some y =>
        obtain ⟨b', f2, q2⟩ := y
        obtain rfl : b' = b := hnb _ _ _ rfl h2
        obtain rfl : rb' = some (f2, q2) := by rw [hb]; show (R 1 f1 (skF L (nmJ L q1))).map (·.2) = _; rw [h2]; rfl
        clear hb
        rw [bindF_some]
        by_cases e2 : nameF L q2 = [101, 108, 115, 101]
        · rw [wordYS e2]
          obtain rfl : sb = some (f2, skF L (nmJ L q2)) := by rw [hsb]; show (if _ then _ else _) = _; rw [if_pos e2]
          clear hsb
          cases h3 : R 1 f2 (skF L (nmJ L q2)) with
          | none =>
            have : rc = none := by rw [hc]; show (R 1 f2 (skF L (nmJ L q2))).map (·.2) = none; rw [h3]; rfl
            subst this; subst hse; rfl
          | some y =>
            obtain ⟨c', f3, q3⟩ := y
            obtain rfl : c' = c := hnc _ _ _ rfl h3
            obtain rfl : rc = some (f3, q3) := by rw [hc]; show (R 1 f2 (skF L (nmJ L q2))).map (·.2) = _; rw [h3]; rfl
            clear hc
            rw [bindF_some]
            by_cases e3 : nameF L q3 = [101, 110, 100]
            · rw [wordYS e3]
              obtain rfl : se = some (f3, skF L (nmJ L q3)) := by rw [hse]; show (if _ then _ else _) = _; rw [if_pos e3]
              rfl
            · rw [wordNS e3]
              have : se = none := by rw [hse]; show (if _ then _ else _) = _; rw [if_neg e3]
              rw [this]; rfl
        · rw [wordNS e2]
          have : sb = none := by rw [hsb]; show (if _ then _ else _) = _; rw [if_neg e2]
          subst this; subst hc; subst hse; rfl
    · rw [wordNS e1]
      have : sa = none := by rw [hsa]; show (if _ then _ else _) = _; rw [if_neg e1]
      subst this; subst hb; subst hsb; subst hc; subst hse; rfl
theorem aroundF_is {R : RD} {L : List UInt8} {c : Nat} {fs : List FN} {p : Nat} {a : Int} {ra se : CF}
    (ha : ra = (R 1 fs p).map (·.2)) (hn : ∀ y, R 1 fs p = some y → y.1 = a) (hse : se = ra.bind fun x => if isAt L x.2 c = true then some (x.1, skF L (x.2 + 1)) else none) :
    aroundF R L c fs p = se.map fun x => (a, x) := by
  unfold aroundF
  cases h1 : R 1 fs p with
  | none => rw [h1] at ha; subst ha; subst hse; rfl
  | some y =>
    obtain ⟨a', f1, q1⟩ := y
    obtain rfl : a' = a := hn _ h1
    rw [h1] at ha
    subst ha
    rw [bindF_some]
    unfold mustF
    by_cases e1 : isAt L q1 c = true
    · rw [if_pos e1]
      have : se = some (f1, skF L (q1 + 1)) := by rw [hse]; show (if _ then _ else _) = _; rw [if_pos e1]
      rw [this]; rfl
    · rw [if_neg e1]
      have : se = none := by rw [hse]; show (if _ then _ else _) = _; rw [if_neg e1]
      rw [this]; rfl
theorem bindF_map {a : CF} {n : Int} {k : Int → List FN → Nat → RF} : bindF (a.map fun x => (n, x)) k = a.bind fun x => k n x.1 x.2 := by
  cases a with
  | none => rfl
  | some x => rfl
theorem mustYS {L : List UInt8} {q c : Nat} {k : Nat → RF} (h : isAt L q c = true) : mustF L q c k = k (skF L (q + 1)) := by unfold mustF; rw [if_pos h]
theorem mustNS {L : List UInt8} {q c : Nat} {k : Nat → RF} (h : ¬ isAt L q c = true) : mustF L q c k = none := by unfold mustF; rw [if_neg h]
theorem selF_is {R : RD} {L : List UInt8} {fs : List FN} {p : Nat} {n : Int} {c1 c2 c3 : CF} (h1 : c1 = if isAt L p 40 = true then some (fs, skF L (p + 1)) else none) (h2 : c2 = c1.bind fun x => (R 1 x.1 x.2).map (·.2))
    (hn : ∀ fs q y, c1 = some (fs, q) → R 1 fs q = some y → y.1 = n) (h3 : c3 = c2.bind fun x => if isAt L x.2 41 = true then some (x.1, skF L (x.2 + 1)) else none) :
    selF WSp R L fs p = c3.bind fun x => addF WSp (nodeR 10 [n]) x.1 x.2 := by
  unfold selF
  by_cases e : isAt L p 40 = true
  · rw [if_pos e] at h1
    have ha := aroundF_is (c := 41) (ra := c2) (se := c3) (a := n) (by rw [h2, h1]; rfl) (fun y hy => hn _ _ y h1 hy) h3
    rw [mustYS e, ha, bindF_map]
  · rw [if_neg e] at h1
    subst h1; subst h2; subst h3
    rw [mustNS e]; rfl

section
variable {R : RD} {f rb base : Nat} {s : ByteArray} (HR : RdsS R f rb base s)
include HR
set_option maxRecDepth 100000 in
set_option maxHeartbeats 6400000 in
theorem lfNamed_null {p : Nat} {Z : Nat → Prop} {fs : List FN} {w : World} {T : ByteArray} (h : LfAt w rb base Z s p false fs) (hZ : ∀ x, Z x → x < w.heap.size) (hs : s.size ≤ 1000) (hl : fs.length ≤ 40) (hf : s.size < p + f) (hp : 1 ≤ p) (HTW : T.data.toList = [110, 117, 108, 108]) :
    Calls Tryz.prog 120 #[.pointer (some ⟨rb, 0, none⟩), .string T] w (LfOr (namedF WSp R s.data.toList T.data.toList fs (skF s.data.toList p)) rb base Z s (p - 1) w) := by
  have HT : Hid (T.toList = T.data.toList) := by rw [Hid, ByteArray.toList_eq]
  have HF0 := hideB h
  have HZ : Hid (∀ x, Z x → x < w.heap.size) := hZ
  have HHR := hideB HR
  have HE : Hid (namedF WSp R s.data.toList T.data.toList fs (skF s.data.toList p) = addF WSp (nodeC ⟨1, 0, ByteArray.empty, [], []⟩) fs (skF s.data.toList p)) := by rw [Hid, HTW]; rfl
  have q_null : (T.toList == [110, 117, 108, 108]) = true := by rw [HT.out, HTW]; rfl
  clear h hZ HR HTW
  go_enter Tryz.func120, Tryz.ntmps120
  go_wp2_with fail
  refine (sNull_any w).mono ?_
  rintro e w1 ⟨rfl, hn, b1⟩
  have HC := hideB (leaf_const HF0.out HZ.out (by omega) b1 hn)
  clear hn b1
  go_wp2_with fail
  refine HC.out.mono ?_
  rintro e w9 ⟨rfl, h9, b9⟩
  have HF9 := hideB h9
  have HB9 := hideB b9
  clear h9 b9
  go_wp2_with fail
  go_ret
  exact LfOr.of HE.out (LfOr.add HF9.out hl (by omega) HB9.out)
set_option maxRecDepth 100000 in
set_option maxHeartbeats 6400000 in
theorem lfNamed_true {p : Nat} {Z : Nat → Prop} {fs : List FN} {w : World} {T : ByteArray} (h : LfAt w rb base Z s p false fs) (hZ : ∀ x, Z x → x < w.heap.size) (hs : s.size ≤ 1000) (hl : fs.length ≤ 40) (hf : s.size < p + f) (hp : 1 ≤ p) (HTW : T.data.toList = [116, 114, 117, 101]) :
    Calls Tryz.prog 120 #[.pointer (some ⟨rb, 0, none⟩), .string T] w (LfOr (namedF WSp R s.data.toList T.data.toList fs (skF s.data.toList p)) rb base Z s (p - 1) w) := by
  have HT : Hid (T.toList = T.data.toList) := by rw [Hid, ByteArray.toList_eq]
  have HF0 := hideB h
  have HZ : Hid (∀ x, Z x → x < w.heap.size) := hZ
  have HHR := hideB HR
  have HE : Hid (namedF WSp R s.data.toList T.data.toList fs (skF s.data.toList p) = addF WSp (nodeC ⟨2, 1, ByteArray.empty, [], []⟩) fs (skF s.data.toList p)) := by rw [Hid, HTW]; rfl
  have q_null : (T.toList == [110, 117, 108, 108]) = false := by rw [HT.out, HTW]; rfl
  have q_true : (T.toList == [116, 114, 117, 101]) = true := by rw [HT.out, HTW]; rfl
  clear h hZ HR HTW
  go_enter Tryz.func120, Tryz.ntmps120
  go_wp2_with fail
  refine (sBool_any true w).mono ?_
  rintro e w1 ⟨rfl, hn, b1⟩
  have HC := hideB (leaf_const HF0.out HZ.out (by omega) b1 hn)
  clear hn b1
  go_wp2_with fail
  refine HC.out.mono ?_
  rintro e w9 ⟨rfl, h9, b9⟩
  have HF9 := hideB h9
  have HB9 := hideB b9
  clear h9 b9
  go_wp2_with fail
  go_ret
  exact LfOr.of HE.out (LfOr.add HF9.out hl (by omega) HB9.out)
set_option maxRecDepth 100000 in
set_option maxHeartbeats 6400000 in
theorem lfNamed_false {p : Nat} {Z : Nat → Prop} {fs : List FN} {w : World} {T : ByteArray} (h : LfAt w rb base Z s p false fs) (hZ : ∀ x, Z x → x < w.heap.size) (hs : s.size ≤ 1000) (hl : fs.length ≤ 40) (hf : s.size < p + f) (hp : 1 ≤ p) (HTW : T.data.toList = [102, 97, 108, 115, 101]) :
    Calls Tryz.prog 120 #[.pointer (some ⟨rb, 0, none⟩), .string T] w (LfOr (namedF WSp R s.data.toList T.data.toList fs (skF s.data.toList p)) rb base Z s (p - 1) w) := by
  have HT : Hid (T.toList = T.data.toList) := by rw [Hid, ByteArray.toList_eq]
  have HF0 := hideB h
  have HZ : Hid (∀ x, Z x → x < w.heap.size) := hZ
  have HHR := hideB HR
  have HE : Hid (namedF WSp R s.data.toList T.data.toList fs (skF s.data.toList p) = addF WSp (nodeC ⟨2, 0, ByteArray.empty, [], []⟩) fs (skF s.data.toList p)) := by rw [Hid, HTW]; rfl
  have q_null : (T.toList == [110, 117, 108, 108]) = false := by rw [HT.out, HTW]; rfl
  have q_true : (T.toList == [116, 114, 117, 101]) = false := by rw [HT.out, HTW]; rfl
  have q_false : (T.toList == [102, 97, 108, 115, 101]) = true := by rw [HT.out, HTW]; rfl
  clear h hZ HR HTW
  go_enter Tryz.func120, Tryz.ntmps120
  go_wp2_with fail
  refine (sBool_any false w).mono ?_
  rintro e w1 ⟨rfl, hn, b1⟩
  have HC := hideB (leaf_const HF0.out HZ.out (by omega) b1 hn)
  clear hn b1
  go_wp2_with fail
  refine HC.out.mono ?_
  rintro e w9 ⟨rfl, h9, b9⟩
  have HF9 := hideB h9
  have HB9 := hideB b9
  clear h9 b9
  go_wp2_with fail
  go_ret
  exact LfOr.of HE.out (LfOr.add HF9.out hl (by omega) HB9.out)
set_option maxRecDepth 100000 in
set_option maxHeartbeats 6400000 in
theorem lfNamed_length {p : Nat} {Z : Nat → Prop} {fs : List FN} {w : World} {T : ByteArray} (h : LfAt w rb base Z s p false fs) (hZ : ∀ x, Z x → x < w.heap.size) (hs : s.size ≤ 1000) (hl : fs.length ≤ 40) (hf : s.size < p + f) (hp : 1 ≤ p) (HTW : T.data.toList = [108, 101, 110, 103, 116, 104]) :
    Calls Tryz.prog 120 #[.pointer (some ⟨rb, 0, none⟩), .string T] w (LfOr (namedF WSp R s.data.toList T.data.toList fs (skF s.data.toList p)) rb base Z s (p - 1) w) := by
  have HT : Hid (T.toList = T.data.toList) := by rw [Hid, ByteArray.toList_eq]
  have HF0 := hideB h
  have HZ : Hid (∀ x, Z x → x < w.heap.size) := hZ
  have HHR := hideB HR
  have HE : Hid (namedF WSp R s.data.toList T.data.toList fs (skF s.data.toList p) = addF WSp (nodeK 11) fs (skF s.data.toList p)) := by rw [Hid, HTW]; rfl
  have q_null : (T.toList == [110, 117, 108, 108]) = false := by rw [HT.out, HTW]; rfl
  have q_true : (T.toList == [116, 114, 117, 101]) = false := by rw [HT.out, HTW]; rfl
  have q_false : (T.toList == [102, 97, 108, 115, 101]) = false := by rw [HT.out, HTW]; rfl
  have q_length : (T.toList == [108, 101, 110, 103, 116, 104]) = true := by rw [HT.out, HTW]; rfl
  clear h hZ HR HTW
  go_enter Tryz.func120, Tryz.ntmps120
  have HA := hideB (lfAddK_any HF0.out (by omega) 11 ByteArray.empty 0)
  go_wp2_with fail
  refine HA.out.mono ?_
  rintro e w9 ⟨rfl, h9, b9⟩
  have HF9 := hideB h9
  have HB9 := hideB b9
  clear h9 b9
  go_wp2_with fail
  go_ret
  exact LfOr.of HE.out (LfOr.add HF9.out hl (by omega) HB9.out)
set_option maxRecDepth 100000 in
set_option maxHeartbeats 6400000 in
theorem lfNamed_keys {p : Nat} {Z : Nat → Prop} {fs : List FN} {w : World} {T : ByteArray} (h : LfAt w rb base Z s p false fs) (hZ : ∀ x, Z x → x < w.heap.size) (hs : s.size ≤ 1000) (hl : fs.length ≤ 40) (hf : s.size < p + f) (hp : 1 ≤ p) (HTW : T.data.toList = [107, 101, 121, 115]) :
    Calls Tryz.prog 120 #[.pointer (some ⟨rb, 0, none⟩), .string T] w (LfOr (namedF WSp R s.data.toList T.data.toList fs (skF s.data.toList p)) rb base Z s (p - 1) w) := by
  have HT : Hid (T.toList = T.data.toList) := by rw [Hid, ByteArray.toList_eq]
  have HF0 := hideB h
  have HZ : Hid (∀ x, Z x → x < w.heap.size) := hZ
  have HHR := hideB HR
  have HE : Hid (namedF WSp R s.data.toList T.data.toList fs (skF s.data.toList p) = addF WSp (nodeK 12) fs (skF s.data.toList p)) := by rw [Hid, HTW]; rfl
  have q_null : (T.toList == [110, 117, 108, 108]) = false := by rw [HT.out, HTW]; rfl
  have q_true : (T.toList == [116, 114, 117, 101]) = false := by rw [HT.out, HTW]; rfl
  have q_false : (T.toList == [102, 97, 108, 115, 101]) = false := by rw [HT.out, HTW]; rfl
  have q_length : (T.toList == [108, 101, 110, 103, 116, 104]) = false := by rw [HT.out, HTW]; rfl
  have q_keys : (T.toList == [107, 101, 121, 115]) = true := by rw [HT.out, HTW]; rfl
  clear h hZ HR HTW
  go_enter Tryz.func120, Tryz.ntmps120
  have HA := hideB (lfAddK_any HF0.out (by omega) 12 ByteArray.empty 0)
  go_wp2_with fail
  refine HA.out.mono ?_
  rintro e w9 ⟨rfl, h9, b9⟩
  have HF9 := hideB h9
  have HB9 := hideB b9
  clear h9 b9
  go_wp2_with fail
  go_ret
  exact LfOr.of HE.out (LfOr.add HF9.out hl (by omega) HB9.out)
set_option maxRecDepth 100000 in
set_option maxHeartbeats 6400000 in
theorem lfNamed_not {p : Nat} {Z : Nat → Prop} {fs : List FN} {w : World} {T : ByteArray} (h : LfAt w rb base Z s p false fs) (hZ : ∀ x, Z x → x < w.heap.size) (hs : s.size ≤ 1000) (hl : fs.length ≤ 40) (hf : s.size < p + f) (hp : 1 ≤ p) (HTW : T.data.toList = [110, 111, 116]) :
    Calls Tryz.prog 120 #[.pointer (some ⟨rb, 0, none⟩), .string T] w (LfOr (namedF WSp R s.data.toList T.data.toList fs (skF s.data.toList p)) rb base Z s (p - 1) w) := by
  have HT : Hid (T.toList = T.data.toList) := by rw [Hid, ByteArray.toList_eq]
  have HF0 := hideB h
  have HZ : Hid (∀ x, Z x → x < w.heap.size) := hZ
  have HHR := hideB HR
  have HE : Hid (namedF WSp R s.data.toList T.data.toList fs (skF s.data.toList p) = addF WSp (nodeK 13) fs (skF s.data.toList p)) := by rw [Hid, HTW]; rfl
  have q_null : (T.toList == [110, 117, 108, 108]) = false := by rw [HT.out, HTW]; rfl
  have q_true : (T.toList == [116, 114, 117, 101]) = false := by rw [HT.out, HTW]; rfl
  have q_false : (T.toList == [102, 97, 108, 115, 101]) = false := by rw [HT.out, HTW]; rfl
  have q_length : (T.toList == [108, 101, 110, 103, 116, 104]) = false := by rw [HT.out, HTW]; rfl
  have q_keys : (T.toList == [107, 101, 121, 115]) = false := by rw [HT.out, HTW]; rfl
  have q_not : (T.toList == [110, 111, 116]) = true := by rw [HT.out, HTW]; rfl
  clear h hZ HR HTW
  go_enter Tryz.func120, Tryz.ntmps120
  have HA := hideB (lfAddK_any HF0.out (by omega) 13 ByteArray.empty 0)
  go_wp2_with fail
  refine HA.out.mono ?_
  rintro e w9 ⟨rfl, h9, b9⟩
  have HF9 := hideB h9
  have HB9 := hideB b9
  clear h9 b9
  go_wp2_with fail
  go_ret
  exact LfOr.of HE.out (LfOr.add HF9.out hl (by omega) HB9.out)
set_option maxRecDepth 100000 in
set_option maxHeartbeats 6400000 in
theorem lfNamed_empty {p : Nat} {Z : Nat → Prop} {fs : List FN} {w : World} {T : ByteArray} (h : LfAt w rb base Z s p false fs) (hZ : ∀ x, Z x → x < w.heap.size) (hs : s.size ≤ 1000) (hl : fs.length ≤ 40) (hf : s.size < p + f) (hp : 1 ≤ p) (HTW : T.data.toList = [101, 109, 112, 116, 121]) :
    Calls Tryz.prog 120 #[.pointer (some ⟨rb, 0, none⟩), .string T] w (LfOr (namedF WSp R s.data.toList T.data.toList fs (skF s.data.toList p)) rb base Z s (p - 1) w) := by
  have HT : Hid (T.toList = T.data.toList) := by rw [Hid, ByteArray.toList_eq]
  have HF0 := hideB h
  have HZ : Hid (∀ x, Z x → x < w.heap.size) := hZ
  have HHR := hideB HR
  have HE : Hid (namedF WSp R s.data.toList T.data.toList fs (skF s.data.toList p) = addF WSp (nodeK 14) fs (skF s.data.toList p)) := by rw [Hid, HTW]; rfl
  have q_null : (T.toList == [110, 117, 108, 108]) = false := by rw [HT.out, HTW]; rfl
  have q_true : (T.toList == [116, 114, 117, 101]) = false := by rw [HT.out, HTW]; rfl
  have q_false : (T.toList == [102, 97, 108, 115, 101]) = false := by rw [HT.out, HTW]; rfl
  have q_length : (T.toList == [108, 101, 110, 103, 116, 104]) = false := by rw [HT.out, HTW]; rfl
  have q_keys : (T.toList == [107, 101, 121, 115]) = false := by rw [HT.out, HTW]; rfl
  have q_not : (T.toList == [110, 111, 116]) = false := by rw [HT.out, HTW]; rfl
  have q_empty : (T.toList == [101, 109, 112, 116, 121]) = true := by rw [HT.out, HTW]; rfl
  clear h hZ HR HTW
  go_enter Tryz.func120, Tryz.ntmps120
  have HA := hideB (lfAddK_any HF0.out (by omega) 14 ByteArray.empty 0)
  go_wp2_with fail
  refine HA.out.mono ?_
  rintro e w9 ⟨rfl, h9, b9⟩
  have HF9 := hideB h9
  have HB9 := hideB b9
  clear h9 b9
  go_wp2_with fail
  go_ret
  exact LfOr.of HE.out (LfOr.add HF9.out hl (by omega) HB9.out)
set_option maxRecDepth 100000 in
set_option maxHeartbeats 6400000 in
theorem lfNamed_select {p : Nat} {Z : Nat → Prop} {fs : List FN} {w : World} {T : ByteArray} (h : LfAt w rb base Z s p false fs) (hZ : ∀ x, Z x → x < w.heap.size) (hs : s.size ≤ 1000) (hl : fs.length ≤ 40) (hf : s.size < p + f) (hp : 1 ≤ p) (HTW : T.data.toList = [115, 101, 108, 101, 99, 116]) :
    Calls Tryz.prog 120 #[.pointer (some ⟨rb, 0, none⟩), .string T] w (LfOr (namedF WSp R s.data.toList T.data.toList fs (skF s.data.toList p)) rb base Z s (p - 1) w) := by
  have HT : Hid (T.toList = T.data.toList) := by rw [Hid, ByteArray.toList_eq]
  have HF0 := hideB h
  have HZ : Hid (∀ x, Z x → x < w.heap.size) := hZ
  have HHR := hideB HR
  have HE : Hid (namedF WSp R s.data.toList T.data.toList fs (skF s.data.toList p) = selF WSp R s.data.toList fs (skF s.data.toList p)) := by rw [Hid, HTW]; rfl
  have q_null : (T.toList == [110, 117, 108, 108]) = false := by rw [HT.out, HTW]; rfl
  have q_true : (T.toList == [116, 114, 117, 101]) = false := by rw [HT.out, HTW]; rfl
  have q_false : (T.toList == [102, 97, 108, 115, 101]) = false := by rw [HT.out, HTW]; rfl
  have q_length : (T.toList == [108, 101, 110, 103, 116, 104]) = false := by rw [HT.out, HTW]; rfl
  have q_keys : (T.toList == [107, 101, 121, 115]) = false := by rw [HT.out, HTW]; rfl
  have q_not : (T.toList == [110, 111, 116]) = false := by rw [HT.out, HTW]; rfl
  have q_empty : (T.toList == [101, 109, 112, 116, 121]) = false := by rw [HT.out, HTW]; rfl
  have q_select : (T.toList == [115, 101, 108, 101, 99, 116]) = true := by rw [HT.out, HTW]; rfl
  clear h hZ HR HTW
  go_enter Tryz.func120, Tryz.ntmps120
  have HS0 := hideB (LfSt.good (p0 := p) HF0.out hl (Nat.le_refl _))
  have HW := hideB (want_st 40 (by omega) HS0.out)
  go_wp2_with fail
  refine HW.out.mono ?_
  rintro e w1 ⟨rfl, b1, s1⟩
  have HB1 := hideB b1
  have HZ1 : Hid (∀ x, Z x → x < w1.heap.size) := fun x hx => Nat.lt_of_lt_of_le (HZ.out x hx) b1.size
  obtain ⟨c1, hc1⟩ : ∃ c1 : CF, ((some (fs, skF s.data.toList p) : CF).bind fun x => if isAt s.data.toList x.2 (40 : UInt8).toNat = true then some (x.1, skF s.data.toList (x.2 + 1)) else none) = c1 := ⟨_, rfl⟩
  rw [hc1] at s1
  have HC1 := hideB hc1
  have HL := hideB (level_st HHR.out 1 (by decide) (by decide) HZ1.out hf s1)
  clear b1 s1 hc1
  go_wp2_with fail
  refine HL.out.mono ?_
  rintro e w2 ⟨n, rfl, b2, s2, hn⟩
  have HB2 := hideB (HB1.out.trans b2)
  have HZ2 : Hid (∀ x, Z x → x < w2.heap.size) := fun x hx => Nat.lt_of_lt_of_le (HZ1.out x hx) b2.size
  have HN := hideB hn
  obtain ⟨c2, hc2⟩ : ∃ c2 : CF, (c1.bind fun x => (R 1 x.1 x.2).map (·.2)) = c2 := ⟨_, rfl⟩
  rw [hc2] at s2
  have HC2 := hideB hc2
  have HW2 := hideB (want_st 41 (by omega) s2)
  clear b2 s2 hn hc2
  go_wp2_with fail
  refine HW2.out.mono ?_
  rintro e w3 ⟨rfl, b3, s3⟩
  have HB3 := hideB (HB2.out.trans b3)
  have HZ3 : Hid (∀ x, Z x → x < w3.heap.size) := fun x hx => Nat.lt_of_lt_of_le (HZ2.out x hx) b3.size
  obtain ⟨c3, hc3⟩ : ∃ c3 : CF, (c2.bind fun x => if isAt s.data.toList x.2 (41 : UInt8).toNat = true then some (x.1, skF s.data.toList (x.2 + 1)) else none) = c3 := ⟨_, rfl⟩
  rw [hc3] at s3
  have HC3 := hideB hc3
  have HA := hideB (addR_st (p0 := p - 1) s3 (by omega) (by omega) HZ3.out 10 [n] (by simp))
  clear b3 s3 hc3
  go_wp2_with fail
  refine HA.out.mono ?_
  intro e w9 h9
  obtain ⟨n9, rfl, b9, s9, hn9⟩ := h9.st
  have HO9 := hideB h9
  clear h9 b9 s9 hn9
  go_wp2_with fail
  go_ret
  exact LfOr.of (HE.out.trans (selF_is HC1.out.symm HC2.out.symm HN.out HC3.out.symm)) (LfOr.after HB3.out (Nat.le_refl _) HO9.out)
set_option maxRecDepth 100000 in
set_option maxHeartbeats 6400000 in
theorem lfNamed_if {p : Nat} {Z : Nat → Prop} {fs : List FN} {w : World} {T : ByteArray} (h : LfAt w rb base Z s p false fs) (hZ : ∀ x, Z x → x < w.heap.size) (hs : s.size ≤ 1000) (hl : fs.length ≤ 40) (hf : s.size < p + f) (hp : 1 ≤ p) (HTW : T.data.toList = [105, 102]) :
    Calls Tryz.prog 120 #[.pointer (some ⟨rb, 0, none⟩), .string T] w (LfOr (namedF WSp R s.data.toList T.data.toList fs (skF s.data.toList p)) rb base Z s (p - 1) w) := by
  have HT : Hid (T.toList = T.data.toList) := by rw [Hid, ByteArray.toList_eq]
  have HF0 := hideB h
  have HZ : Hid (∀ x, Z x → x < w.heap.size) := hZ
  have HHR := hideB HR
  have HE : Hid (namedF WSp R s.data.toList T.data.toList fs (skF s.data.toList p) = ifF WSp R s.data.toList fs (skF s.data.toList p)) := by rw [Hid, HTW]; rfl
  have q_null : (T.toList == [110, 117, 108, 108]) = false := by rw [HT.out, HTW]; rfl
  have q_true : (T.toList == [116, 114, 117, 101]) = false := by rw [HT.out, HTW]; rfl
  have q_false : (T.toList == [102, 97, 108, 115, 101]) = false := by rw [HT.out, HTW]; rfl
  have q_length : (T.toList == [108, 101, 110, 103, 116, 104]) = false := by rw [HT.out, HTW]; rfl
  have q_keys : (T.toList == [107, 101, 121, 115]) = false := by rw [HT.out, HTW]; rfl
  have q_not : (T.toList == [110, 111, 116]) = false := by rw [HT.out, HTW]; rfl
  have q_empty : (T.toList == [101, 109, 112, 116, 121]) = false := by rw [HT.out, HTW]; rfl
  have q_select : (T.toList == [115, 101, 108, 101, 99, 116]) = false := by rw [HT.out, HTW]; rfl
  have q_if : (T.toList == [105, 102]) = true := by rw [HT.out, HTW]; rfl
  clear h hZ HR HTW
  go_enter Tryz.func120, Tryz.ntmps120
  have HL := hideB (HHR.out 1 Z fs p w (by decide) (by decide) HZ.out HF0.out hl hf)
  go_wp2_with fail
  refine HL.out.mono ?_
  intro e w1 h1
  obtain ⟨a, rfl, b1, s1, hn⟩ := h1.st
  have HB1 := hideB b1
  have HZ1 : Hid (∀ x, Z x → x < w1.heap.size) := fun x hx => Nat.lt_of_lt_of_le (HZ.out x hx) b1.size
  have HNA := hideB hn
  obtain ⟨ca, hca⟩ : ∃ ca : CF, (R 1 fs (skF s.data.toList p)).map (·.2) = ca := ⟨_, rfl⟩
  rw [hca] at s1
  have HCA := hideB hca
  have HT1 := hideB (then_st (u := ⟨#[116, 104, 101, 110]⟩) (by omega) ⟨116, [104, 101, 110], rfl, by decide⟩ s1)
  clear h1 b1 s1 hn hca
  go_wp2_with fail
  refine HT1.out.mono ?_
  rintro e w2 ⟨rfl, b2, s2⟩
  have HB2 := hideB (HB1.out.trans b2)
  have HZ2 : Hid (∀ x, Z x → x < w2.heap.size) := fun x hx => Nat.lt_of_lt_of_le (HZ1.out x hx) b2.size
  obtain ⟨sa, hsa⟩ : ∃ sa : CF, (ca.bind fun x => if nameF s.data.toList x.2 = (⟨#[116, 104, 101, 110]⟩ : ByteArray).data.toList then some (x.1, skF s.data.toList (nmJ s.data.toList x.2)) else none) = sa := ⟨_, rfl⟩
  rw [hsa] at s2
  have HSA := hideB hsa
  have HL2 := hideB (level_st HHR.out 1 (by decide) (by decide) HZ2.out hf s2)
  clear b2 s2 hsa
  go_wp2_with fail
  refine HL2.out.mono ?_
  rintro e w3 ⟨b, rfl, b3, s3, hn⟩
  have HB3 := hideB (HB2.out.trans b3)
  have HZ3 : Hid (∀ x, Z x → x < w3.heap.size) := fun x hx => Nat.lt_of_lt_of_le (HZ2.out x hx) b3.size
  have HNB := hideB hn
  obtain ⟨cb, hcb⟩ : ∃ cb : CF, (sa.bind fun x => (R 1 x.1 x.2).map (·.2)) = cb := ⟨_, rfl⟩
  rw [hcb] at s3
  have HCB := hideB hcb
  have HT2 := hideB (then_st (u := ⟨#[101, 108, 115, 101]⟩) (by omega) ⟨101, [108, 115, 101], rfl, by decide⟩ s3)
  clear b3 s3 hn hcb
  go_wp2_with fail
  refine HT2.out.mono ?_
  rintro e w4 ⟨rfl, b4, s4⟩
  have HB4 := hideB (HB3.out.trans b4)
  have HZ4 : Hid (∀ x, Z x → x < w4.heap.size) := fun x hx => Nat.lt_of_lt_of_le (HZ3.out x hx) b4.size
  obtain ⟨sb, hsb⟩ : ∃ sb : CF, (cb.bind fun x => if nameF s.data.toList x.2 = (⟨#[101, 108, 115, 101]⟩ : ByteArray).data.toList then some (x.1, skF s.data.toList (nmJ s.data.toList x.2)) else none) = sb := ⟨_, rfl⟩
  rw [hsb] at s4
  have HSB := hideB hsb
  have HL3 := hideB (level_st HHR.out 1 (by decide) (by decide) HZ4.out hf s4)
  clear b4 s4 hsb
  go_wp2_with fail
  refine HL3.out.mono ?_
  rintro e w5 ⟨c, rfl, b5, s5, hn⟩
  have HB5 := hideB (HB4.out.trans b5)
  have HZ5 : Hid (∀ x, Z x → x < w5.heap.size) := fun x hx => Nat.lt_of_lt_of_le (HZ4.out x hx) b5.size
  have HNC := hideB hn
  obtain ⟨cc, hcc⟩ : ∃ cc : CF, (sb.bind fun x => (R 1 x.1 x.2).map (·.2)) = cc := ⟨_, rfl⟩
  rw [hcc] at s5
  have HCC := hideB hcc
  have HT3 := hideB (then_st (u := ⟨#[101, 110, 100]⟩) (by omega) ⟨101, [110, 100], rfl, by decide⟩ s5)
  clear b5 s5 hn hcc
  go_wp2_with fail
  refine HT3.out.mono ?_
  rintro e w6 ⟨rfl, b6, s6⟩
  have HB6 := hideB (HB5.out.trans b6)
  have HZ6 : Hid (∀ x, Z x → x < w6.heap.size) := fun x hx => Nat.lt_of_lt_of_le (HZ5.out x hx) b6.size
  obtain ⟨se, hse⟩ : ∃ se : CF, (cc.bind fun x => if nameF s.data.toList x.2 = (⟨#[101, 110, 100]⟩ : ByteArray).data.toList then some (x.1, skF s.data.toList (nmJ s.data.toList x.2)) else none) = se := ⟨_, rfl⟩
  rw [hse] at s6
  have HSE := hideB hse
  have HA := hideB (addR_st (p0 := p - 1) s6 (by omega) (by omega) HZ6.out 22 [a, b, c] (by simp))
  clear b6 s6 hse
  go_wp2_with fail
  refine HA.out.mono ?_
  intro e w9 h9
  obtain ⟨n9, rfl, b9, s9, hn9⟩ := h9.st
  have HO9 := hideB h9
  clear h9 b9 s9 hn9
  go_wp2_with fail
  go_ret
  exact LfOr.of (HE.out.trans (ifF_is HCA.out.symm HNA.out HSA.out.symm HCB.out.symm HNB.out HSB.out.symm HCC.out.symm HNC.out HSE.out.symm)) (LfOr.after HB6.out (Nat.le_refl _) HO9.out)
set_option maxRecDepth 100000 in
set_option maxHeartbeats 6400000 in
theorem lfNamed_none {p : Nat} {Z : Nat → Prop} {fs : List FN} {w : World} {T : ByteArray} (h : LfAt w rb base Z s p false fs) (hZ : ∀ x, Z x → x < w.heap.size) (hs : s.size ≤ 1000) (hl : fs.length ≤ 40) (hf : s.size < p + f) (hp : 1 ≤ p) (n_null : T.data.toList ≠ [110, 117, 108, 108]) (n_true : T.data.toList ≠ [116, 114, 117, 101]) (n_false : T.data.toList ≠ [102, 97, 108, 115, 101]) (n_length : T.data.toList ≠ [108, 101, 110, 103, 116, 104]) (n_keys : T.data.toList ≠ [107, 101, 121, 115]) (n_not : T.data.toList ≠ [110, 111, 116]) (n_empty : T.data.toList ≠ [101, 109, 112, 116, 121]) (n_select : T.data.toList ≠ [115, 101, 108, 101, 99, 116]) (n_if : T.data.toList ≠ [105, 102]) :
    Calls Tryz.prog 120 #[.pointer (some ⟨rb, 0, none⟩), .string T] w (LfOr (namedF WSp R s.data.toList T.data.toList fs (skF s.data.toList p)) rb base Z s (p - 1) w) := by
  have HT : Hid (T.toList = T.data.toList) := by rw [Hid, ByteArray.toList_eq]
  have HF0 := hideB h
  have HZ : Hid (∀ x, Z x → x < w.heap.size) := hZ
  have HHR := hideB HR
  have HE : Hid (namedF WSp R s.data.toList T.data.toList fs (skF s.data.toList p) = none) := namedS_none n_null n_true n_false n_length n_keys n_not n_empty n_select n_if
  have q_null : (T.toList == [110, 117, 108, 108]) = false := by rw [HT.out]; exact beq_false_of_ne n_null
  have q_true : (T.toList == [116, 114, 117, 101]) = false := by rw [HT.out]; exact beq_false_of_ne n_true
  have q_false : (T.toList == [102, 97, 108, 115, 101]) = false := by rw [HT.out]; exact beq_false_of_ne n_false
  have q_length : (T.toList == [108, 101, 110, 103, 116, 104]) = false := by rw [HT.out]; exact beq_false_of_ne n_length
  have q_keys : (T.toList == [107, 101, 121, 115]) = false := by rw [HT.out]; exact beq_false_of_ne n_keys
  have q_not : (T.toList == [110, 111, 116]) = false := by rw [HT.out]; exact beq_false_of_ne n_not
  have q_empty : (T.toList == [101, 109, 112, 116, 121]) = false := by rw [HT.out]; exact beq_false_of_ne n_empty
  have q_select : (T.toList == [115, 101, 108, 101, 99, 116]) = false := by rw [HT.out]; exact beq_false_of_ne n_select
  have q_if : (T.toList == [105, 102]) = false := by rw [HT.out]; exact beq_false_of_ne n_if
  clear h hZ HR n_null n_true n_false n_length n_keys n_not n_empty n_select n_if
  have HFB := hideB (HF0.out.setB true)
  have HBB : Hid (LB rb base Z w (w.setCell ⟨rb, 2, none⟩ (.bool true))) := LB.of_set 2 _
  obtain ⟨c0, c1, c2⟩ := HF0.out.cells
  have f2 := HF0.out.free 2
  go_enter Tryz.func120, Tryz.ntmps120
  go_wp2_with fail
  go_ret
  exact LfOr.of HE.out (LfOr.no rfl HFB.out (by omega) (by omega) HBB.out)
theorem lfNamed_any {p : Nat} {Z : Nat → Prop} {fs : List FN} {w : World} {T : ByteArray} (h : LfAt w rb base Z s p false fs) (hZ : ∀ x, Z x → x < w.heap.size) (hs : s.size ≤ 1000) (hl : fs.length ≤ 40) (hf : s.size < p + f) (hp : 1 ≤ p) :
    Calls Tryz.prog 120 #[.pointer (some ⟨rb, 0, none⟩), .string T] w (LfOr (namedF WSp R s.data.toList T.data.toList fs (skF s.data.toList p)) rb base Z s (p - 1) w) := by
  by_cases n_null : T.data.toList = [110, 117, 108, 108]
  · exact lfNamed_null HR h hZ hs hl hf hp n_null
  by_cases n_true : T.data.toList = [116, 114, 117, 101]
  · exact lfNamed_true HR h hZ hs hl hf hp n_true
  by_cases n_false : T.data.toList = [102, 97, 108, 115, 101]
  · exact lfNamed_false HR h hZ hs hl hf hp n_false
  by_cases n_length : T.data.toList = [108, 101, 110, 103, 116, 104]
  · exact lfNamed_length HR h hZ hs hl hf hp n_length
  by_cases n_keys : T.data.toList = [107, 101, 121, 115]
  · exact lfNamed_keys HR h hZ hs hl hf hp n_keys
  by_cases n_not : T.data.toList = [110, 111, 116]
  · exact lfNamed_not HR h hZ hs hl hf hp n_not
  by_cases n_empty : T.data.toList = [101, 109, 112, 116, 121]
  · exact lfNamed_empty HR h hZ hs hl hf hp n_empty
  by_cases n_select : T.data.toList = [115, 101, 108, 101, 99, 116]
  · exact lfNamed_select HR h hZ hs hl hf hp n_select
  by_cases n_if : T.data.toList = [105, 102]
  · exact lfNamed_if HR h hZ hs hl hf hp n_if
  exact lfNamed_none HR h hZ hs hl hf hp n_null n_true n_false n_length n_keys n_not n_empty n_select n_if
end
end Go.Proofs.YtehihemfepbmfaaGreatDoor
