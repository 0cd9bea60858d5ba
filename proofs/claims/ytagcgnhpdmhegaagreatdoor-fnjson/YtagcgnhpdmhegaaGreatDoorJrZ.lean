/-
  The program's jsonReader: a map.
-/
import Derived.Test.YtagcgnhpdmhegaaGreatDoorRdJ
namespace Go.Proofs.YtagcgnhpdmhegaaGreatDoor
open Go.RowKit
set_option linter.unusedSimpArgs false
set_option linter.unusedVariables false

theorem keyJ_yes {L : List UInt8} {p q : Nat} {l : List UInt8} (h1 : isAt L (skipJ L p) 34 = true) (h2 : txJ L (skipJ L p + 1) = some (l, q)) (h3 : isAt L (skipJ L q) 58 = true) : keyR L p = some (txt l, skipJ L q + 1) := by
  unfold keyR; rw [if_pos h1, h2]; dsimp only; rw [if_pos h3]
theorem keyJ_no {L : List UInt8} {p : Nat} (h : isAt L (skipJ L p) 34 = false ∨ txJ L (skipJ L p + 1) = none) : keyR L p = none := by
  unfold keyR
  rcases h with h | h
  · rw [if_neg (by rw [h]; simp)]
  · split
    · rw [h]
    · rfl
theorem keyJ_bad {L : List UInt8} {p q : Nat} {l : List UInt8} (h1 : isAt L (skipJ L p) 34 = true) (h2 : txJ L (skipJ L p + 1) = some (l, q)) (h3 : isAt L (skipJ L q) 58 = false) : keyR L p = none := by
  unfold keyR; rw [if_pos h1, h2]; dsimp only; rw [if_neg (by rw [h3]; simp)]
theorem prs_push {X : Option (List ByteArray × List VT × Nat)} {ks : List ByteArray} {ts : List VT} {k : ByteArray} {t : VT} : (X.map (fun y => (k :: y.1, t :: y.2.1, y.2.2))).map (fun y => (ks ++ y.1, ts ++ y.2.1, y.2.2)) = X.map (fun y => ((ks ++ [k]) ++ y.1, (ts ++ [t]) ++ y.2.1, y.2.2)) := by cases X <;> simp
theorem pairsJ_end {L : List UInt8} {R : Nat → Option (VT × Nat)} {m p : Nat} {z : ByteArray} {a : Nat} {t : VT} {q : Nat} (hk : keyR L p = some (z, a)) (h : R a = some (t, q)) (he : isAt L q 125 = true) : pairsJ L R (m + 1) p = some ([z], [t], q + 1) := by rw [pairsJ, hk]; simp [he, h]
theorem pairsJ_next {L : List UInt8} {R : Nat → Option (VT × Nat)} {m p : Nat} {z : ByteArray} {a : Nat} {t : VT} {q : Nat} (hk : keyR L p = some (z, a)) (h : R a = some (t, q)) (he : isAt L q 125 = false) (hc : isAt L q 44 = true) : pairsJ L R (m + 1) p = (pairsJ L R m (q + 1)).map (fun y => (z :: y.1, t :: y.2.1, y.2.2)) := by
  rw [pairsJ, hk]
  simp only [h, he, hc, if_true, Bool.false_eq_true, if_false]
  cases pairsJ L R m (q + 1) <;> rfl
theorem pairsJ_bad {L : List UInt8} {R : Nat → Option (VT × Nat)} {m p : Nat} {z : ByteArray} {a : Nat} {t : VT} {q : Nat} (hk : keyR L p = some (z, a)) (h : R a = some (t, q)) (he : isAt L q 125 = false) (hc : isAt L q 44 = false) : pairsJ L R (m + 1) p = none := by rw [pairsJ, hk]; simp [h, he, hc]
theorem pairsJ_none {L : List UInt8} {R : Nat → Option (VT × Nat)} {m p : Nat} {z : ByteArray} {a : Nat} (hk : keyR L p = some (z, a)) (h : R a = none) : pairsJ L R (m + 1) p = none := by rw [pairsJ, hk]; simp [h]
theorem pairsJ_nokey {L : List UInt8} {R : Nat → Option (VT × Nat)} {m p : Nat} (hk : keyR L p = none) : pairsJ L R (m + 1) p = none := by rw [pairsJ, hk]
theorem map_none (P : Nat → Prop) (w : World) (f : Nat) : TreeP P w (f + 1) (mapT [] []) (.iface 87 (.agg #[.slice none 0 0, .slice none 0 0])) := by
  have e : mapT [] [] = .mk 6 0 ByteArray.empty [] [] := by
    have h0 : srt [] = [] := List.eq_nil_of_length_eq_zero (srt_len [])
    unfold mapT; rw [h0]; rfl
  rw [e]
  exact .inr (.inr (.inr (.inr (.inr ⟨rfl, rfl, rfl, _, _, rfl, ⟨by simp, fun i hi => absurd hi (by simp), none, 0, rfl, fun hp => absurd hp (by simp)⟩, ⟨by simp, none, 0, rfl, fun hp => absurd hp (by simp)⟩⟩))))

set_option maxRecDepth 100000 in
set_option maxHeartbeats 6400000 in
theorem readMap_any {f rb p : Nat} {s : ByteArray} {w : World} (hA : AroundAll f rb s) (h : SrAt w rb s p) (hs : s.size ≤ 4000) (hf : s.size < p + 1 + f) (hp : isAt s.data.toList p 123 = true) :
    Calls Tryz.prog 99 #[.pointer (some ⟨rb, 0, none⟩)] w (JOr (mapJ s.data.toList (rdJ s.data.toList f) (p + 1)) (f + 1) rb s p w) := by
  have HA := hideIt hA
  have HLN := hideB (len_is s)
  have hrb := h.br.lt
  have HM := hideB (must_yes h (by omega) hp)
  obtain ⟨i1, hi1, hz1, hs1, hy1⟩ := info_parts infoV1
  obtain ⟨j1, hj1, hzj, hsj, hyj⟩ := info_parts infoS1
  have hps : p < s.size := by have := (isAt_yes.1 hp).1; rw [HLN.out] at this; exact this
  have HK1 := hideB (runJ_ge blankC s.data.toList (p + 1))
  clear h hp hA
  cases he : isAt s.data.toList (skipJ s.data.toList (p + 1)) 125
  · have HLI : Hid (mapJ s.data.toList (rdJ s.data.toList f) (p + 1) = (pairsJ s.data.toList (rdJ s.data.toList f) (s.data.toList.length + 1) (p + 1)).map (fun y => (mapT y.1 y.2.1, y.2.2))) := by
      rw [Hid]
      unfold mapJ
      rw [if_neg (by rw [he]; simp)]
      cases pairsJ s.data.toList (rdJ s.data.toList f) (s.data.toList.length + 1) (p + 1) <;> rfl
    obtain ⟨y0, hy0⟩ : ∃ y0, skipJ s.data.toList (p + 1) = y0 := ⟨_, rfl⟩
    have HY0 : Hid (skipJ s.data.toList (p + 1) = y0) := hy0
    have hy1' : p + 1 ≤ y0 := by rw [← hy0]; exact HK1.out
    rw [hy0] at HM he
    have HE := hideB he
    clear hy0 he
    go_enter Tryz.func99, Tryz.ntmps99
    go_wp2_with fail
    refine HM.out.mono ?_
    rintro e w1 ⟨rfl, hr1, hb1⟩
    have HT := hideB (took_no hr1 (by omega) (by omega) HE.out)
    have HB1 := hideB hb1
    clear hr1 hb1
    go_wp2_with fail
    refine HT.out.mono ?_
    rintro e w2 ⟨rfl, hr2, hb2⟩
    have HR2 := hideB hr2
    have HB2 := hideB (HB1.out.trans hb2)
    clear hr2 hb2
    go_wp2_with fail
    go_loopw [3, 4] (fun kv it wr => ∃ (m y pos : Nat) (ts : List VT) (xs : List Value) (ks : List ByteArray), ts.length + m = s.size + 1 ∧ ts.length + (p + 1) ≤ y ∧ y ≤ s.size ∧ SrAt wr rb s y ∧ But rb w wr ∧ Its w wr f it kv ts xs ks ∧ ks.length = ts.length ∧ (∀ i, i < ks.length → (keyAt ks i).size ≤ 4000) ∧ Hid (skipJ s.data.toList pos = y) ∧ Hid (pairsJ s.data.toList (rdJ s.data.toList f) (s.data.toList.length + 1) (p + 1) = (pairsJ s.data.toList (rdJ s.data.toList f) m pos).map (fun z => (ks ++ z.1, ts ++ z.2.1, z.2.2)))) (fun _ _ wr => s.size + 1 - placeOf wr rb)
    case atStart => exact ⟨s.size + 1, y0, p + 1, [], [], [], by simp, by simpa using hy1', HR2.out.br.le, HR2.out, HB2.out, Its.read (Its.nil w f) HB2.out hrb, rfl, fun i hi => absurd hi (by simp), HY0.out, by rw [Hid, HLN.out]; cases pairsJ s.data.toList (rdJ s.data.toList f) (s.size + 1) (p + 1) <;> simp⟩
    case round =>
      obtain ⟨m, y, pos, ts, xs, ks, hmt, hty, hys, hsr, hbt, hit, hkl, hkz, HPO, HIJ⟩ := hrel
      obtain ⟨m, rfl⟩ : ∃ m', m = m' + 1 := ⟨m - 1, by omega⟩
      have HS := hideIt hsr
      have HBT := hideIt hbt
      have HIT := hideIt hit
      have HKZ := hideIt hkz
      have zr := hbt.size
      obtain ⟨ai, ci, ei⟩ := own_slice hit.row
      obtain ⟨ak, ck, ek⟩ := own_slice hit.krow
      obtain ⟨k, hlen⟩ : ∃ k, ts.length = k := ⟨_, rfl⟩
      rw [hkl, hlen] at ek
      rw [hlen] at ei hmt hty hkl
      have HLEN := hideIt hlen
      have HKL := hideIt hkl
      subst ei ek
      have HC := hideIt (readText_any hsr hs)
      clear hsr hbt hit hlen hkl hkz
      go_wp2_with fail
      refine HC.out.mono ?_
      rintro e w3 ⟨⟨l, q1, hq34, htx, rfl, hs3⟩ | ⟨hno, rfl⟩, hbt3⟩
      · have HQ34 := hideIt hq34
        have HTX := hideIt htx
        obtain ⟨x1, x2, x3, _⟩ := txJ_says _ _ _ _ (Nat.le_refl _) htx
        rw [HLN.out] at x2
        have hz4 : (txt l).size ≤ 4000 := by rw [txt_size]; omega
        obtain ⟨z, hz⟩ : ∃ z, txt l = z := ⟨_, rfl⟩
        have HZ := hideIt hz
        rw [hz] at hz4 ⊢
        have HS3 := hideIt hs3
        have HIT3 := hideIt (HIT.out.read hbt3 hrb)
        have HBT3 := hideIt (HBT.out.trans hbt3)
        have z3 := hbt3.size
        have HLK : Hid (∀ b, (Value.slice ak k ck).ownBlock = some b → w.heap.size ≤ b ∧ b < wr.heap.size) := fun b hb' => HIT.out.krow.lt b hb'
        have HLI2 : Hid (∀ b, (Value.slice ai k ci).ownBlock = some b → w.heap.size ≤ b ∧ b < wr.heap.size) := fun b hb' => HIT.out.row.lt b hb'
        have HRO : Hid (w3.ownsRow w.heap.size 9 1 (.slice ak k ck) k (ks.map Value.string)) := by have := HIT3.out.krow; rw [HKL.out] at this; exact this
        clear hq34 htx hz hs3 hbt3
        go_wp2_with (at_builtin; refine wpList_append_own_at _ rfl _ _ 52 rfl w.heap.size 9 j1 (.string ByteArray.empty) 1 16 Tryz.underlying52 hj1 hzj hsj hyj rfl (by decide) _ _ _ rfl (HRO.out.alloc _) ⟨w3.heap.size, 0, none⟩ 1 1 [.string z] rfl rfl ?c1 ?c2 ?c3 ?c4 ?c5 ?_)
        case c1 => exact cell_one_new _ _ _
        case c2 => intro u hu; simp at hu; subst hu; rfl
        case c3 => unfold maxLen; omega
        case c4 => omega
        case c5 => simp; omega
        intro v' w5 hown hgrow _ hat
        have HIT5 := hideIt (HIT3.out.key (s := z) (by rw [HKL.out]; exact hown) (by exact hgrow) (by simpa using hat))
        have hga := (World.grownBy_alloc w3 (.cells #[.string z] 9) (Value.slice ak k ck).ownBlock).trans hgrow
        have HBT5 := hideIt (HBT3.out.grown (base := 0) hga (fun x hx => (HLK.out x hx).1))
        have HS5 := hideIt (HS3.out.grown hga (fun x hx => by have := (HLK.out x hx).1; omega))
        have z5 := hga.size
        have HKB : Hid (∀ b, v'.ownBlock = some b → b < w5.heap.size) := fun b hb' => (hown.lt b hb').2
        obtain ⟨ak5, ck5, ek5⟩ := own_slice hown
        subst ek5
        have HSK := hideIt (skip_any HS5.out (by omega))
        have HKK := hideB (runJ_ge blankC s.data.toList q1)
        obtain ⟨y1, hyq1⟩ : ∃ y1, skipJ s.data.toList q1 = y1 := ⟨_, rfl⟩
        have HY1 := hideIt hyq1
        rw [hyq1] at HSK
        have hqy : q1 ≤ y1 := by have a1 : q1 ≤ skipJ s.data.toList q1 := HKK.out; rw [hyq1] at a1; exact a1
        clear hown hgrow hat hga hyq1
        go_wp2_with fail
        refine HSK.out.mono ?_
        rintro e w6 ⟨rfl, hs6, hb6⟩
        have HS6 := hideIt hs6
        have HBT6 := hideIt (HBT5.out.trans hb6)
        have HIT6 := hideIt (HIT5.out.read hb6 hrb)
        have z6 := hb6.size
        clear hs6 hb6
        cases h58 : isAt s.data.toList y1 58
        · have HNO : Hid (mapJ s.data.toList (rdJ s.data.toList f) (p + 1) = none) := by rw [Hid, HLI.out, HIJ.out, pairsJ_nokey (keyJ_bad (by rw [HPO.out]; exact HQ34.out) (by rw [HPO.out]; exact HTX.out) (by rw [HY1.out]; exact h58))]; rfl
          have HM2 := hideIt (must_no HS6.out (by omega) (by omega) h58)
          clear h58
          go_wp2_with fail
          refine HM2.out.mono ?_
          rintro e w7 ⟨rfl, hb7⟩
          have HBT7 := hideIt (HBT6.out.trans hb7)
          clear hb7
          unfold gup
          go_wp2_with fail
          exact ⟨rfl, .inr ⟨HNO.out, rfl⟩, HBT7.out⟩
        · have HKEY : Hid (keyR s.data.toList pos = some (z, y1 + 1)) := by
            have := keyJ_yes (L := s.data.toList) (p := pos) (by rw [HPO.out]; exact HQ34.out) (by rw [HPO.out]; exact HTX.out) (by rw [HY1.out]; exact h58)
            rw [HZ.out, HY1.out] at this
            exact this
          have HM2 := hideIt (must_yes HS6.out (by omega) h58)
          have HK5 := hideB (runJ_ge blankC s.data.toList (y1 + 1))
          obtain ⟨y2, hy2⟩ : ∃ y2, skipJ s.data.toList (y1 + 1) = y2 := ⟨_, rfl⟩
          have hyy : y1 + 1 ≤ y2 := by have a1 : y1 + 1 ≤ skipJ s.data.toList (y1 + 1) := HK5.out; rw [hy2] at a1; exact a1
          have HRY : Hid (rdJ s.data.toList f y2 = rdJ s.data.toList f (y1 + 1)) := by rw [Hid, ← hy2, rdJ_skip]
          rw [hy2] at HM2
          clear h58 hy2
          go_wp2_with fail
          refine HM2.out.mono ?_
          rintro e w7 ⟨rfl, hs7, hb7⟩
          have HBT7 := hideIt (HBT6.out.trans hb7)
          have HIT7 := hideIt (HIT6.out.read hb7 hrb)
          have z7 := hb7.size
          have HC2 := hideIt (HA.out y2 w7 hs7 (by omega))
          clear hs7 hb7
          go_wp2_with fail
          refine HC2.out.mono ?_
          rintro e w8 ⟨⟨t, q, x, hr, rfl, htr, hs8, hyq⟩ | ⟨hr, rfl⟩, hbt8⟩
          · obtain ⟨ty, xx, rfl⟩ := htr.iface
            rw [HRY.out] at hr
            have HRD := hideIt hr
            have HTR := hideIt htr
            have HIT8 := hideIt (HIT7.out.read hbt8 hrb)
            have HBT8 := hideIt (HBT7.out.trans hbt8)
            have HS8 := hideIt hs8
            have hqs := hs8.br.le
            have z8 := hbt8.size
            have HRO2 : Hid (w8.ownsRow w.heap.size 36 1 (.slice ai k ci) k xs) := by have := HIT8.out.row; rw [HLEN.out] at this; exact this
            have HKZ2 := hideIt (key_snoc_le HKZ.out hz4)
            have zz7 : wr.heap.size ≤ w7.heap.size := by omega
            have zz5 : w5.heap.size ≤ w7.heap.size := by omega
            clear hr htr hs8 hbt8
            go_wp2_with (at_builtin; refine wpList_append_own_at _ rfl _ _ 69 rfl w.heap.size 36 i1 .nilIface 1 16 Tryz.underlying69 hi1 hz1 hs1 hy1 rfl (by decide) _ _ _ rfl (HRO2.out.alloc _) ⟨w8.heap.size, 0, none⟩ 1 1 [.iface ty xx] rfl rfl ?d1 ?d2 ?d3 ?d4 ?d5 ?_)
            case d1 => exact cell_one_new _ _ _
            case d2 => intro u hu; simp at hu; subst hu; rfl
            case d3 => unfold maxLen; omega
            case d4 => omega
            case d5 => simp; omega
            intro v6 w9 hown hgrow _ hat
            have HIT9 := hideIt (HIT8.out.item (wr := w7) (Nat.le_trans zr zz7) (fun b hb' => Nat.lt_of_lt_of_le (HLI2.out b (by rw [← hb'])).2 zz7) (fun b hb' => Nat.lt_of_lt_of_le (HKB.out b hb') zz5) HTR.out (by rw [HLEN.out]; exact hown) (by exact hgrow) (by exact hat))
            have hga := (World.grownBy_alloc w8 (.cells #[.iface ty xx] 36) (Value.slice ai k ci).ownBlock).trans hgrow
            have HBT9 := hideIt (HBT8.out.grown (base := 0) hga (fun x hx => (HLI2.out x hx).1))
            have HS9 := hideIt (HS8.out.grown hga (fun x hx => by have := (HLI2.out x hx).1; omega))
            obtain ⟨a9, c9, e9⟩ := own_slice hown
            subst e9
            clear hown hgrow hat hga
            cases he2 : isAt s.data.toList q 125
            · have HE2 := hideIt he2
              have HT2 := hideIt (took_no HS9.out (by omega) (by omega) he2)
              clear he2
              go_wp2_with fail
              refine HT2.out.mono ?_
              rintro e wA ⟨rfl, hsA, hbA⟩
              have HSA := hideIt hsA
              have HBTA := hideIt (HBT9.out.trans hbA)
              have HITA := hideIt (HIT9.out.read hbA hrb)
              clear hsA hbA
              cases he3 : isAt s.data.toList q 44
              · have HNO : Hid (mapJ s.data.toList (rdJ s.data.toList f) (p + 1) = none) := by rw [Hid, HLI.out, HIJ.out, pairsJ_bad HKEY.out HRD.out HE2.out he3]; rfl
                have HM3 := hideIt (must_no HSA.out (by omega) (by omega) he3)
                clear he3
                go_wp2_with fail
                refine HM3.out.mono ?_
                rintro e wB ⟨rfl, hbB⟩
                have HBTB := hideIt (HBTA.out.trans hbB)
                clear hbB
                unfold gup
                go_wp2_with fail
                exact ⟨rfl, .inr ⟨HNO.out, rfl⟩, HBTB.out⟩
              · have HIJ2 : Hid (pairsJ s.data.toList (rdJ s.data.toList f) (s.data.toList.length + 1) (p + 1) = (pairsJ s.data.toList (rdJ s.data.toList f) m (q + 1)).map (fun y => ((ks ++ [z]) ++ y.1, (ts ++ [t]) ++ y.2.1, y.2.2))) := by rw [Hid, HIJ.out, pairsJ_next HKEY.out HRD.out HE2.out he3]; exact prs_push
                have hq1 : q < s.size := by have := (isAt_yes.1 he3).1; rw [HLN.out] at this; exact this
                have HK2 := hideB (runJ_ge blankC s.data.toList (q + 1))
                have HK3 := hideB (runJ_le (P := blankC) (L := s.data.toList) (p := q + 1) (by rw [HLN.out]; omega))
                have HM3 := hideIt (must_yes HSA.out (by omega) he3)
                clear he3
                go_wp2_with fail
                refine HM3.out.mono ?_
                rintro e wB ⟨rfl, hsB, hbB⟩
                have HSB := hideIt hsB
                have HBTB := hideIt (HBTA.out.trans hbB)
                have HITB := hideIt (HITA.out.read hbB hrb)
                clear hsB hbB
                go_wp2_with fail
                go_roundw
                case rel =>
                  have a1 : q + 1 ≤ skipJ s.data.toList (q + 1) := HK2.out
                  have a2 : skipJ s.data.toList (q + 1) ≤ s.size := by have := HK3.out; rw [HLN.out] at this; exact this
                  exact ⟨m, skipJ s.data.toList (q + 1), q + 1, ts ++ [t], _, ks ++ [z], by rw [List.length_append, HLEN.out]; simp; omega, by rw [List.length_append, HLEN.out]; simp; omega, a2, HSB.out, HBTB.out, HITB.out, by rw [List.length_append, List.length_append, HLEN.out, HKL.out]; rfl, HKZ2.out, rfl, HIJ2.out⟩
                case measure =>
                  have a1 : q + 1 ≤ skipJ s.data.toList (q + 1) := HK2.out
                  have a2 : skipJ s.data.toList (q + 1) ≤ s.size := by have := HK3.out; rw [HLN.out] at this; exact this
                  rw [HS.out.placeOf, HSB.out.placeOf]; omega
            · have HYES : Hid (mapJ s.data.toList (rdJ s.data.toList f) (p + 1) = some (mapT (ks ++ [z]) (ts ++ [t]), q + 1)) := by rw [Hid, HLI.out, HIJ.out, pairsJ_end HKEY.out HRD.out he2]; rfl
              have HT2 := hideIt (took_yes HS9.out (by omega) he2)
              have HK2 := hideB (runJ_ge blankC s.data.toList (q + 1))
              clear he2
              go_wp2_with fail
              refine HT2.out.mono ?_
              rintro e wA ⟨rfl, hsA, hbA⟩
              have HSA := hideIt hsA
              have HBTA := hideIt (HBT9.out.trans hbA)
              have HITA := hideIt (HIT9.out.read hbA hrb)
              have zA := HBTA.out.size
              have HL1 : Hid ((ks ++ [z]).length = k + 1) := by rw [Hid, List.length_append, HKL.out]; rfl
              have HL2 : Hid ((ts ++ [t]).length = k + 1) := by rw [Hid, List.length_append, HLEN.out]; rfl
              obtain ⟨K2, hK2⟩ : ∃ K2, ks ++ [z] = K2 := ⟨_, rfl⟩
              obtain ⟨T2, hT2⟩ : ∃ T2, ts ++ [t] = T2 := ⟨_, rfl⟩
              rw [hK2] at HL1 HITA HYES HKZ2
              rw [hT2] at HL2 HITA HYES
              have HST := hideIt (HITA.out.strs (by rw [HL1.out]; omega) (fun i hi => by have := HKZ2.out i hi; omega))
              have HI : Hid (ItsAt wA (.slice a9 (k + 1) c9) K2.length (fun j => (xs ++ [Value.iface ty xx]).getD j .nilIface)) := by have := HITA.out.its; rw [HL2.out] at this; rw [HL1.out]; exact this
              clear hsA hbA hK2 hT2
              go_wp2_with fail
              refine (sortedMap_any wA.heap.size _ _ K2 _ wA HST.out HI.out (Nat.le_refl _) (by rw [HL1.out]; omega)).mono ?_
              rintro e wB ⟨g, k2, i2, rfl, hg, hok, hoi, hb2⟩
              have HMP := hideIt (HITA.out.map (by rw [HL1.out, HL2.out]) zA (by rw [HL2.out]; omega) (fun i hi => by have := HKZ2.out i hi; omega) hg hok hoi hb2)
              have HBTB := hideIt (HBTA.out.next (hb2.mono zA))
              have HSB := hideIt (HSA.out.below hb2)
              clear hg hok hoi hb2
              go_wp2_with fail
              go_ret
              exact ⟨.inl ⟨mapT K2 T2, q + 1, _, skipJ s.data.toList (q + 1), HYES.out, rfl, HMP.out, HSB.out, runJ_idem _ _ _, by have : q + 1 ≤ skipJ s.data.toList (q + 1) := HK2.out; omega⟩, HBTB.out⟩
          · rw [HRY.out] at hr
            have HNO : Hid (mapJ s.data.toList (rdJ s.data.toList f) (p + 1) = none) := by rw [Hid, HLI.out, HIJ.out, pairsJ_none HKEY.out hr]; rfl
            have HBT8 := hideIt (HBT7.out.trans hbt8)
            clear hr hbt8
            unfold gup
            go_wp2_with fail
            exact ⟨rfl, .inr ⟨HNO.out, rfl⟩, HBT8.out⟩
      · have HNO : Hid (mapJ s.data.toList (rdJ s.data.toList f) (p + 1) = none) := by rw [Hid, HLI.out, HIJ.out, pairsJ_nokey (keyJ_no (by rw [HPO.out]; exact hno))]; rfl
        have HBT3 := hideIt (HBT.out.trans hbt3)
        clear hno hbt3
        unfold gup
        go_wp2_with fail
        exact ⟨rfl, .inr ⟨HNO.out, rfl⟩, HBT3.out⟩
  · have HLI : Hid (mapJ s.data.toList (rdJ s.data.toList f) (p + 1) = some (mapT [] [], skipJ s.data.toList (p + 1) + 1)) := by rw [Hid]; unfold mapJ; rw [if_pos he]
    have HE := hideB he
    have HK2 := hideB (runJ_ge blankC s.data.toList (skipJ s.data.toList (p + 1) + 1))
    clear he
    go_enter Tryz.func99, Tryz.ntmps99
    go_wp2_with fail
    refine HM.out.mono ?_
    rintro e w1 ⟨rfl, hr1, hb1⟩
    have HT := hideB (took_yes hr1 (by omega) HE.out)
    have HB1 := hideB hb1
    clear hr1 hb1
    go_wp2_with fail
    refine HT.out.mono ?_
    rintro e w2 ⟨rfl, hr2, hb2⟩
    have HR2 := hideB hr2
    have HB2 := hideB (HB1.out.trans hb2)
    have HL2 := hideIt (map_none (NewB w w2) w2 f)
    clear hr2 hb2
    go_wp2_with fail
    go_ret
    refine ⟨.inl ⟨mapT [] [], _, _, _, HLI.out, rfl, HL2.out, HR2.out, runJ_idem _ _ _, ?_⟩, HB2.out⟩
    have a1 : p + 1 ≤ skipJ s.data.toList (p + 1) := HK1.out
    have a2 : skipJ s.data.toList (p + 1) + 1 ≤ skipJ s.data.toList (skipJ s.data.toList (p + 1) + 1) := HK2.out
    omega
end Go.Proofs.YtagcgnhpdmhegaaGreatDoor
