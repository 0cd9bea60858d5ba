/-
  The specification's l3Rc: maps.
-/
import Derived.Test.YtokhindolimchaaGreatScL
namespace Go.Proofs.YtokhindolimchaaGreat
open Go.RowKit
set_option linter.unusedSimpArgs false
set_option linter.unusedVariables false

theorem stake_any {rb p c : Nat} {n : Int} {s : ByteArray} {bad : Bool} {w : World} (h : ScAt w rb s p bad c) (hs : s.size ≤ 4000) (hn2 : -1 ≤ n) (hn3 : n ≤ 256000000000000255) :
    Calls Tryz.prog 61 #[.pointer (some ⟨rb, 0, none⟩), .int .i64 n] w fun e w' => ∃ key q b4, e = .returned (.string key) ∧ But rb w w' ∧ ScAt w' rb s q b4 c ∧ (bad = true → b4 = true) ∧ (∀ m : Nat, n = m → bad = false → (takeS s.data.toList m p = some (key, q) ∧ b4 = false) ∨ (takeS s.data.toList m p = none ∧ b4 = true)) := by
  have hle := h.le
  have hl := len_is s
  by_cases g : 0 ≤ n ∧ n ≤ 60 ∧ (p : Int) + n ≤ s.size
  · obtain ⟨k, rfl⟩ : ∃ k : Nat, n = k := ⟨n.toNat, by omega⟩
    refine (stake_yes h hs (by omega) (by omega)).mono ?_
    rintro e w' ⟨hb, rfl, hsc⟩
    refine ⟨_, _, bad, rfl, hb, hsc, id, fun m hm h0 => .inl ⟨?_, h0⟩⟩
    obtain rfl : k = m := by omega
    unfold takeS
    rw [if_pos ⟨by omega, by rw [hl]; omega⟩]
  · refine (stake_no h hs (by omega) (by omega) (by omega)).mono ?_
    rintro e w' ⟨hb, rfl, hsc⟩
    refine ⟨_, _, true, rfl, hb, hsc, fun _ => rfl, fun m hm h0 => .inr ⟨?_, rfl⟩⟩
    subst hm
    unfold takeS
    rw [if_neg (fun hx => g ⟨by omega, by omega, by have := hx.2; rw [hl] at this; omega⟩)]
theorem spRow_map_no {W : Nat → Option (ByteArray × Nat)} {S : Nat → Nat → Option (List VN × Nat × Nat)} {many deep p c : Nat} (hm : many ≤ 80) (hd : deep ≤ 8) (h : spPairs W S many p c = none) : spRow W S true many deep p c = none := by
  unfold spRow; rw [if_neg (by omega)]; simp [h]
theorem spRow_map_bad {W : Nat → Option (ByteArray × Nat)} {S : Nat → Nat → Option (List VN × Nat × Nat)} {many deep p c : Nat} {ks : List ByteArray} {l : List (List VN)} {q d : Nat} (hm : many ≤ 80) (hd : deep ≤ 8) (h : spPairs W S many p c = some (ks, l, q, d)) (hs : sortIn ks ks.length = none) : spRow W S true many deep p c = none := by
  unfold spRow; rw [if_neg (by omega)]; simp [h, hs]
theorem spRow_map_yes {W : Nat → Option (ByteArray × Nat)} {S : Nat → Nat → Option (List VN × Nat × Nat)} {many deep p c : Nat} {ks : List ByteArray} {l : List (List VN)} {q d : Nat} (hm : many ≤ 80) (hd : deep ≤ 8) (h : spPairs W S many p c = some (ks, l, q, d)) {ns : List ByteArray} {ps : List Nat} (hs : sortIn ks ks.length = some (ns, ps)) : spRow W S true many deep p c = some (makeNs 6 ns (fun j => rowAt l (ps.getD j 0)) ks.length, q, d) := by
  unfold spRow; rw [if_neg (by omega)]; simp [h, hs]
/-- What is read behind a key, if it could be read. -/
def behind (W : Nat → Option (ByteArray × Nat)) (S : Nat → Nat → Option (List VN × Nat × Nat)) (q d : Nat) : Option (List VN × Nat × Nat) := match W q with | none => none | some (_, r) => S r d

set_option maxRecDepth 100000 in
set_option maxHeartbeats 12800000 in
theorem row_map {rb p c many deep : Nat} {s : ByteArray} {w : World} {W : Nat → Option (ByteArray × Nat)} {S : Nat → Nat → Option (List VN × Nat × Nat)} (h : ScAt w rb s p false c) (hs : s.size ≤ 4000) (h1 : 1 ≤ c) (hc : c ≤ 80) (hmn : many ≤ 80) (hd : deep ≤ 8) (HS : SpOk S) (HW : WOk W)
    (hv : ∀ w q d, ScAt w rb s q false d → d ≤ 80 → p ≤ q → Calls Tryz.prog 29 #[.pointer (some ⟨rb, 0, none⟩), .int .i64 deep] w (ValOr rb s (S q d) w))
    (hbad : ∀ w q d, ScAt w rb s q true d → d ≤ 80 → Calls Tryz.prog 29 #[.pointer (some ⟨rb, 0, none⟩), .int .i64 deep] w (ValOr rb s none w))
    (hw : ∀ q, p ≤ q → q ≤ s.size → W q = if s.size ≤ q then none else match headS s.data.toList q with | none => none | some (n, r) => if byAt s.data.toList q / 32 = 3 then takeS s.data.toList n r else none) :
    Calls Tryz.prog 62 #[.pointer (some ⟨rb, 0, none⟩), .int .i64 many, .bool true, .int .i64 deep] w (ValOr rb s (spRow W S true many deep p c) w) := by
  have hrb := h.lt
  have H := hideB h
  have HV := hideB hv
  have HBD := hideB hbad
  have HWD := hideB hw
  have HSS := hideB HS
  have HWW := hideB HW
  clear h hv HS HW hbad hw
  obtain ⟨i1, hi1, hzz1, hs1, hy1⟩ := info_parts infoStr
  obtain ⟨i2, hi2, hzz2, hs2, hy2⟩ := info_parts infoRowV
  have o1 : ¬ (many : Int) < 0 := by omega
  have o2 : ¬ (80 : Int) < (many : Int) := by omega
  have o3 : ¬ (8 : Int) < (deep : Int) := by omega
  go_enter Tryz.func62, Tryz.ntmps62
  go_wp2_with fail
  have hba : Below w.heap.size w ((w.alloc (.cells #[] 9)).alloc (.cells #[] 25)) := ((Below.refl _ _).alloc (Nat.le_refl _) _).alloc (by simp) _
  have HKA : Hid (((w.alloc (.cells #[] 9)).alloc (.cells #[] 25)).ownsRow w.heap.size 9 1 (.slice (some ⟨w.heap.size, 0, none⟩) 0 0) 0 (([] : List ByteArray).map .string)) := (World.ownsRow_lit (base := w.heap.size) w #[] 0 (Nat.le_refl _) (by simp [maxLen]) rfl).alloc _
  have HRA : Hid (((w.alloc (.cells #[] 9)).alloc (.cells #[] 25)).ownsRow w.heap.size 25 1 (.slice (some ⟨w.heap.size + 1, 0, none⟩) 0 0) 0 []) := by
    have := World.ownsRow_lit (base := w.heap.size) (e := 25) (size := 1) (w.alloc (.cells #[] 9)) #[] 0 (by simp) (by simp [maxLen]) rfl
    simpa [Hid] using this
  have HDA := hideB (H.out.below hba)
  have HBA := hideB (But.of_below (rb := rb) hba)
  have hsA : w.heap.size ≤ ((w.alloc (.cells #[] 9)).alloc (.cells #[] 25)).heap.size := by simp; omega
  have HR0 := hideB (Rows2.start HRA.out hsA (rowAt []))
  generalize (w.alloc (.cells #[] 9)).alloc (.cells #[] 25) = WA at HDA HBA hsA HR0 HKA ⊢
  clear hba HRA
  go_loopw [9, 10, 11, 12, 13] (fun kv lv i _ _ wr => ∃ j : Nat, j ≤ many ∧ i = .int .i64 j ∧ But rb w wr ∧ w.heap.size ≤ wr.heap.size ∧ ((∃ (ks : List ByteArray) (l : List (List VN)) (q d : Nat) (rs : Nat → Value) (KV IV : Nat → Nat → Value) (lo : Nat → Nat), spPairs W S j p c = some (ks, l, q, d) ∧ ScAt wr rb s q false d ∧ Rows2 w.heap.size wr lv j (rowAt l) rs KV IV lo ∧ wr.ownsRow w.heap.size 9 1 kv j (ks.map .string) ∧ (∀ i, i < j → ∀ x, InNest (rs i) (rowAt l i).length (KV i) (IV i) x → kv.ownBlock ≠ some x)) ∨ (spPairs W S many p c = none ∧ ∃ d, d ≤ 81 ∧ Spoilt wr rb s d))) (fun _ _ i _ _ _ => many - (intOf i).toNat)
  case atStart => exact ⟨0, Nat.zero_le _, rfl, HBA.out, hsA, .inl ⟨[], [], p, c, _, _, _, _, rfl, HDA.out, HR0.out, HKA.out, fun t ht => by omega⟩⟩
  case round =>
    obtain ⟨j, hj, rfl, hbt, hzr, hor⟩ := hrel
    have HBT := hideB hbt
    clear hbt HR0 HDA HBA hsA HKA
    rcases hor with ⟨ks, l, q, d, rs, KV, IV, lo, hit, hsc, hrw, hkr, hin⟩ | ⟨hno, d, hd81, hsp⟩
    rotate_left
    · have HNO : Hid (spRow W S true many deep p c = none) := spRow_map_no hmn hd hno
      obtain ⟨pp, hsp⟩ := hsp
      have k2 := hsp.cells.2.2.1
      have HSC := hideB hsp
      have HN := hideB (sNull_any wr)
      clear hno hsp
      by_cases hm : j < many
      focus
        have hm' : (j : Int) < (many : Int) := by omega
        go_wp2_with fail
      rotate_left
      focus
        have hm' : ¬ (j : Int) < (many : Int) := by omega
        go_wp2_with fail
      all_goals
        refine HN.out.mono ?_
        rintro e w2 ⟨rfl, _, hb⟩
        have HB2 := hideB hb
        clear hb
        go_wp2_with fail
        go_ret
        exact ⟨_, _, _, rfl, HBT.out.trans (But.of_below HB2.out), .inr ⟨HNO.out, d, hd81, _, HSC.out.below HB2.out⟩⟩
    have HF := hideB (pairs_fine HWW.out HSS.out hc hit)
    have hdd : d ≤ 80 := HF.out.2.1
    have hpq : p ≤ q := HF.out.2.2.2.2.1
    have hqs : q ≤ s.size := hsc.le
    have HIT := hideB hit
    have HSC := hideB hsc
    have k2 := hsc.cells.2.2.1
    have HR := hideB hrw
    have HK := hideB hkr
    have HIN := hideB hin
    obtain ⟨ao, co, eo⟩ := own_slice hrw.row
    subst eo
    obtain ⟨ak, ck, ek⟩ := own_slice hkr
    subst ek
    clear hit hsc hrw hkr hin
    by_cases hm : j < many
    · have hm' : (j : Int) < (many : Int) := by omega
      have HTOP : Hid (∀ i, i < j → ∀ x, InNest (rs i) (rowAt l i).length (KV i) (IV i) x → x < wr.heap.size) := fun i hi x hx => by
        have h1 := HR.out.inn i hi x hx
        have h2 := HR.out.mono (i + 1) j (by omega) (Nat.le_refl _)
        have h3 := HR.out.top
        omega
      have HHD := hideB (shead_any HSC.out hs)
      have HWQ := hideB (HWD.out q hpq hqs)
      go_wp2_with fail
      refine HHD.out.mono ?_
      rintro e w1 ⟨b1, hor⟩
      have HB1 := hideB b1
      clear b1 HHD k2
      rcases hor with ⟨n, q1, hqlt, hhd, rfl, hsc1, hn⟩ | ⟨hno, ⟨a1, n1, rfl, hn1, hn2⟩, p1, hsc1⟩
      focus
        rw [if_neg (by omega), hhd] at HWQ
        have HSC1 := hideB hsc1
        have k2 := hsc1.cells.2.2.1
        have f2 := hsc1.free 2
        clear hsc1 hhd
        obtain ⟨A, hA⟩ : ∃ A, byAt s.data.toList q / 32 = A := ⟨_, rfl⟩
        rw [hA]
        have HWQ' : Hid (W q = if A = 3 then takeS s.data.toList n q1 else none) := by rw [← hA]; exact HWQ.out
        clear hA HWQ
        by_cases hA3 : A = 3
        focus
          subst hA3
          rw [if_pos rfl] at HWQ'
          have HTK := hideB (stake_any (n := (n : Int)) HSC1.out hs (by omega) (by omega))
          go_wp2_with fail
          refine HTK.out.mono ?_
          rintro e w4 ⟨key, q4, b4, rfl, hb4, hsc4, _, hall⟩
          have HB4 := hideB (HB1.out.trans hb4)
          have HS4 := hideB hsc4
          have HKO : Hid ((b4 = false ∧ W q = some (key, q4)) ∨ (b4 = true ∧ W q = none)) := by
            rcases hall n (by first | rfl | trivial) (by first | rfl | trivial) with ⟨x1, x2⟩ | ⟨x1, x2⟩
            · exact .inl ⟨x2, HWQ'.out.trans x1⟩
            · exact .inr ⟨x2, HWQ'.out.trans x1⟩
          clear hb4 hsc4 hall HTK HSC1 k2 f2 HWQ'
        rotate_left
        focus
          rw [if_neg hA3] at HWQ'
          have hA3' : ¬ ((A : Int) = 3) := by omega
          have HSC2 := hideB (HSC1.out.setB true)
          have HB2 := hideB (HB1.out.trans (But.of_set (rb := rb) 2 (.bool true)))
          have HTK := hideB (stake_any (n := (n : Int)) HSC2.out hs (by omega) (by omega))
          go_wp2_with fail
          refine HTK.out.mono ?_
          rintro e w4 ⟨key, q4, b4, rfl, hb4, hsc4, hbb, _⟩
          have HB4 := hideB (HB2.out.trans hb4)
          have HS4 := hideB hsc4
          have HKO : Hid ((b4 = false ∧ W q = some (key, q4)) ∨ (b4 = true ∧ W q = none)) := .inr ⟨hbb (by first | rfl | trivial), HWQ'.out⟩
          clear hb4 hsc4 hbb HTK HSC1 HSC2 HB2 k2 f2 HWQ'
      rotate_left 2
      focus
        have HWN : Hid (W q = none) := by
          rw [Hid, HWQ.out]
          by_cases hx : s.size ≤ q
          · rw [if_pos hx]
          · rw [if_neg hx, hno (by omega)]
        clear hno HWQ
        have HSC1 := hideB hsc1
        have k2 := hsc1.cells.2.2.1
        have f2 := hsc1.free 2
        clear hsc1
        by_cases hA3 : a1 = 3
        focus
          subst hA3
          have HTK := hideB (stake_any (n := n1) HSC1.out hs hn1 hn2)
          go_wp2_with fail
          refine HTK.out.mono ?_
          rintro e w4 ⟨key, q4, b4, rfl, hb4, hsc4, hbb, _⟩
          have HB4 := hideB (HB1.out.trans hb4)
          have HS4 := hideB hsc4
          have HKO : Hid ((b4 = false ∧ W q = some (key, q4)) ∨ (b4 = true ∧ W q = none)) := .inr ⟨hbb (by first | rfl | trivial), HWN.out⟩
          clear hb4 hsc4 hbb HTK HSC1 k2 f2 HWN
        rotate_left
        focus
          have HSC2 := hideB (HSC1.out.setB true)
          have HB2 := hideB (HB1.out.trans (But.of_set (rb := rb) 2 (.bool true)))
          have HTK := hideB (stake_any (n := n1) HSC2.out hs hn1 hn2)
          go_wp2_with fail
          refine HTK.out.mono ?_
          rintro e w4 ⟨key, q4, b4, rfl, hb4, hsc4, hbb, _⟩
          have HB4 := hideB (HB2.out.trans hb4)
          have HS4 := hideB hsc4
          have HKO : Hid ((b4 = false ∧ W q = some (key, q4)) ∨ (b4 = true ∧ W q = none)) := .inr ⟨hbb (by first | rfl | trivial), HWN.out⟩
          clear hb4 hsc4 hbb HTK HSC1 HSC2 HB2 k2 f2 HWN
      all_goals
        have z4 := HB4.out.size
        have HFW := hideB (HB4.out.from hrb)
        have HK3 := hideB (own_from HK.out HFW.out)
        have HR3 := hideB (HR.out.from HFW.out)
        go_wp2_with (at_builtin; refine wpList_append_own_at _ rfl _ _ 37 rfl w.heap.size 9 i1 (.string ByteArray.empty) 1 16 Tryz.underlying37 hi1 hzz1 hs1 hy1 rfl (by decide) _ _ _ rfl (HK3.out.alloc _) ⟨w4.heap.size, 0, none⟩ 1 1 [.string key] rfl rfl ?c1 ?c2 ?c3 ?c4 ?c5 ?_)
        case c1 => exact cell_one_new _ _ _
        case c2 => intro u hu; simp at hu; subst hu; rfl
        case c3 => unfold maxLen; omega
        case c4 => omega
        case c5 => simp; omega
        intro kv' w5 hownk hgk _ hatk
        have hg1 : w4.grownBy w5 (Value.slice ak j ck).ownBlock := (World.grownBy_alloc w4 _ _).trans hgk
        have HR5 := hideB (HR3.out.kept hg1 (own_apart HR3.out.row HK3.out (by decide)) HIN.out)
        have HK5 : Hid (w5.ownsRow w.heap.size 9 1 kv' (j + 1) ((ks ++ [key]).map .string)) := by rw [Hid, List.map_append]; exact hownk
        have hb5 : Below w.heap.size w4 w5 := ((Below.refl w.heap.size w4).alloc (by omega) _).grown hgk (by simp; omega) (fun y hy => (HK3.out.lt y hy).1)
        have HB5 := hideB ((HBT.out.trans HB4.out).far hb5 (Nat.le_refl _))
        have HS5 := hideB (HS4.out.far hb5 hrb)
        have z5 := hb5.size
        have HIN5 : Hid (∀ i, i < j → ∀ x, InNest (rs i) (rowAt l i).length (KV i) (IV i) x → kv'.ownBlock ≠ some x) := fun i hi x hx e2 => by
          rcases hatk with e | e
          · rw [e] at e2; exact HIN.out i hi x hx e2
          · rw [e] at e2
            have h1 := HTOP.out i hi x hx
            simp at e2
            omega
        have HCV : Hid (Calls Tryz.prog 29 #[.pointer (some ⟨rb, 0, none⟩), .int .i64 deep] w5 (ValOr rb s (behind W S q d) w5)) := by
          rcases HKO.out with ⟨eb, hW⟩ | ⟨eb, hW⟩
          · subst eb
            have := HWW.out q key q4 hW
            rw [Hid, behind, hW]
            exact HV.out w5 q4 d HS5.out hdd (by omega)
          · subst eb
            rw [Hid, behind, hW]
            exact HBD.out w5 q4 d HS5.out hdd
        obtain ⟨ak5, ck5, ek5⟩ := own_slice hownk
        subst ek5
        clear hownk hgk hatk hg1 hb5 HR3 HK3 HFW
        go_wp2_with fail
        refine HCV.out.mono ?_
        rintro e w6 ⟨ar, Lk, cr, rfl, hb6, hor6⟩
        have HOR := hideB hor6
        have HB6 := hideB (HB5.out.trans hb6)
        have HFR := hideB (hb6.from hrb)
        have z6 := hb6.size
        have HRO := hideB (HR5.out.from HFR.out).row
        have HK6 := hideB (own_from HK5.out HFR.out)
        clear hor6 hb6 HCV
        go_wp2_with (at_builtin; refine wpList_append_own_at _ rfl _ _ 76 rfl w.heap.size 25 i2 (.slice none 0 0) 1 24 Tryz.underlying76 hi2 hzz2 hs2 hy2 rfl (by decide) _ _ _ rfl (HRO.out.alloc _) ⟨w6.heap.size, 0, none⟩ 1 1 [.slice ar Lk cr] rfl rfl ?c1 ?c2 ?c3 ?c4 ?c5 ?_)
        case c1 => exact cell_one_new _ _ _
        case c2 => intro u hu; simp at hu; subst hu; rfl
        case c3 => unfold maxLen; omega
        case c4 => omega
        case c5 => simp; omega
        intro v' w7 hown hgrow _ _
        have hg7 : w6.grownBy w7 (Value.slice ao j co).ownBlock := (World.grownBy_alloc w6 _ _).trans hgrow
        have HK7 := hideB (HK6.out.kept hg7 (own_apart HK6.out HRO.out (by decide)))
        have hb7 : Below w.heap.size w6 w7 := ((Below.refl w.heap.size w6).alloc (by omega) _).grown hgrow (by simp; omega) (fun y hy => (HRO.out.lt y hy).1)
        have HB7 := hideB (HB6.out.far hb7 (Nat.le_refl _))
        have z7 := hb7.size
        have HFIN : Hid ((∃ (ks : List ByteArray) (l : List (List VN)) (q d : Nat) (rs : Nat → Value) (KV IV : Nat → Nat → Value) (lo : Nat → Nat), spPairs W S (j + 1) p c = some (ks, l, q, d) ∧ ScAt w7 rb s q false d ∧ Rows2 w.heap.size w7 v' (j + 1) (rowAt l) rs KV IV lo ∧ w7.ownsRow w.heap.size 9 1 (.slice ak5 (j + 1) ck5) (j + 1) (ks.map .string) ∧ (∀ i, i < j + 1 → ∀ x, InNest (rs i) (rowAt l i).length (KV i) (IV i) x → (Value.slice ak5 (j + 1) ck5).ownBlock ≠ some x)) ∨ (spPairs W S many p c = none ∧ ∃ d, d ≤ 81 ∧ Spoilt w7 rb s d)) := by
          rcases HOR.out with ⟨ns, q3, d3, KV3, IV3, hs3, hl3, hn3, hsc3⟩ | ⟨hs3, d3, hd3, hsp3⟩
          · subst hl3
            have hl := HF.out.2.2.1
            rcases HKO.out with ⟨eb, hW⟩ | ⟨eb, hW⟩
            rotate_left
            · rw [behind, hW] at hs3; cases hs3
            rw [behind, hW] at hs3
            have HRC := HR5.out.congr (L' := updF (rowAt l) j ns) (fun i hi => updF_other _ _ (by omega))
            have HR7 := HRC.snocF HFR.out (by rw [updF_same]; exact hn3) hown hgrow
            refine .inl ⟨ks ++ [key], l ++ [ns], q3, d3, _, _, _, _, spPairs_snoc HIT.out hW hs3, hsc3.far hb7 hrb, HR7.congr (fun i hi => rowAt_snoc hl i hi), HK7.out, fun i hi x hx e2 => ?_⟩
            rw [rowAt_snoc hl i hi] at hx
            by_cases e : i = j
            · subst e
              simp only [updF_same] at hx
              have h1 := (hn3.inn hx).1
              have h2 := (HK5.out.lt x e2).2
              omega
            · simp only [updF_other _ _ e] at hx
              exact HIN5.out i (by omega) x hx e2
          · refine .inr ⟨spPairs_stop HIT.out ?_ hm, d3, hd3, hsp3.far hb7 hrb⟩
            rcases HKO.out with ⟨eb, hW⟩ | ⟨eb, hW⟩
            · rw [behind, hW] at hs3; exact .inr ⟨_, _, hW, hs3⟩
            · exact .inl hW
        obtain ⟨a7, c7, e7⟩ := own_slice hown
        subst e7
        clear hown hgrow hb7 hg7
        go_wp2_with fail
        go_roundw
        case rel => exact ⟨j + 1, by omega, by go_num, HB7.out, by omega, HFIN.out⟩
        case measure => simp [intOf]; omega
    · obtain rfl : j = many := by omega
      have hm' : ¬ (j : Int) < (j : Int) := by omega
      have hkl := HF.out.2.2.2.2.2.1
      have HKL := hideB hkl
      have HST : Hid (StrsAt wr.heap.size wr (.slice ak j ck) ks) := own_strs (by rw [HKL.out]; exact HK.out) (by rw [HKL.out]; omega) (fun i hi => by have := HF.out.2.2.2.2.2.2 i (by rw [← HKL.out]; exact hi); omega)
      have HCL : Hid (CellsAt wr.heap.size wr (.slice ao j co) ks.length rs) := by
        rw [Hid, HKL.out]
        refine ⟨ao, co, rfl, fun i hi => ?_, fun hp => ?_⟩
        · obtain ⟨a, c, e⟩ := own_slice (HR.out.nest i hi).row; exact ⟨a, _, c, e⟩
        · obtain ⟨g, cap, e, _, hlt⟩ := HR.out.row.form hp
          cases e
          exact ⟨g, 0, rfl, hlt, fun i hi => by rw [Nat.zero_add, HR.out.row.cellAt i (by omega)]; simp [hi]⟩
      have HSO := hideB (l1Sorted_any wr.heap.size _ _ ks rs wr HST.out HCL.out (Nat.le_refl _) (by rw [HKL.out]; omega))
      clear hkl
      go_wp2_with fail
      refine HSO.out.mono ?_
      rintro e w6 ⟨hso, hb6⟩
      have HB6 := hideB hb6
      have z6 := hb6.size
      have HSC6 := hideB (HSC.out.below hb6)
      have HBT6 := hideB (HBT.out.trans (But.of_below hb6))
      clear hb6 HSO k2
      cases hs : sortIn ks ks.length with
      | none =>
        rw [hs] at hso
        obtain rfl : e = _ := hso
        have HNO : Hid (spRow W S true j deep p c = none) := spRow_map_bad hmn hd HIT.out hs
        have k2 := HSC6.out.cells.2.2.1
        have f2 := HSC6.out.free 2
        have HSC7 := hideB (HSC6.out.setB true)
        have HBT7 := hideB (HBT6.out.trans (But.of_set (rb := rb) 2 (.bool true)))
        clear hs
        go_wp2_with fail
        generalize w6.setCell ⟨rb, 2, none⟩ (.bool true) = W7 at HSC7 HBT7 ⊢
        refine (l1Make_any W7.heap.size 6 (.slice none 0 0) (.slice none 0 0) [] 0 (fun _ => []) W7 ⟨by simp, fun i hi => absurd hi (by simp), none, 0, rfl, fun h => absurd h (by simp)⟩ ⟨by omega, none, 0, rfl, fun h => by omega⟩ (Nat.le_refl _) (by omega) (by simp) (by simp [catNs]) (fun i hi => by omega)).mono ?_
        rintro e w8 ⟨r, KV8, IV8, rfl, hn8, hb8⟩
        have HB8 := hideB hb8
        obtain ⟨ar, cr, er⟩ := own_slice hn8.row
        obtain ⟨M, hM⟩ : ∃ M, (makeNs 6 [] (fun _ => []) 0).length = M := ⟨_, rfl⟩
        rw [hM] at er
        subst er
        clear hn8 hb8 hM k2 f2
        go_wp2_with fail
        go_ret
        exact ⟨_, _, _, rfl, HBT7.out.trans (But.of_below HB8.out), .inr ⟨HNO.out, d, by omega, _, HSC7.out.below HB8.out⟩⟩
      | some y =>
        obtain ⟨ns, ps⟩ := y
        rw [hs] at hso
        obtain ⟨nv, lv, rfl, hnv, hlv⟩ := hso
        have HYES := hideB (spRow_map_yes hmn hd HIT.out hs)
        have HSF := hideB (sorted_fine hs (l := l) (fun i hi => HF.out.2.2.2.1 i (by rw [← HKL.out]; exact hi)) (fun i hi => HF.out.2.2.2.2.2.2 i (by rw [← HKL.out]; exact hi)) (by rw [HKL.out]; omega))
        rw [HKL.out] at HSF HYES
        obtain ⟨hl1, hl2, hp3, hp4, hp5, hp6⟩ := HSF.out
        have HP4 := hideB hp4
        have HSN : Hid (StrsAt w6.heap.size w6 nv ns) := own_strs hnv (by omega) (fun i hi => by have := hp5 i hi; omega)
        have HPL := hideB (HR.out.places HB6.out (fun x hx => by have := sortIn_mem hs x hx; rw [HKL.out] at this; exact this) hl2 (by omega) (fun i hi => (HF.out.2.2.2.1 i hi).few) hlv)
        have hcat : (catNs (fun i => rowAt l (ps.getD i 0)) j).length + 1 ≤ 100000 := by have := HF.out.1; rw [hp6]; omega
        have HMK := hideB (l1Make_any w6.heap.size 6 _ _ ns j (fun i => rowAt l (ps.getD i 0)) w6 HSN.out HPL.out (Nat.le_refl _) (by omega) (by omega) hcat (fun i hi => (HP4.out i hi).near))
        obtain ⟨an, cn, en⟩ := own_slice hnv
        rw [hl1] at en
        subst en
        obtain ⟨al, cl, el⟩ := own_slice hlv
        rw [hl2] at el
        subst el
        clear hnv hlv hl1 hl2 hs hp3 hp4 hp5 hp6 hcat HSF
        go_wp2_with fail
        refine HMK.out.mono ?_
        rintro e w8 ⟨r, KV8, IV8, rfl, hn8, hb8⟩
        have HN8 := hideB (hn8.low (Nat.le_trans hzr z6))
        have HB8 := hideB hb8
        obtain ⟨ar, cr, er⟩ := own_slice hn8.row
        obtain ⟨M, hM⟩ : ∃ M, (makeNs 6 ns (fun i => rowAt l (ps.getD i 0)) j).length = M := ⟨_, rfl⟩
        have HM := hideB hM
        rw [hM] at er
        subst er
        clear hn8 hb8 hM
        go_wp2_with fail
        go_ret
        exact ⟨_, _, _, rfl, HBT6.out.trans (But.of_below HB8.out), .inl ⟨_, _, _, KV8, IV8, HYES.out, HM.out, HN8.out, HSC6.out.below HB8.out⟩⟩
end Go.Proofs.YtokhindolimchaaGreat
