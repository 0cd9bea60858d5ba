/-
  The specification's l2Rj: a map that has parts.
-/
import Derived.Test.YtagcgnhpdmhegaaGreatDoorSjL
namespace Go.Proofs.YtagcgnhpdmhegaaGreatDoor
open Go.RowKit
set_option linter.unusedSimpArgs false
set_option linter.unusedVariables false

theorem spMapJ_of {L : List UInt8} {S : Nat → Nat → Option (List VN × Nat × Nat)} {deep p c : Nat} (h0 : isAt L (skipJ L p) 125 = false) (hd : deep ≤ 8) : spMapJ L S deep p c = match spPairsJ L S (L.length + 1) p c with | none => none | some (ks, l, z, d) => match sortIn ks ks.length with | none => none | some (nk, ps) => some (makeNs 6 nk (fun j => rowAt l (ps.getD j 0)) ks.length, z, d) := by
  unfold spMapJ
  rw [if_neg (by rw [h0]; simp), if_neg (by omega)]
  rfl
theorem key_noquote {L : List UInt8} {q : Nat} (h : isAt L (skipJ L q) 34 = false) : keyS L q = none := by
  unfold keyS keyR; rw [if_neg (by rw [h]; simp)]
theorem key_notext {L : List UInt8} {q : Nat} (h : isAt L (skipJ L q) 34 = true) (ht : TxNo L (skipJ L q + 1)) : keyS L q = none := by
  unfold keyS keyR
  rw [if_pos h]
  cases e : txJ L (skipJ L q + 1) with
  | none => rfl
  | some x =>
    obtain ⟨l, z⟩ := x
    have := ht l z e
    dsimp only
    split
    · rfl
    · rename_i s q' e2
      split at e2
      · simp only [Option.some.injEq, Prod.mk.injEq] at e2
        obtain ⟨rfl, rfl⟩ := e2
        rw [if_neg (by rw [txt_size]; omega)]
      · cases e2
theorem key_nocolon {L : List UInt8} {q z : Nat} {l : List UInt8} (h : isAt L (skipJ L q) 34 = true) (ht : txJ L (skipJ L q + 1) = some (l, z)) (hc : isAt L (skipJ L z) 58 = false) : keyS L q = none := by
  unfold keyS keyR
  rw [if_pos h, ht]
  simp [hc]
theorem key_yes {L : List UInt8} {q z : Nat} {l : List UInt8} (h : isAt L (skipJ L q) 34 = true) (ht : txJ L (skipJ L q + 1) = some (l, z)) (hl : l.length ≤ 60) (hc : isAt L (skipJ L z) 58 = true) : keyS L q = some (txt l, skipJ L z + 1) := by
  unfold keyS keyR
  rw [if_pos h, ht]
  simp [hc, txt_size, hl]
/-- What is read behind a key, if it could be read. -/
def behindJ (L : List UInt8) (S : Nat → Nat → Option (List VN × Nat × Nat)) (q d : Nat) : Option (List VN × Nat × Nat) := match keyS L q with | none => none | some (_, r) => S r d
theorem behindJ_none {L : List UInt8} {S : Nat → Nat → Option (List VN × Nat × Nat)} {q d : Nat} (h : keyS L q = none) : behindJ L S q d = none := by unfold behindJ; rw [h]
theorem behindJ_some {L : List UInt8} {S : Nat → Nat → Option (List VN × Nat × Nat)} {q d r : Nat} {k : ByteArray} (h : keyS L q = some (k, r)) : behindJ L S q d = S r d := by unfold behindJ; rw [h]

set_option maxRecDepth 100000 in
set_option maxHeartbeats 12800000 in
theorem row_mapJ {rb p c deep : Nat} {s : ByteArray} {w : World} {S : Nat → Nat → Option (List VN × Nat × Nat)} (h : SjAt w rb s p false c) (hs : s.size ≤ 4000) (h1 : 1 ≤ c) (hc : c ≤ 80) (hd : deep ≤ 8) (HS : SpOk S)
    (hat : isAt s.data.toList (skipJ s.data.toList p) 125 = false)
    (hv : ∀ w q d, SjAt w rb s q false d → d ≤ 80 → p ≤ q → Calls Tryz.prog 31 #[.pointer (some ⟨rb, 0, none⟩), .int .i64 deep] w (ValJ rb s (S q d) w))
    (hbad : ∀ w q d, SjAt w rb s q true d → d ≤ 80 → Calls Tryz.prog 31 #[.pointer (some ⟨rb, 0, none⟩), .int .i64 deep] w (ValJ rb s none w)) :
    Calls Tryz.prog 66 #[.pointer (some ⟨rb, 0, none⟩), .string ⟨#[125]⟩, .bool true, .int .i64 deep] w (ValJ rb s (spMapJ s.data.toList S deep p c) w) := by
  have hrb := h.lt
  have H := hideB h
  have HV := hideB hv
  have HBD := hideB hbad
  have HSS := hideB HS
  have HLN := hideB (len_is s)
  have HLO := hideB (spMapJ_of (S := S) (c := c) hat hd)
  have HST := hideB (PtP.start (L := s.data.toList) (S := S) (p := p) hc)
  have hpsk : p ≤ skipJ s.data.toList p := runJ_ge _ _ _
  clear h hv HS hbad
  obtain ⟨i1, hi1, hzz1, hs1, hy1⟩ := info_parts infoStr
  obtain ⟨i2, hi2, hzz2, hs2, hy2⟩ := info_parts infoRowV
  have o3 : (deep : Int) ≤ 8 := by omega
  have o4 : ((deep : Int) == 9) = false := by simp; omega
  have o5 : ¬ (deep : Int) = 9 := by omega
  go_enter Tryz.func66, Tryz.ntmps66
  go_wp2_with fail
  have hba : Below w.heap.size w ((w.alloc (.cells #[] 9)).alloc (.cells #[] 24)) := ((Below.refl _ _).alloc (Nat.le_refl _) _).alloc (by simp) _
  have HKA : Hid (((w.alloc (.cells #[] 9)).alloc (.cells #[] 24)).ownsRow w.heap.size 9 1 (.slice (some ⟨w.heap.size, 0, none⟩) 0 0) 0 (([] : List ByteArray).map .string)) := (World.ownsRow_lit (base := w.heap.size) w #[] 0 (Nat.le_refl _) (by simp [maxLen]) rfl).alloc _
  have HRA : Hid (((w.alloc (.cells #[] 9)).alloc (.cells #[] 24)).ownsRow w.heap.size 24 1 (.slice (some ⟨w.heap.size + 1, 0, none⟩) 0 0) 0 []) := by
    have := World.ownsRow_lit (base := w.heap.size) (e := 24) (size := 1) (w.alloc (.cells #[] 9)) #[] 0 (by simp) (by simp [maxLen]) rfl
    simpa [Hid] using this
  have HDA := hideB (H.out.below hba)
  have HBA := hideB (But.of_below (rb := rb) hba)
  have hsA : w.heap.size ≤ ((w.alloc (.cells #[] 9)).alloc (.cells #[] 24)).heap.size := by simp; omega
  have HR0 := hideB (Rows2.start HRA.out hsA (rowAt []))
  generalize (w.alloc (.cells #[] 9)).alloc (.cells #[] 24) = WA at HDA HBA hsA HR0 HKA ⊢
  clear hba HRA
  have HC1 := hideB (sjBlanks_any HDA.out hs)
  refine HC1.out.mono ?_
  rintro e w1 ⟨rfl, hsc, hb1⟩
  have HS1 := hideB hsc
  have HB1 := hideB hb1
  clear hsc hb1 HC1
  have HC2 := hideB (sjIs_no (u := ⟨#[125]⟩) HS1.out hs (by show (1 : Nat) ≤ 1000; omega) (.inr (by show wordAt _ _ [125] = false; rw [wordAt_one]; exact hat)))
  go_wp2_with fail
  refine HC2.out.mono ?_
  rintro e w2 ⟨rfl, hsc, hb2⟩
  have HS2 := hideB hsc
  have HB2 := hideB (HB1.out.trans hb2)
  have HR2 := hideB (HR0.out.from (HB2.out.fromJ hrb))
  have HK2 := hideB (own_from HKA.out (HB2.out.fromJ hrb))
  have HBW := hideB (HBA.out.trans HB2.out)
  clear hsc hb2 HC2 HB1 HR0 HDA HBA HS1 HB2 HKA
  go_wp2_with fail
  go_loopw [9, 10] (fun kv lv wr => But rb w wr ∧ w.heap.size ≤ wr.heap.size ∧ ((∃ (ks : List ByteArray) (l : List (List VN)) (q d : Nat) (rs : Nat → Value) (KV IV : Nat → Nat → Value) (lo : Nat → Nat), Hid (PtP s.data.toList S p c ks l q d) ∧ SjAt wr rb s q false d ∧ Rows2 w.heap.size wr lv l.length (rowAt l) rs KV IV lo ∧ wr.ownsRow w.heap.size 9 1 kv l.length (ks.map .string) ∧ (∀ i, i < l.length → ∀ x, InNest (rs i) (rowAt l i).length (KV i) (IV i) x → kv.ownBlock ≠ some x)) ∨ (Hid (spMapJ s.data.toList S deep p c = none) ∧ ∃ d, d ≤ 81 ∧ ∃ p', SjAt wr rb s p' true d))) (fun _ _ wr => if badOf wr rb = true then 0 else s.size + 1 - placeOf wr rb)
  case atStart => exact ⟨HBW.out, HBW.out.size, .inl ⟨[], [], _, c, _, _, _, _, HST, HS2.out, HR2.out, HK2.out, fun i hi => absurd hi (by simp)⟩⟩
  case round =>
    obtain ⟨hbt, hzr, hor⟩ := hrel
    have HBT := hideB hbt
    clear hbt HBW HS2 HR2 HK2
    rcases hor with ⟨ks, l, q, d, rs, KV, IV, lo, HIT, hsc, hrw, hkr, hin⟩ | ⟨HNO, d, hd81, p', hsp⟩
    rotate_left
    · have k2 := hsp.cells.2.2.1
      have HSC := hideB hsp
      have HN := hideB (sNull_any wr)
      clear hsp
      go_wp2_with fail
      refine HN.out.mono ?_
      rintro e w2 ⟨rfl, _, hb⟩
      have HB2 := hideB hb
      clear hb
      go_wp2_with fail
      go_ret
      exact ⟨_, _, _, rfl, HBT.out.trans (But.of_below HB2.out), .inr ⟨HNO.out, d, hd81, _, HSC.out.below HB2.out⟩⟩
    have HM : Hid ((if badOf wr rb = true then 0 else s.size + 1 - placeOf wr rb) = s.size + 1 - q) := by rw [Hid, hsc.badOf, hsc.placeOf]; simp
    have hdd : d ≤ 80 := HIT.out.ok.top
    have hpq : p ≤ q := by have := HIT.out.far; omega
    have hqs := hsc.le
    have HQL : Hid (q ≤ s.data.toList.length) := by rw [Hid, HLN.out]; exact hqs
    have hfew : l.length ≤ 80 := by have := HIT.out.ok.few; omega
    have HSC := hideB hsc
    have k2 := hsc.cells.2.2.1
    have HR := hideB hrw
    have HK := hideB hkr
    have HIN := hideB hin
    have hkl := HIT.out.same
    obtain ⟨ao, co, eo⟩ := own_slice hrw.row
    obtain ⟨ak, ck, ek⟩ := own_slice hkr
    obtain ⟨j, hj⟩ : ∃ j, l.length = j := ⟨_, rfl⟩
    have HJ := hideB hj
    rw [hj] at eo ek HR HK HIN hfew hkl
    have HKL := hideB hkl
    subst eo
    subst ek
    clear hsc hrw hkr hin hj hkl
    have HTOP : Hid (∀ i, i < j → ∀ x, InNest (rs i) (rowAt l i).length (KV i) (IV i) x → x < wr.heap.size) := fun i hi x hx => by
      have h1 := HR.out.inn i hi x hx
      have h2 := HR.out.mono (i + 1) j (by omega) (Nat.le_refl _)
      have h3 := HR.out.top
      omega
    have HCB := hideB (sjBlanks_any HSC.out hs)
    go_wp2_with fail
    refine HCB.out.mono ?_
    rintro e w1 ⟨rfl, hsc, hb1⟩
    have HS1 := hideB hsc
    have HB1 := hideB hb1
    clear hsc hb1 HCB k2
    cases h34 : isAt s.data.toList (skipJ s.data.toList q) 34
    focus
      have HNK := hideB (key_noquote h34)
      have HC2 := hideB (sjIs_no (u := ⟨#[34]⟩) HS1.out hs (by show (1 : Nat) ≤ 1000; omega) (.inr (by show wordAt _ _ [34] = false; rw [wordAt_one]; exact h34)))
      clear h34
      go_wp2_with fail
      refine HC2.out.mono ?_
      rintro e w2 ⟨rfl, hsc, hb2⟩
      obtain ⟨W3, hW3⟩ : ∃ W3, w2.setCell ⟨rb, 2, none⟩ (.bool true) = W3 := ⟨_, rfl⟩
      have HS3 : Hid (SjAt W3 rb s (skipJ s.data.toList q) true d) := by rw [Hid, ← hW3]; exact hsc.setB true
      have HB3 : Hid (But rb wr W3) := by rw [Hid, ← hW3]; exact (HB1.out.trans hb2).trans (But.of_set _ _)
      have k2 := hsc.cells.2.2.1
      have f2 := hsc.free 2
      clear hsc hb2 HC2
      have HCQ := hideB (sjQuoted_bad HS3.out)
      go_wp2_with fail
      refine HCQ.out.mono ?_
      rintro e w4 ⟨rfl, hb4, hsc4⟩
      clear hW3 k2 f2
      obtain ⟨key, hkey⟩ : ∃ key, (ByteArray.mk #[]) = key := ⟨_, rfl⟩
      have hkz : key.size ≤ 60 := by rw [← hkey]; exact Nat.zero_le _
      rw [hkey]
      clear hkey
      obtain ⟨z, hz⟩ : ∃ z, skipJ s.data.toList q = z := ⟨_, rfl⟩
      obtain ⟨b4, hb⟩ : ∃ b4 : Bool, true = b4 := ⟨_, rfl⟩
      have HS4 : Hid (SjAt w4 rb s z b4 d) := by rw [Hid, ← hz, ← hb]; exact hsc4
      have HB4 := hideB (HB3.out.trans hb4)
      have HKO : Hid ((b4 = false ∧ ∃ l, isAt s.data.toList (skipJ s.data.toList q) 34 = true ∧ txJ s.data.toList (skipJ s.data.toList q + 1) = some (l, z) ∧ l.length ≤ 60 ∧ key = txt l) ∨ (b4 = true ∧ keyS s.data.toList q = none)) := .inr ⟨hb.symm, HNK.out⟩
      clear hsc4 hb4 HCQ HS3 HB3 HNK hz hb HS1 HB1
    rotate_left
    focus
      have HQ34 := hideB h34
      have HC2 := hideB (sjIs_yes (u := ⟨#[34]⟩) HS1.out hs (by show (1 : Nat) ≤ 1000; omega) (by simp) (by show wordAt _ _ [34] = true; rw [wordAt_one]; exact h34))
      have e6 : skipJ s.data.toList q + (ByteArray.mk #[34]).size = skipJ s.data.toList q + 1 := rfl
      rw [e6] at HC2
      clear h34 e6
      go_wp2_with fail
      refine HC2.out.mono ?_
      rintro e w2 ⟨rfl, hsc, hb2⟩
      have HS3 := hideB hsc
      have HB3 := hideB (HB1.out.trans hb2)
      clear hsc hb2 HC2
      have HCQ := hideB (sjQuoted_any HS3.out hs)
      go_wp2_with fail
      refine HCQ.out.mono ?_
      rintro e w4 ⟨hb4, key, z, b4, rfl, hkz, hsc4, hor4⟩
      have HS4 := hideB hsc4
      have HB4 := hideB (HB3.out.trans hb4)
      have HKO : Hid ((b4 = false ∧ ∃ l, isAt s.data.toList (skipJ s.data.toList q) 34 = true ∧ txJ s.data.toList (skipJ s.data.toList q + 1) = some (l, z) ∧ l.length ≤ 60 ∧ key = txt l) ∨ (b4 = true ∧ keyS s.data.toList q = none)) := by
        rcases hor4 with ⟨l, x1, x2, x3, x4⟩ | ⟨x1, x2⟩
        · exact .inl ⟨x4, l, HQ34.out, x1, x2, x3⟩
        · exact .inr ⟨x1, key_notext HQ34.out x2⟩
      clear hsc4 hb4 hor4 HCQ HS3 HB3 HQ34 HS1 HB1
    all_goals
      have z4 := HB4.out.size
      have HFW := hideB (HB4.out.fromJ hrb)
      have HK3 := hideB (own_from HK.out HFW.out)
      have HR3 := hideB (HR.out.from HFW.out)
      go_wp2_with (at_builtin; refine wpList_append_own_at _ rfl _ _ 52 rfl w.heap.size 9 i1 (.string ByteArray.empty) 1 16 Tryz.underlying52 hi1 hzz1 hs1 hy1 rfl (by decide) _ _ _ rfl (HK3.out.alloc _) ⟨w4.heap.size, 0, none⟩ 1 1 [.string key] rfl rfl ?c1 ?c2 ?c3 ?c4 ?c5 ?_)
      case c1 => exact cell_one_new _ _ _
      case c2 => intro u hu; simp at hu; subst hu; rfl
      case c3 => unfold maxLen; omega
      case c4 => omega
      case c5 => simp; omega
      intro kv' w5 hownk hgk _ hatk
      have hg1 : w4.grownBy w5 (Value.slice ak j ck).ownBlock := (World.grownBy_alloc w4 _ _).trans hgk
      have HR5 := hideB (HR3.out.kept hg1 (own_apart HR3.out.row HK3.out (by decide)) HIN.out)
      have HK5 : Hid (w5.ownsRow w.heap.size 9 1 kv' (j + 1) ((ks ++ [key]).map .string)) := by rw [Hid, List.map_append]; exact hownk
      have hb5 : Below w.heap.size w4 w5 := ((Below.refl w.heap.size w4).alloc (by omega) _).grown hgk (by simp; omega) (fun y hy => (HK3.out.lt y hy).1)
      have HB5 := hideB ((HBT.out.trans HB4.out).farJ hb5 (Nat.le_refl _))
      have HS5 := hideB (HS4.out.far hb5 hrb)
      have z5 := hb5.size
      have HIN5 : Hid (∀ i, i < j → ∀ x, InNest (rs i) (rowAt l i).length (KV i) (IV i) x → kv'.ownBlock ≠ some x) := fun i hi x hx e2 => by
        rcases hatk with e | e
        · rw [e] at e2; exact HIN.out i hi x hx e2
        · rw [e] at e2
          have h1 := HTOP.out i hi x hx
          simp at e2
          omega
      obtain ⟨ak5, ck5, ek5⟩ := own_slice hownk
      subst ek5
      have HKL5 : Hid (∀ x, (Value.slice ak5 (j + 1) ck5).ownBlock = some x → x < w5.heap.size) := fun x hx => (HK5.out.lt x hx).2
      clear hownk hgk hatk hg1 hb5 HR3 HK3 HFW HS4 HB4
      have HCB := hideB (sjBlanks_any HS5.out hs)
      go_wp2_with fail
      refine HCB.out.mono ?_
      rintro e w6 ⟨rfl, hsc6, hb6⟩
      have HS6 := hideB hsc6
      have HB6 := hideB (HB5.out.trans hb6)
      have HF6 := hideB (hb6.fromJ (base := w.heap.size) hrb)
      have HR6 := hideB (HR5.out.from HF6.out)
      have HK6 := hideB (own_from HK5.out HF6.out)
      have z6 := hb6.size
      clear hsc6 hb6 HCB HR5 HK5 HS5 HB5 HF6
      by_cases hcol : b4 = false ∧ isAt s.data.toList (skipJ s.data.toList z) 58 = true
      focus
        obtain ⟨rfl, h58⟩ := hcol
        have HKS : Hid (∃ r, keyS s.data.toList q = some (key, r) ∧ r = skipJ s.data.toList z + 1) := by
          rcases HKO.out with ⟨_, l, x1, x2, x3, x4⟩ | ⟨h, _⟩
          · exact ⟨_, by rw [x4]; exact key_yes x1 x2 x3 h58, rfl⟩
          · cases h
        have HC7 := hideB (sjIs_yes (u := ⟨#[58]⟩) HS6.out hs (by show (1 : Nat) ≤ 1000; omega) (by simp) (by show wordAt _ _ [58] = true; rw [wordAt_one]; exact h58))
        have e6 : skipJ s.data.toList z + (ByteArray.mk #[58]).size = skipJ s.data.toList z + 1 := rfl
        rw [e6] at HC7
        clear h58 e6 HKO
        go_wp2_with fail
        refine HC7.out.mono ?_
        rintro e w7 ⟨rfl, hsc7, hb7⟩
        have HB7 := hideB (HB6.out.trans hb7)
        have HF7 := hideB (hb7.fromJ (base := w.heap.size) hrb)
        have HCV : Hid (Calls Tryz.prog 31 #[.pointer (some ⟨rb, 0, none⟩), .int .i64 deep] w7 (ValJ rb s (behindJ s.data.toList S q d) w7)) := by
          obtain ⟨r, x1, x2⟩ := HKS.out
          rw [Hid, behindJ_some x1]
          have := keyS_ok x1
          subst x2
          exact HV.out w7 _ d hsc7 hdd (by omega)
        have HKQ : Hid (keyS s.data.toList q = none ∨ ∃ r, keyS s.data.toList q = some (key, r) ∧ q < r) := by
          obtain ⟨r, x1, x2⟩ := HKS.out
          exact .inr ⟨r, x1, (keyS_ok x1).1⟩
        have z7 := hb7.size
        clear hsc7 hb7 HC7 HKS
      rotate_left
      focus
        have HNK : Hid (keyS s.data.toList q = none) := by
          rcases HKO.out with ⟨x0, l, x1, x2, x3, x4⟩ | ⟨_, h⟩
          · exact key_nocolon x1 x2 (by simpa using fun e => hcol ⟨x0, e⟩)
          · exact h
        have HC7 := hideB (sjIs_no (u := ⟨#[58]⟩) HS6.out hs (by show (1 : Nat) ≤ 1000; omega) (by
          show b4 = true ∨ wordAt _ _ [58] = false
          rw [wordAt_one]
          cases hb : b4
          · exact .inr (by simpa using fun e => hcol ⟨hb, e⟩)
          · exact .inl rfl))
        clear hcol HKO
        go_wp2_with fail
        refine HC7.out.mono ?_
        rintro e w7' ⟨rfl, hsc7, hb7⟩
        obtain ⟨w7, hw7⟩ : ∃ w7, w7'.setCell ⟨rb, 2, none⟩ (.bool true) = w7 := ⟨_, rfl⟩
        have HS7 : Hid (SjAt w7 rb s (skipJ s.data.toList z) true d) := by rw [Hid, ← hw7]; exact hsc7.setB true
        have hb7' : But rb w6 w7 := by rw [← hw7]; exact hb7.trans (But.of_set _ _)
        have HB7 := hideB (HB6.out.trans hb7')
        have HF7 := hideB (hb7'.fromJ (base := w.heap.size) hrb)
        have HCV : Hid (Calls Tryz.prog 31 #[.pointer (some ⟨rb, 0, none⟩), .int .i64 deep] w7 (ValJ rb s (behindJ s.data.toList S q d) w7)) := by
          rw [Hid, behindJ_none HNK.out]
          exact HBD.out w7 _ d HS7.out hdd
        have HKQ : Hid (keyS s.data.toList q = none ∨ ∃ r, keyS s.data.toList q = some (key, r) ∧ q < r) := .inl HNK.out
        have k2 := hsc7.cells.2.2.1
        have f2 := hsc7.free 2
        have z7 := hb7'.size
        clear hsc7 hb7 hb7' HC7 HNK
      all_goals
        have HR7 := hideB (HR6.out.from HF7.out)
        have HK7 := hideB (own_from HK6.out HF7.out)
        clear HR6 HK6 HF7 HS6 HB6
        go_wp2_with fail
        refine HCV.out.mono ?_
        rintro e w8 ⟨ar, Lk, cr, rfl, hb8, hor8⟩
        have HOR := hideB hor8
        have HB8 := hideB (HB7.out.trans hb8)
        have HFR := hideB (hb8.fromJ (base := w.heap.size) hrb)
        have z8 := hb8.size
        have HRO := hideB (HR7.out.from HFR.out).row
        have HK8 := hideB (own_from HK7.out HFR.out)
        clear hor8 hb8 HCV
        go_wp2_with (at_builtin; refine wpList_append_own_at _ rfl _ _ 108 rfl w.heap.size 24 i2 (.slice none 0 0) 1 24 Tryz.underlying108 hi2 hzz2 hs2 hy2 rfl (by decide) _ _ _ rfl (HRO.out.alloc _) ⟨w8.heap.size, 0, none⟩ 1 1 [.slice ar Lk cr] rfl rfl ?d1 ?d2 ?d3 ?d4 ?d5 ?_)
        case d1 => exact cell_one_new _ _ _
        case d2 => intro u hu; simp at hu; subst hu; rfl
        case d3 => unfold maxLen; omega
        case d4 => omega
        case d5 => simp; omega
        intro v' w9 hown hgrow _ _
        have hg9 : w8.grownBy w9 (Value.slice ao j co).ownBlock := (World.grownBy_alloc w8 _ _).trans hgrow
        have HK9 := hideB (HK8.out.kept hg9 (own_apart HK8.out HRO.out (by decide)))
        have hb9 : Below w.heap.size w8 w9 := ((Below.refl w.heap.size w8).alloc (by omega) _).grown hgrow (by simp; omega) (fun y hy => (HRO.out.lt y hy).1)
        have HB9 := hideB (HB8.out.farJ hb9 (Nat.le_refl _))
        have z9 := hb9.size
        have HFIN : Hid ((∃ (ns : List VN) (r q1 d1 : Nat) (rs : Nat → Value) (KV IV : Nat → Nat → Value) (lo : Nat → Nat), keyS s.data.toList q = some (key, r) ∧ q < r ∧ S r d = some (ns, q1, d1) ∧ SjAt w9 rb s q1 false d1 ∧ Rows2 w.heap.size w9 v' (j + 1) (rowAt (l ++ [ns])) rs KV IV lo ∧ (∀ i, i < j + 1 → ∀ x, InNest (rs i) (rowAt (l ++ [ns]) i).length (KV i) (IV i) x → (Value.slice ak5 (j + 1) ck5).ownBlock ≠ some x)) ∨ ((keyS s.data.toList q = none ∨ ∃ k r, keyS s.data.toList q = some (k, r) ∧ S r d = none) ∧ ∃ d, d ≤ 81 ∧ ∃ p', SjAt w9 rb s p' true d)) := by
          rcases HOR.out with ⟨ns, q3, d3, KV3, IV3, hs3, hl3, hn3, hsc3⟩ | ⟨hs3, d3, hd3, p3, hsp3⟩
          · subst hl3
            rcases HKQ.out with hx | ⟨r, hx, hqr⟩
            · rw [behindJ_none hx] at hs3; cases hs3
            rw [behindJ_some hx] at hs3
            have HRC := HR7.out.congr (L' := updF (rowAt l) j ns) (fun i hi => updF_other _ _ (by omega))
            have HR9 := HRC.snocF HFR.out (by rw [updF_same]; exact hn3) hown hgrow
            refine .inl ⟨ns, r, q3, d3, _, _, _, _, hx, hqr, hs3, hsc3.far hb9 hrb, HR9.congr (fun i hi => rowAt_snocJ HJ.out i hi), fun i hi x hx e2 => ?_⟩
            rw [rowAt_snocJ HJ.out i hi] at hx
            by_cases e : i = j
            · subst e
              simp only [updF_same] at hx
              have h1 := (hn3.inn hx).1
              have h2 := HKL5.out x e2
              omega
            · simp only [updF_other _ _ e] at hx
              exact HIN5.out i (by omega) x hx e2
          · refine .inr ⟨?_, d3, hd3, p3, hsp3.far hb9 hrb⟩
            rcases HKQ.out with hx | ⟨r, hx, _⟩
            · exact .inl hx
            · rw [behindJ_some hx] at hs3; exact .inr ⟨key, r, hx, hs3⟩
        obtain ⟨a9, c9, e9⟩ := own_slice hown
        subst e9
        clear hown hgrow hb9 hg9 HOR HRO HFR HKQ HR7 HK7 HK8
        rcases HFIN.out with ⟨ns, r, q1, d1, rs1, KV1, IV1, lo1, hkq, hqr, hS1, hsc9, hrw9, hin9⟩ | ⟨hS1, d1, hd1, p1, hsp9⟩
        rotate_left
        · have HNO : Hid (spMapJ s.data.toList S deep p c = none) := by
            rw [Hid, HLO.out, HIT.out.stop HQL.out (by rcases hS1 with h | ⟨k, r, h1, h2⟩; exact .inl h; exact .inr ⟨k, r, h1, .inl h2⟩)]
          have HS9 := hideB hsp9
          clear HFIN hS1 hsp9
          have HC6 := hideB (sjIs_no (u := ⟨#[125]⟩) HS9.out hs (by show (1 : Nat) ≤ 1000; omega) (.inl rfl))
          go_wp2_with fail
          refine HC6.out.mono ?_
          rintro e wA ⟨rfl, hsc, hbA⟩
          have HSA := hideB hsc
          have HBA := hideB (HB9.out.trans hbA)
          clear hsc hbA HC6
          have HC7 := hideB (sjIs_no (u := ⟨#[44]⟩) HSA.out hs (by show (1 : Nat) ≤ 1000; omega) (.inl rfl))
          go_wp2_with fail
          refine HC7.out.mono ?_
          rintro e wB ⟨rfl, hsc, hbB⟩
          have HSB := hideB hsc
          have HBB := hideB (HBA.out.trans hbB)
          have m2 := hsc.cells.2.2.1
          have n2 := hsc.free 2
          clear hsc hbB HC7
          go_wp2_with fail
          go_roundw
          case rel => exact ⟨HBB.out.trans (But.of_set _ _), (HBB.out.trans (But.of_set 2 (.bool true))).size, .inr ⟨HNO, d1, hd1, _, HSB.out.setB true⟩⟩
          case measure =>
            rw [HM.out, (HSB.out.setB true).badOf]
            simp
            omega
        have HS9 := hideB hsc9
        have HR9 := hideB hrw9
        have HIN9 := hideB hin9
        have HKQ := hideB hkq
        have HSQ := hideB hS1
        have HOK := hideB (HSS.out r d ns q1 d1 hdd hS1)
        have hq1 : q < q1 := by have := HOK.out.2.2.2; omega
        clear HFIN hS1 hsc9 hrw9 hin9 hkq hqr
        cases hend : isAt s.data.toList q1 125
        rotate_left
        · have HIS := hideB (HIT.out.last HQL.out HKQ.out HSQ.out hend)
          have HC6 := hideB (sjIs_yes (u := ⟨#[125]⟩) HS9.out hs (by show (1 : Nat) ≤ 1000; omega) (by simp) (by show wordAt _ _ [125] = true; rw [wordAt_one]; exact hend))
          have e6 : q1 + (ByteArray.mk #[125]).size = q1 + 1 := rfl
          rw [e6] at HC6
          have HRK := hideB (HIT.out.ok.snoc HOK.out.1 HOK.out.2.1 HOK.out.2.2.1)
          have HKZ := hideB (keys_size HIT.out.size (keyS_ok HKQ.out).2.2)
          clear hend e6
          go_wp2_with fail
          refine HC6.out.mono ?_
          rintro e wA ⟨rfl, hsc, hbA⟩
          have HSA := hideB hsc
          have HBA := hideB (HB9.out.trans hbA)
          have HFA := hideB (hbA.fromJ (base := w.heap.size) hrb)
          have HRA := hideB (HR9.out.from HFA.out)
          have HKA := hideB (own_from HK9.out HFA.out)
          have zA := HBA.out.size
          have m2 := hsc.cells.2.2.1
          clear hsc hbA HC6 HFA HS9 HB9 HR9 HK9
          have HLL : Hid ((l ++ [ns]).length = j + 1) := by rw [Hid, List.length_append, HJ.out]; rfl
          have HKK : Hid ((ks ++ [key]).length = j + 1) := by rw [Hid, List.length_append, HKL.out]; rfl
          have hj1 : j + 1 ≤ 80 := by have := HRK.out.few; rw [HLL.out] at this; omega
          have HSM : Hid (∀ i, i < j + 1 → SmNs (rowAt (l ++ [ns]) i)) := fun i hi => HRK.out.sm i (by rw [HLL.out]; exact hi)
          have HSUM : Hid (sumL (rowAt (l ++ [ns])) (j + 1) + 1 ≤ 100000) := by have h3 := HRK.out.sum; have h4 := HRK.out.top; rw [HLL.out] at h3; rw [Hid]; omega
          have HMO : Hid (spMapJ s.data.toList S deep p c = match sortIn (ks ++ [key]) (ks ++ [key]).length with | none => none | some (nk, ps) => some (makeNs 6 nk (fun j => rowAt (l ++ [ns]) (ps.getD j 0)) (ks ++ [key]).length, q1 + 1, d1)) := by rw [Hid, HLO.out, HIS.out]
          obtain ⟨KS, hKS⟩ : ∃ KS, ks ++ [key] = KS := ⟨_, rfl⟩
          rw [hKS] at HKA HKK HKZ HMO
          clear hKS HIS HRK HLL
          have HSTR : Hid (StrsAt wA.heap.size wA (.slice ak5 (j + 1) ck5) KS) := own_strs (by rw [HKK.out]; exact HKA.out) (by rw [HKK.out]; omega) (fun i hi => by have := HKZ.out i hi; omega)
          have HCL : Hid (CellsAt wA.heap.size wA (.slice a9 (j + 1) c9) KS.length rs1) := by
            rw [Hid, HKK.out]
            refine ⟨a9, c9, rfl, fun i hi => ?_, fun hp => ?_⟩
            · obtain ⟨a, c, e⟩ := own_slice (HRA.out.nest i hi).row; exact ⟨a, _, c, e⟩
            · obtain ⟨g, cap, e, _, hlt⟩ := HRA.out.row.form hp
              cases e
              exact ⟨g, 0, rfl, hlt, fun i hi => by rw [Nat.zero_add, HRA.out.row.cellAt i (by omega)]; simp [hi]⟩
          have HSO := hideB (l1Sorted_any wA.heap.size _ _ KS rs1 wA HSTR.out HCL.out (Nat.le_refl _) (by rw [HKK.out]; omega))
          go_wp2_with fail
          refine HSO.out.mono ?_
          rintro e wB ⟨hso, hbB⟩
          have HBB := hideB hbB
          have zB := hbB.size
          have HSB := hideB (HSA.out.below hbB)
          have HBTB := hideB (HBA.out.trans (But.of_below hbB))
          clear hbB HSO m2 HSTR HCL
          cases hs0 : sortIn KS KS.length with
          | none =>
            rw [hs0] at hso HMO
            obtain rfl : e = _ := hso
            obtain ⟨wC, hwC⟩ : ∃ wC, wB.setCell ⟨rb, 2, none⟩ (.bool true) = wC := ⟨_, rfl⟩
            have HSC' : Hid (SjAt wC rb s (q1 + 1) true d1) := by rw [Hid, ← hwC]; exact HSB.out.setB true
            have HBC' : Hid (But rb w wC) := by rw [Hid, ← hwC]; exact HBTB.out.trans (But.of_set _ _)
            have m2 := HSB.out.cells.2.2.1
            have n2 := HSB.out.free 2
            have HMK := hideB (l1Make_any wC.heap.size 6 (.slice none 0 0) (.slice none 0 0) [] 0 (fun _ => []) wC ⟨by simp, fun i hi => absurd hi (by simp), none, 0, rfl, fun h => absurd h (by simp)⟩ ⟨by omega, none, 0, rfl, fun h => by omega⟩ (Nat.le_refl _) (by omega) (by simp) (by simp [catNs]) (fun i hi => by omega))
            clear hs0
            go_wp2_with fail
            refine HMK.out.mono ?_
            rintro e wD ⟨rr, KV8, IV8, rfl, hn8, hb8⟩
            have HB8' := hideB hb8
            obtain ⟨aD, cD, eD⟩ := own_slice hn8.row
            obtain ⟨M, hM⟩ : ∃ M, (makeNs 6 [] (fun _ => []) 0).length = M := ⟨_, rfl⟩
            rw [hM] at eD
            subst eD
            clear hn8 hb8 hM m2 n2 hwC
            go_wp2_with fail
            go_ret
            exact ⟨_, _, _, rfl, HBC'.out.trans (But.of_below HB8'.out), .inr ⟨HMO.out, d1, by have := HOK.out.2.2.1; omega, _, HSC'.out.below HB8'.out⟩⟩
          | some y =>
            obtain ⟨nks, ps⟩ := y
            rw [hs0] at hso HMO
            obtain ⟨nv, lv, rfl, hnv, hlv⟩ := hso
            have HSF := hideB (sorted_fine hs0 (l := l ++ [ns]) (fun i hi => HSM.out i (by rw [← HKK.out]; exact hi)) (fun i hi => HKZ.out i hi) (by rw [HKK.out]; omega))
            have HYES : Hid (spMapJ s.data.toList S deep p c = some (makeNs 6 nks (fun i => rowAt (l ++ [ns]) (ps.getD i 0)) (j + 1), q1 + 1, d1)) := by rw [Hid, HMO.out, HKK.out]
            rw [HKK.out] at HSF
            obtain ⟨hl1, hl2, hp3, hp4, hp5, hp6⟩ := HSF.out
            have HP4 := hideB hp4
            have HSN : Hid (StrsAt wB.heap.size wB nv nks) := own_strs hnv (by omega) (fun i hi => by have := hp5 i hi; omega)
            have HPL := hideB (HRA.out.places HBB.out (fun x hx => by have := sortIn_mem hs0 x hx; rw [HKK.out] at this; exact this) hl2 (by omega) (fun i hi => (HSM.out i hi).few) hlv)
            have hcat : (catNs (fun i => rowAt (l ++ [ns]) (ps.getD i 0)) (j + 1)).length + 1 ≤ 100000 := by rw [hp6]; exact HSUM.out
            have HMK := hideB (l1Make_any wB.heap.size 6 _ _ nks (j + 1) (fun i => rowAt (l ++ [ns]) (ps.getD i 0)) wB HSN.out HPL.out (Nat.le_refl _) (by omega) (by omega) hcat (fun i hi => (HP4.out i hi).near))
            obtain ⟨an, cn, en⟩ := own_slice hnv
            rw [hl1] at en
            subst en
            obtain ⟨al, cl, el⟩ := own_slice hlv
            rw [hl2] at el
            subst el
            clear hnv hlv hl1 hl2 hs0 hp3 hp4 hp5 hp6 hcat HSF HMO
            go_wp2_with fail
            refine HMK.out.mono ?_
            rintro e wD ⟨rr, KV8, IV8, rfl, hn8, hb8⟩
            have HN8 := hideB (hn8.low (Nat.le_trans zA zB))
            have HB8' := hideB hb8
            obtain ⟨aD, cD, eD⟩ := own_slice hn8.row
            obtain ⟨M, hM⟩ : ∃ M, (makeNs 6 nks (fun i => rowAt (l ++ [ns]) (ps.getD i 0)) (j + 1)).length = M := ⟨_, rfl⟩
            have HMM := hideB hM
            rw [hM] at eD
            subst eD
            clear hn8 hb8 hM
            go_wp2_with fail
            go_ret
            exact ⟨_, _, _, rfl, HBTB.out.trans (But.of_below HB8'.out), .inl ⟨_, _, _, KV8, IV8, HYES.out, HMM.out, HN8.out, HSB.out.below HB8'.out⟩⟩
        have HC6 := hideB (sjIs_no (u := ⟨#[125]⟩) HS9.out hs (by show (1 : Nat) ≤ 1000; omega) (.inr (by show wordAt _ _ [125] = false; rw [wordAt_one]; exact hend)))
        have HQE := hideB hend
        clear hend
        go_wp2_with fail
        refine HC6.out.mono ?_
        rintro e wA ⟨rfl, hsc, hbA⟩
        have HSA := hideB hsc
        have HBA := hideB (HB9.out.trans hbA)
        have HFA := hideB (hbA.fromJ (base := w.heap.size) hrb)
        have HRA := hideB (HR9.out.from HFA.out)
        have HKA := hideB (own_from HK9.out HFA.out)
        clear hsc hbA HC6 HFA HS9 HB9 HR9 HK9
        cases h44 : isAt s.data.toList q1 44
        · have HNO : Hid (spMapJ s.data.toList S deep p c = none) := by rw [Hid, HLO.out, HIT.out.stop HQL.out (.inr ⟨key, r, HKQ.out, .inr ⟨ns, q1, d1, HSQ.out, HQE.out, h44⟩⟩)]
          have HC7 := hideB (sjIs_no (u := ⟨#[44]⟩) HSA.out hs (by show (1 : Nat) ≤ 1000; omega) (.inr (by show wordAt _ _ [44] = false; rw [wordAt_one]; exact h44)))
          clear h44
          go_wp2_with fail
          refine HC7.out.mono ?_
          rintro e wB ⟨rfl, hsc, hbB⟩
          have HSB := hideB hsc
          have HBB := hideB (HBA.out.trans hbB)
          have m2 := hsc.cells.2.2.1
          have n2 := hsc.free 2
          clear hsc hbB HC7
          go_wp2_with fail
          go_roundw
          case rel => exact ⟨HBB.out.trans (But.of_set _ _), (HBB.out.trans (But.of_set 2 (.bool true))).size, .inr ⟨HNO, d1, by have := HOK.out.2.2.1; omega, _, HSB.out.setB true⟩⟩
          case measure =>
            rw [HM.out, (HSB.out.setB true).badOf]
            simp
            omega
        · have HNX := hideB (HIT.out.next HSS.out HKQ.out HSQ.out HQE.out h44)
          have HC7 := hideB (sjIs_yes (u := ⟨#[44]⟩) HSA.out hs (by show (1 : Nat) ≤ 1000; omega) (by simp) (by show wordAt _ _ [44] = true; rw [wordAt_one]; exact h44))
          have e6 : q1 + (ByteArray.mk #[44]).size = q1 + 1 := rfl
          rw [e6] at HC7
          clear h44 e6
          go_wp2_with fail
          refine HC7.out.mono ?_
          rintro e wB ⟨rfl, hsc, hbB⟩
          have HSB := hideB hsc
          have HBB := hideB (HBA.out.trans hbB)
          have HFB := hideB (hbB.fromJ (base := w.heap.size) hrb)
          have HRB := hideB (HRA.out.from HFB.out)
          have HKB := hideB (own_from HKA.out HFB.out)
          clear hsc hbB HC7 HFB
          have HLL : Hid ((l ++ [ns]).length = j + 1) := by rw [Hid, List.length_append, HJ.out]; rfl
          go_wp2_with fail
          go_roundw
          case rel => exact ⟨HBB.out, HBB.out.size, .inl ⟨ks ++ [key], l ++ [ns], q1 + 1, d1, _, _, _, _, HNX, HSB.out, by rw [HLL.out]; exact HRB.out, by rw [HLL.out]; exact HKB.out, by rw [HLL.out]; exact HIN9.out⟩⟩
          case measure =>
            rw [HM.out, HSB.out.badOf, HSB.out.placeOf]
            simp
            omega
end Go.Proofs.YtagcgnhpdmhegaaGreatDoor
