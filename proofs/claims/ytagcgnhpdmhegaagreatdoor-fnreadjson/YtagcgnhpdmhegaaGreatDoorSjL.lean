/-
  The specification's l2Rj: rows; one that is empty, one that is too deep.
-/
import Derived.Test.YtagcgnhpdmhegaaGreatDoorSpF
import Derived.Test.YtagcgnhpdmhegaaGreatDoorSpJ
import Derived.Test.YtagcgnhpdmhegaaGreatDoorLowN
namespace Go.Proofs.YtagcgnhpdmhegaaGreatDoor
open Go.RowKit
set_option linter.unusedSimpArgs false
set_option linter.unusedVariables false

/-- A value is read, as S says; or the reader is spoilt. -/
def ValJ (rb : Nat) (s : ByteArray) (S : Option (List VN × Nat × Nat)) (w : World) (e : Ending) (w' : World) : Prop :=
  ∃ a n c, e = .returned (.slice a n c) ∧ But rb w w' ∧ ((∃ ns q d KV IV, S = some (ns, q, d) ∧ ns.length = n ∧ Nest w.heap.size w' (.slice a n c) ns KV IV ∧ SjAt w' rb s q false d) ∨ (S = none ∧ ∃ d, d ≤ 81 ∧ ∃ p, SjAt w' rb s p true d))
theorem ValJ.back {rb : Nat} {s : ByteArray} {S : Option (List VN × Nat × Nat)} {w w1 w2 : World} {e : Ending} (hb : But rb w w1) (h : ValJ rb s S w1 e w2) : ValJ rb s S w e w2 := by
  obtain ⟨a, n, c, h1, h2, h3⟩ := h
  refine ⟨a, n, c, h1, hb.trans h2, ?_⟩
  rcases h3 with ⟨ns, q, d, KV, IV, x1, x2, x3, x4⟩ | h3
  · exact .inl ⟨ns, q, d, KV, IV, x1, x2, x3.low hb.size, x4⟩
  · exact .inr h3
theorem But.fromJ {rb base : Nat} {w w' : World} (h : But rb w w') (hr : rb < base) : From base w w' := ⟨h.size, fun c h1 h2 => h.block c h2 (by omega)⟩
theorem But.farJ {rb base : Nat} {w a b : World} (h : But rb w a) (k : Below base a b) (hb : w.heap.size ≤ base) : But rb w b := h.next (k.mono hb)
theorem SjAt.far {base : Nat} {w w' : World} {rb p c : Nat} {s : ByteArray} {bad : Bool} (h : SjAt w rb s p bad c) (hb : Below base w w') (hr : rb < base) : SjAt w' rb s p bad c := h.keep (hb.block rb hr)
theorem rowAt_snocJ {l : List (List VN)} {ns : List VN} {k : Nat} (hl : l.length = k) (i : Nat) (hi : i < k + 1) : rowAt (l ++ [ns]) i = updF (rowAt l) k ns i := by
  unfold updF
  split
  · rename_i e; rw [e, ← hl, rowAt_new]
  · exact rowAt_old (by omega)

set_option maxRecDepth 100000 in
set_option maxHeartbeats 6400000 in
theorem row_emptyJ {rb p c deep : Nat} {s u : ByteArray} {w : World} {named : Bool} (h : SjAt w rb s p false c) (hs : s.size ≤ 4000) (hu : u.size = 1) (hat : wordAt s.data.toList (skipJ s.data.toList p) u.data.toList = true) :
    Calls Tryz.prog 66 #[.pointer (some ⟨rb, 0, none⟩), .string u, .bool named, .int .i64 deep] w (ValJ rb s (some (makeNs (if named = true then 6 else 5) [] (fun _ => []) 0, skipJ s.data.toList p + 1, c)) w) := by
  have hrb := h.lt
  have H := hideB h
  clear h
  go_enter Tryz.func66, Tryz.ntmps66
  go_wp2_with fail
  have hba : Below w.heap.size w ((w.alloc (.cells #[] 9)).alloc (.cells #[] 24)) := ((Below.refl _ _).alloc (Nat.le_refl _) _).alloc (by simp) _
  have HKA : Hid (((w.alloc (.cells #[] 9)).alloc (.cells #[] 24)).ownsRow w.heap.size 9 1 (.slice (some ⟨w.heap.size, 0, none⟩) 0 0) 0 (([] : List ByteArray).map .string)) := (World.ownsRow_lit (base := w.heap.size) w #[] 0 (Nat.le_refl _) (by simp [maxLen]) rfl).alloc _
  have HRA : Hid (((w.alloc (.cells #[] 9)).alloc (.cells #[] 24)).ownsRow w.heap.size 24 1 (.slice (some ⟨w.heap.size + 1, 0, none⟩) 0 0) 0 []) := by
    have := World.ownsRow_lit (base := w.heap.size) (e := 24) (size := 1) (w.alloc (.cells #[] 9)) #[] 0 (by simp) (by simp [maxLen]) rfl
    simpa [Hid] using this
  have HDA := hideB (H.out.below hba)
  have HBA := hideB (But.of_below (rb := rb) hba)
  generalize (w.alloc (.cells #[] 9)).alloc (.cells #[] 24) = WA at HDA HBA HKA HRA ⊢
  clear hba
  have HC1 := hideB (sjBlanks_any HDA.out hs)
  refine HC1.out.mono ?_
  rintro e w1 ⟨rfl, hsc, hb1⟩
  have HS1 := hideB hsc
  have HB1 := hideB hb1
  clear hsc hb1 HC1
  have HC2 := hideB (sjIs_yes (u := u) HS1.out hs (by omega) (by intro e; have := len_is u; rw [e, hu] at this; cases this) hat)
  rw [hu] at HC2
  go_wp2_with fail
  refine HC2.out.mono ?_
  rintro e w2 ⟨rfl, hsc, hb2⟩
  have HS2 := hideB hsc
  have HB2 := hideB (HB1.out.trans hb2)
  have k2 := hsc.cells.2.2.1
  clear hsc hb2 HC2
  go_wp2_with fail
  go_loopw [9, 10] (fun kv lv wr => kv = .slice (some ⟨w.heap.size, 0, none⟩) 0 0 ∧ lv = .slice (some ⟨w.heap.size + 1, 0, none⟩) 0 0 ∧ wr = w2) (fun _ _ _ => 1)
  case atStart => exact ⟨rfl, rfl, rfl⟩
  case round =>
    obtain ⟨rfl, rfl, rfl⟩ := hrel
    cases named
    · have HMK := hideB (l1Make_any wr.heap.size 5 (.slice none 0 0) (.slice (some ⟨w.heap.size + 1, 0, none⟩) 0 0) [] 0 (fun _ => []) wr ⟨by simp, fun i hi => absurd hi (by simp), none, 0, rfl, fun h => absurd h (by simp)⟩ ⟨by omega, _, _, rfl, fun h => by omega⟩ (Nat.le_refl _) (by omega) (by simp) (by simp [catNs]) (fun i hi => by omega))
      go_wp2_with fail
      refine HMK.out.mono ?_
      rintro e w8 ⟨r, KV8, IV8, rfl, hn8, hb8⟩
      have HN8 := hideB (hn8.low (HBA.out.trans HB2.out).size)
      have HB8 := hideB hb8
      obtain ⟨ar, cr, er⟩ := own_slice hn8.row
      obtain ⟨M, hM⟩ : ∃ M, (makeNs 5 [] (fun _ => []) 0).length = M := ⟨_, rfl⟩
      have HM := hideB hM
      rw [hM] at er
      subst er
      clear hn8 hb8 hM
      go_wp2_with fail
      go_ret
      exact ⟨_, _, _, rfl, (HBA.out.trans HB2.out).trans (But.of_below HB8.out), .inl ⟨_, _, _, KV8, IV8, rfl, HM.out, HN8.out, HS2.out.below HB8.out⟩⟩
    · have HKF : Hid (wr.ownsRow w.heap.size 9 1 (.slice (some ⟨w.heap.size, 0, none⟩) 0 0) 0 (([] : List ByteArray).map .string)) := own_from HKA.out (HB2.out.fromJ hrb)
      have HST : Hid (StrsAt wr.heap.size wr (.slice (some ⟨w.heap.size, 0, none⟩) 0 0) []) := own_strs HKF.out (by simp) (fun i hi => absurd hi (by simp))
      have HCL : Hid (CellsAt wr.heap.size wr (.slice (some ⟨w.heap.size + 1, 0, none⟩) 0 0) ([] : List ByteArray).length (fun _ => undef)) := ⟨_, _, rfl, fun i hi => absurd hi (by simp), fun hp => absurd hp (by simp)⟩
      have HSO := hideB (l1Sorted_any wr.heap.size _ _ [] (fun _ => undef) wr HST.out HCL.out (Nat.le_refl _) (by simp))
      go_wp2_with fail
      refine HSO.out.mono ?_
      rintro e w6 ⟨hso, hb6⟩
      have HB6 := hideB hb6
      have hs0 : sortIn [] ([] : List ByteArray).length = some ([], []) := rfl
      rw [hs0] at hso
      obtain ⟨nv, lv, rfl, hnv, hlv⟩ := hso
      obtain ⟨an, cn, en⟩ := own_slice hnv
      subst en
      obtain ⟨al, cl, el⟩ := own_slice hlv
      subst el
      have HMK := hideB (l1Make_any w6.heap.size 6 (.slice an 0 cn) (.slice al 0 cl) [] 0 (fun _ => []) w6 (own_strs hnv (by simp) (fun i hi => absurd hi (by simp))) ⟨by omega, _, _, rfl, fun h => by omega⟩ (Nat.le_refl _) (by omega) (by simp) (by simp [catNs]) (fun i hi => by omega))
      clear hnv hlv hb6 HSO hs0
      go_wp2_with fail
      refine HMK.out.mono ?_
      rintro e w8 ⟨r, KV8, IV8, rfl, hn8, hb8⟩
      have HN8 := hideB (hn8.low (Nat.le_trans (HBA.out.trans HB2.out).size HB6.out.size))
      have HB8 := hideB (HB6.out.trans (hb8.mono HB6.out.size))
      obtain ⟨ar, cr, er⟩ := own_slice hn8.row
      obtain ⟨M, hM⟩ : ∃ M, (makeNs 6 [] (fun _ => []) 0).length = M := ⟨_, rfl⟩
      have HM := hideB hM
      rw [hM] at er
      subst er
      clear hn8 hb8 hM
      go_wp2_with fail
      go_ret
      exact ⟨_, _, _, rfl, (HBA.out.trans HB2.out).trans (But.of_below HB8.out), .inl ⟨_, _, _, KV8, IV8, rfl, HM.out, HN8.out, HS2.out.below HB8.out⟩⟩

set_option maxRecDepth 100000 in
set_option maxHeartbeats 6400000 in
theorem row_deepJ {rb p c : Nat} {s u : ByteArray} {w : World} {named : Bool} (h : SjAt w rb s p false c) (hs : s.size ≤ 4000) (hc : c ≤ 81) (hu : u.size = 1) (hat : wordAt s.data.toList (skipJ s.data.toList p) u.data.toList = false) :
    Calls Tryz.prog 66 #[.pointer (some ⟨rb, 0, none⟩), .string u, .bool named, .int .i64 9] w (ValJ rb s none w) := by
  have hrb := h.lt
  have H := hideB h
  clear h
  go_enter Tryz.func66, Tryz.ntmps66
  go_wp2_with fail
  have hba : Below w.heap.size w ((w.alloc (.cells #[] 9)).alloc (.cells #[] 24)) := ((Below.refl _ _).alloc (Nat.le_refl _) _).alloc (by simp) _
  have HDA := hideB (H.out.below hba)
  have HBA := hideB (But.of_below (rb := rb) hba)
  generalize (w.alloc (.cells #[] 9)).alloc (.cells #[] 24) = WA at HDA HBA ⊢
  clear hba
  have HC1 := hideB (sjBlanks_any HDA.out hs)
  refine HC1.out.mono ?_
  rintro e w1 ⟨rfl, hsc, hb1⟩
  have HS1 := hideB hsc
  have HB1 := hideB hb1
  clear hsc hb1 HC1
  have HC2 := hideB (sjIs_no (u := u) HS1.out hs (by omega) (.inr hat))
  go_wp2_with fail
  refine HC2.out.mono ?_
  rintro e w2 ⟨rfl, hsc, hb2⟩
  have HS2 := hideB hsc
  have HB2 := hideB (HB1.out.trans hb2)
  have k2 := hsc.cells.2.2.1
  have f2 := hsc.free 2
  clear hsc hb2 HC2
  go_wp2_with fail
  go_loopw [9, 10] (fun _ _ wr => wr = w2) (fun _ _ _ => 1)
  case atStart => rfl
  case round =>
    obtain rfl := hrel
    obtain ⟨W3, hW3⟩ : ∃ W3, wr.setCell ⟨rb, 2, none⟩ (.bool true) = W3 := ⟨_, rfl⟩
    have HS3 : Hid (SjAt W3 rb s (skipJ s.data.toList p) true c) := by rw [Hid, ← hW3]; exact HS2.out.setB true
    have HB3 : Hid (But rb w W3) := by rw [Hid, ← hW3]; exact (HBA.out.trans HB2.out).trans (But.of_set _ _)
    have l2 := HS3.out.cells.2.2.1
    have HN := hideB (sNull_any W3)
    go_wp2_with fail
    refine HN.out.mono ?_
    rintro e w4 ⟨rfl, _, hb⟩
    have HB4 := hideB hb
    clear hb
    go_wp2_with fail
    go_ret
    exact ⟨_, _, _, rfl, HB3.out.trans (But.of_below HB4.out), .inr ⟨rfl, c, hc, _, HS3.out.below HB4.out⟩⟩
end Go.Proofs.YtagcgnhpdmhegaaGreatDoor

/-
  The specification's l2Rj: a list that has parts.
-/
namespace Go.Proofs.YtagcgnhpdmhegaaGreatDoor
open Go.RowKit
set_option linter.unusedSimpArgs false
set_option linter.unusedVariables false

theorem spListJ_of {L : List UInt8} {S : Nat → Nat → Option (List VN × Nat × Nat)} {deep p c : Nat} (h0 : isAt L (skipJ L p) 93 = false) (hd : deep ≤ 8) : spListJ L S deep p c = match spItemsJ L S (L.length + 1) p c with | none => none | some (l, z, d) => some (makeNs 5 [] (rowAt l) l.length, z, d) := by
  unfold spListJ
  rw [if_neg (by rw [h0]; simp), if_neg (by omega)]
  rfl

set_option maxRecDepth 100000 in
set_option maxHeartbeats 12800000 in
theorem row_listJ {rb p c deep : Nat} {s : ByteArray} {w : World} {S : Nat → Nat → Option (List VN × Nat × Nat)} (h : SjAt w rb s p false c) (hs : s.size ≤ 4000) (h1 : 1 ≤ c) (hc : c ≤ 80) (hd : deep ≤ 8) (HS : SpOk S) (hsk : ∀ p c, S (skipJ s.data.toList p) c = S p c)
    (hat : isAt s.data.toList (skipJ s.data.toList p) 93 = false)
    (hv : ∀ w q d, SjAt w rb s q false d → d ≤ 80 → p ≤ q → Calls Tryz.prog 31 #[.pointer (some ⟨rb, 0, none⟩), .int .i64 deep] w (ValJ rb s (S q d) w)) :
    Calls Tryz.prog 66 #[.pointer (some ⟨rb, 0, none⟩), .string ⟨#[93]⟩, .bool false, .int .i64 deep] w (ValJ rb s (spListJ s.data.toList S deep p c) w) := by
  have hrb := h.lt
  have H := hideB h
  have HV := hideB hv
  have HSS := hideB HS
  have HLN := hideB (len_is s)
  have HLO := hideB (spListJ_of (S := S) (c := c) hat hd)
  have HST := hideB (ItP.start (p := p) hsk hc)
  have hpsk : p ≤ skipJ s.data.toList p := runJ_ge _ _ _
  clear h hv HS hsk
  obtain ⟨i2, hi2, hzz2, hs2, hy2⟩ := info_parts infoRowV
  have o3 : (deep : Int) ≤ 8 := by omega
  have o4 : ((deep : Int) == 9) = false := by simp; omega
  have o5 : ¬ (deep : Int) = 9 := by omega
  go_enter Tryz.func66, Tryz.ntmps66
  go_wp2_with fail
  have hba : Below w.heap.size w ((w.alloc (.cells #[] 9)).alloc (.cells #[] 24)) := ((Below.refl _ _).alloc (Nat.le_refl _) _).alloc (by simp) _
  have HRA : Hid (((w.alloc (.cells #[] 9)).alloc (.cells #[] 24)).ownsRow w.heap.size 24 1 (.slice (some ⟨w.heap.size + 1, 0, none⟩) 0 0) 0 []) := by
    have := World.ownsRow_lit (base := w.heap.size) (e := 24) (size := 1) (w.alloc (.cells #[] 9)) #[] 0 (by simp) (by simp [maxLen]) rfl
    simpa [Hid] using this
  have HDA := hideB (H.out.below hba)
  have HBA := hideB (But.of_below (rb := rb) hba)
  have hsA : w.heap.size ≤ ((w.alloc (.cells #[] 9)).alloc (.cells #[] 24)).heap.size := by simp; omega
  have HR0 := hideB (Rows2.start HRA.out hsA (rowAt []))
  generalize (w.alloc (.cells #[] 9)).alloc (.cells #[] 24) = WA at HDA HBA hsA HR0 ⊢
  clear hba HRA
  have HC1 := hideB (sjBlanks_any HDA.out hs)
  refine HC1.out.mono ?_
  rintro e w1 ⟨rfl, hsc, hb1⟩
  have HS1 := hideB hsc
  have HB1 := hideB hb1
  clear hsc hb1 HC1
  have HC2 := hideB (sjIs_no (u := ⟨#[93]⟩) HS1.out hs (by show (1 : Nat) ≤ 1000; omega) (.inr (by show wordAt _ _ [93] = false; rw [wordAt_one]; exact hat)))
  go_wp2_with fail
  refine HC2.out.mono ?_
  rintro e w2 ⟨rfl, hsc, hb2⟩
  have HS2 := hideB hsc
  have HB2 := hideB (HB1.out.trans hb2)
  have HR2 := hideB (HR0.out.from (HB2.out.fromJ hrb))
  have HBW := hideB (HBA.out.trans HB2.out)
  clear hsc hb2 HC2 HB1 HR0 HDA HBA HS1 HB2
  go_wp2_with fail
  go_loopw [9, 10] (fun _ lv wr => But rb w wr ∧ w.heap.size ≤ wr.heap.size ∧ ((∃ (l : List (List VN)) (q d : Nat) (rs : Nat → Value) (KV IV : Nat → Nat → Value) (lo : Nat → Nat), Hid (ItP s.data.toList S p c l q d) ∧ SjAt wr rb s q false d ∧ Rows2 w.heap.size wr lv l.length (rowAt l) rs KV IV lo) ∨ (Hid (spListJ s.data.toList S deep p c = none) ∧ ∃ d, d ≤ 81 ∧ ∃ p', SjAt wr rb s p' true d))) (fun _ _ wr => if badOf wr rb = true then 0 else s.size + 1 - placeOf wr rb)
  case atStart => exact ⟨HBW.out, HBW.out.size, .inl ⟨[], _, c, _, _, _, _, HST, HS2.out, HR2.out⟩⟩
  case round =>
    obtain ⟨hbt, hzr, hor⟩ := hrel
    have HBT := hideB hbt
    clear hbt HBW HS2 HR2
    rcases hor with ⟨l, q, d, rs, KV, IV, lo, HIT, hsc, hrw⟩ | ⟨HNO, d, hd81, p', hsp⟩
    rotate_left
    · have k2 := hsp.cells.2.2.1
      have HSC := hideB hsp
      have HN := hideB (sNull_any wr)
      clear hsp
      go_wp2_with fail
      refine HN.out.mono ?_
      rintro e w2 ⟨rfl, _, hb⟩
      have HB2 := hideB hb
      clear hb
      go_wp2_with fail
      go_ret
      exact ⟨_, _, _, rfl, HBT.out.trans (But.of_below HB2.out), .inr ⟨HNO.out, d, hd81, _, HSC.out.below HB2.out⟩⟩
    have HM : Hid ((if badOf wr rb = true then 0 else s.size + 1 - placeOf wr rb) = s.size + 1 - q) := by rw [Hid, hsc.badOf, hsc.placeOf]; simp
    have hdd : d ≤ 80 := HIT.out.ok.top
    have hpq : p ≤ q := by have := HIT.out.far; omega
    have hqs := hsc.le
    have HQL : Hid (q ≤ s.data.toList.length) := by rw [Hid, HLN.out]; exact hqs
    have hfew : l.length ≤ 80 := by have := HIT.out.ok.few; omega
    have HSC := hideB hsc
    have k2 := hsc.cells.2.2.1
    have HR := hideB hrw
    obtain ⟨ao, co, eo⟩ := own_slice hrw.row
    obtain ⟨j, hj⟩ : ∃ j, l.length = j := ⟨_, rfl⟩
    have HJ := hideB hj
    rw [hj] at eo HR hfew
    subst eo
    clear hsc hrw hj
    have HCV := hideB (HV.out wr q d HSC.out hdd hpq)
    go_wp2_with fail
    refine HCV.out.mono ?_
    rintro e w3 ⟨ar, Lk, cr, rfl, hb3, hor⟩
    have HOR := hideB hor
    have HB3 := hideB hb3
    have HFR := hideB (hb3.fromJ hrb)
    have z3 := hb3.size
    have HRO := hideB (HR.out.from HFR.out).row
    clear hor hb3 HCV k2
    go_wp2_with (at_builtin; refine wpList_append_own_at _ rfl _ _ 108 rfl w.heap.size 24 i2 (.slice none 0 0) 1 24 Tryz.underlying108 hi2 hzz2 hs2 hy2 rfl (by decide) _ _ _ rfl (HRO.out.alloc _) ⟨w3.heap.size, 0, none⟩ 1 1 [.slice ar Lk cr] rfl rfl ?c1 ?c2 ?c3 ?c4 ?c5 ?_)
    case c1 => exact cell_one_new _ _ _
    case c2 => intro u hu; simp at hu; subst hu; rfl
    case c3 => unfold maxLen; omega
    case c4 => omega
    case c5 => simp; omega
    intro v' w5 hown hgrow _ _
    have hb5 : Below w.heap.size w3 w5 := ((Below.refl w.heap.size w3).alloc (by omega) _).grown hgrow (by simp; omega) (fun y hy => (HRO.out.lt y hy).1)
    have HBT5 := hideB ((HBT.out.trans HB3.out).farJ hb5 (Nat.le_refl _))
    have z5 := hb5.size
    have HFIN : Hid ((∃ (ns : List VN) (q1 d1 : Nat) (rs : Nat → Value) (KV IV : Nat → Nat → Value) (lo : Nat → Nat), S q d = some (ns, q1, d1) ∧ SjAt w5 rb s q1 false d1 ∧ Rows2 w.heap.size w5 v' (j + 1) (rowAt (l ++ [ns])) rs KV IV lo) ∨ (S q d = none ∧ ∃ d, d ≤ 81 ∧ ∃ p', SjAt w5 rb s p' true d)) := by
      rcases HOR.out with ⟨ns, q3, d3, KV3, IV3, hs3, hl3, hn3, hsc3⟩ | ⟨hs3, d3, hd3, p3, hsp3⟩
      · subst hl3
        have HRC := HR.out.congr (L' := updF (rowAt l) j ns) (fun i hi => updF_other _ _ (by omega))
        have HR5 := HRC.snocF HFR.out (by rw [updF_same]; exact hn3) hown hgrow
        exact .inl ⟨ns, q3, d3, _, _, _, _, hs3, hsc3.far hb5 hrb, HR5.congr (fun i hi => rowAt_snocJ HJ.out i hi)⟩
      · exact .inr ⟨hs3, d3, hd3, p3, hsp3.far hb5 hrb⟩
    obtain ⟨a5, c5, e5⟩ := own_slice hown
    subst e5
    clear hown hgrow hb5 HOR HRO HFR
    rcases HFIN.out with ⟨ns, q1, d1, rs1, KV1, IV1, lo1, hS1, hsc5, hrw5⟩ | ⟨hS1, d1, hd1, p1, hsp5⟩
    rotate_left
    · have HNO : Hid (spListJ s.data.toList S deep p c = none) := by rw [Hid, HLO.out, HIT.out.stop HQL.out (.inl hS1)]
      have HS5 := hideB hsp5
      clear HFIN hS1 hsp5
      have HC6 := hideB (sjIs_no (u := ⟨#[93]⟩) HS5.out hs (by show (1 : Nat) ≤ 1000; omega) (.inl rfl))
      go_wp2_with fail
      refine HC6.out.mono ?_
      rintro e w6 ⟨rfl, hsc, hb6⟩
      have HS6 := hideB hsc
      have HB6 := hideB (HBT5.out.trans hb6)
      clear hsc hb6 HC6
      have HC7 := hideB (sjIs_no (u := ⟨#[44]⟩) HS6.out hs (by show (1 : Nat) ≤ 1000; omega) (.inl rfl))
      go_wp2_with fail
      refine HC7.out.mono ?_
      rintro e w7 ⟨rfl, hsc, hb7⟩
      have HS7 := hideB hsc
      have HB7 := hideB (HB6.out.trans hb7)
      have k2 := hsc.cells.2.2.1
      have f2 := hsc.free 2
      clear hsc hb7 HC7
      go_wp2_with fail
      go_roundw
      case rel => exact ⟨HB7.out.trans (But.of_set _ _), (HB7.out.trans (But.of_set 2 (.bool true))).size, .inr ⟨HNO, d1, hd1, _, HS7.out.setB true⟩⟩
      case measure =>
        rw [HM.out, (HS7.out.setB true).badOf]
        simp
        omega
    have HS5 := hideB hsc5
    have HR5 := hideB hrw5
    have HSQ := hideB hS1
    have HOK := hideB (HSS.out q d ns q1 d1 hdd hS1)
    have hq1 : q < q1 := HOK.out.2.2.2
    clear HFIN hS1 hsc5 hrw5
    cases h93 : isAt s.data.toList q1 93
    rotate_left
    · have HIS := hideB (HIT.out.last HQL.out HSQ.out h93)
      have HC6 := hideB (sjIs_yes (u := ⟨#[93]⟩) HS5.out hs (by show (1 : Nat) ≤ 1000; omega) (by simp) (by show wordAt _ _ [93] = true; rw [wordAt_one]; exact h93))
      have e6 : q1 + (ByteArray.mk #[93]).size = q1 + 1 := rfl
      rw [e6] at HC6
      have HRK := hideB (HIT.out.ok.snoc HOK.out.1 HOK.out.2.1 HOK.out.2.2.1)
      clear h93 e6
      go_wp2_with fail
      refine HC6.out.mono ?_
      rintro e w6 ⟨rfl, hsc, hb6⟩
      have HS6 := hideB hsc
      have HB6 := hideB (HBT5.out.trans hb6)
      have HR6 := hideB (HR5.out.from (hb6.fromJ hrb))
      have k2 := hsc.cells.2.2.1
      clear hsc hb6 HC6
      have HLL : Hid ((l ++ [ns]).length = j + 1) := by rw [Hid, List.length_append, HJ.out]; rfl
      have HYES : Hid (spListJ s.data.toList S deep p c = some (makeNs 5 [] (rowAt (l ++ [ns])) (j + 1), q1 + 1, d1)) := by rw [Hid, HLO.out, HIS.out]; simp only [HLL.out]
      have hj1 : j + 1 ≤ 80 := by have := HRK.out.few; rw [HLL.out] at this; omega
      have hcat : (catNs (rowAt (l ++ [ns])) (j + 1)).length + 1 ≤ 100000 := by have h3 := HRK.out.sum; have h4 := HRK.out.top; rw [HLL.out] at h3; rw [cat_sum]; omega
      have HSM : Hid (∀ i, i < j + 1 → SmNs (rowAt (l ++ [ns]) i)) := fun i hi => HRK.out.sm i (by rw [HLL.out]; exact hi)
      have HCL := hideB (l1Make_any w6.heap.size 5 (.slice none 0 0) (.slice a5 (j + 1) c5) [] (j + 1) (rowAt (l ++ [ns])) w6 ⟨by simp, fun i hi => absurd hi (by simp), none, 0, rfl, fun h => absurd h (by simp)⟩ (HR6.out.rows (by omega) (fun i hi => (HSM.out i hi).few)) (Nat.le_refl _) (by omega) (by simp) hcat (fun i hi => (HSM.out i hi).near))
      clear hcat HIS HLL HRK
      go_wp2_with fail
      refine HCL.out.mono ?_
      rintro e w7 ⟨r, KV7, IV7, rfl, hn7, hb7⟩
      have HN7 := hideB (hn7.low HB6.out.size)
      have HB7 := hideB hb7
      obtain ⟨a7, c7, e7⟩ := own_slice hn7.row
      obtain ⟨M, hM⟩ : ∃ M, (makeNs 5 [] (rowAt (l ++ [ns])) (j + 1)).length = M := ⟨_, rfl⟩
      have HMM := hideB hM
      rw [hM] at e7
      subst e7
      clear hn7 hb7 hM
      go_wp2_with fail
      go_ret
      exact ⟨_, _, _, rfl, HB6.out.trans (But.of_below HB7.out), .inl ⟨_, _, _, KV7, IV7, HYES.out, HMM.out, HN7.out, HS6.out.below HB7.out⟩⟩
    have HC6 := hideB (sjIs_no (u := ⟨#[93]⟩) HS5.out hs (by show (1 : Nat) ≤ 1000; omega) (.inr (by show wordAt _ _ [93] = false; rw [wordAt_one]; exact h93)))
    have HQ93 := hideB h93
    clear h93
    go_wp2_with fail
    refine HC6.out.mono ?_
    rintro e w6 ⟨rfl, hsc, hb6⟩
    have HS6 := hideB hsc
    have HB6 := hideB (HBT5.out.trans hb6)
    have HR6 := hideB (HR5.out.from (hb6.fromJ hrb))
    clear hsc hb6 HC6
    cases h44 : isAt s.data.toList q1 44
    · have HNO : Hid (spListJ s.data.toList S deep p c = none) := by rw [Hid, HLO.out, HIT.out.stop HQL.out (.inr ⟨ns, q1, d1, HSQ.out, HQ93.out, h44⟩)]
      have HC7 := hideB (sjIs_no (u := ⟨#[44]⟩) HS6.out hs (by show (1 : Nat) ≤ 1000; omega) (.inr (by show wordAt _ _ [44] = false; rw [wordAt_one]; exact h44)))
      clear h44
      go_wp2_with fail
      refine HC7.out.mono ?_
      rintro e w7 ⟨rfl, hsc, hb7⟩
      have HS7 := hideB hsc
      have HB7 := hideB (HB6.out.trans hb7)
      have k2 := hsc.cells.2.2.1
      have f2 := hsc.free 2
      clear hsc hb7 HC7
      go_wp2_with fail
      go_roundw
      case rel => exact ⟨HB7.out.trans (But.of_set _ _), (HB7.out.trans (But.of_set 2 (.bool true))).size, .inr ⟨HNO, d1, by have := HOK.out.2.2.1; omega, _, HS7.out.setB true⟩⟩
      case measure =>
        rw [HM.out, (HS7.out.setB true).badOf]
        simp
        omega
    · have HNX := hideB (HIT.out.next HSS.out HSQ.out HQ93.out h44)
      have HC7 := hideB (sjIs_yes (u := ⟨#[44]⟩) HS6.out hs (by show (1 : Nat) ≤ 1000; omega) (by simp) (by show wordAt _ _ [44] = true; rw [wordAt_one]; exact h44))
      have e6 : q1 + (ByteArray.mk #[44]).size = q1 + 1 := rfl
      rw [e6] at HC7
      clear h44 e6
      go_wp2_with fail
      refine HC7.out.mono ?_
      rintro e w7 ⟨rfl, hsc, hb7⟩
      have HS7 := hideB hsc
      have HB7 := hideB (HB6.out.trans hb7)
      have HR7 := hideB (HR6.out.from (hb7.fromJ hrb))
      clear hsc hb7 HC7
      have HLL : Hid ((l ++ [ns]).length = j + 1) := by rw [Hid, List.length_append, HJ.out]; rfl
      go_wp2_with fail
      go_roundw
      case rel => exact ⟨HB7.out, HB7.out.size, .inl ⟨l ++ [ns], q1 + 1, d1, _, _, _, _, HNX, HS7.out, by rw [HLL.out]; exact HR7.out⟩⟩
      case measure =>
        rw [HM.out, HS7.out.badOf, HS7.out.placeOf]
        simp
        omega
end Go.Proofs.YtagcgnhpdmhegaaGreatDoor
