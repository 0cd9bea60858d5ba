/-
  impl.PathsOf and spec.PathsOf: the rows of the value's paths.
-/
import Derived.Test.YtpakfgonemiebaaWPaths
import Derived.Test.YtpakfgonemiebaaSPaths
import Derived.Test.YtpakfgonemiebaaFind
import Derived.Test.YtpakfgonemiebaaIGot
import Derived.Test.YtpakfgonemiebaaPathsP
namespace Go.Proofs.Ytpakfgonemiebaa
open Go.RowKit
set_option linter.unusedSimpArgs false
set_option linter.unusedVariables false

def pathsLs (vs : List VN) : List (List PS) := if okB vs = true then pathsN vs vs.length (vs.length - 1) [] else []

theorem pathsLs_le (vs : List VN) : (pathsLs vs).length ≤ 80 := by
  unfold pathsLs
  split
  · rename_i h
    obtain ⟨p1, _⟩ := okB_parts h
    exact paths_le h (by omega) (by omega) []
  · simp

theorem pathsLs_short (vs : List VN) : ∀ i, i < (pathsLs vs).length → Short 1000 (rowP (pathsLs vs) i) := by
  intro i hi
  have hm : rowP (pathsLs vs) i ∈ pathsLs vs := by
    unfold rowP
    rw [List.getD_eq_getElem?_getD, List.getElem?_eq_getElem hi]
    exact List.getElem_mem hi
  generalize rowP (pathsLs vs) i = p at hm ⊢
  unfold pathsLs at hm
  split at hm
  · rename_i h
    obtain ⟨p1, _⟩ := okB_parts h
    exact (paths_short h vs.length (vs.length - 1) 0 [] (by omega) (by omega) ⟨by simp, fun i hi => absurd hi (by simp)⟩ p hm).wide (by omega)
  · simp at hm

set_option maxRecDepth 100000 in
set_option maxHeartbeats 3200000 in
theorem implPathsOf_any (B : Nat) (v : Value) (vs : List VN) (w : World) (h : NodesAt B w v vs) (hB : B ≤ w.heap.size) :
    Calls Try.prog 15 #[v] w fun e w' => ∃ r base rs lo, e = .returned r ∧ w.heap.size ≤ base ∧ RowsP base w' r (pathsLs vs) rs lo ∧ Below w.heap.size w w' := by
  have HV := hideIt h
  obtain ⟨_, a, cap, rfl, _⟩ := h
  cases ok : okB vs
  · have HL : Hid (pathsLs vs = []) := by rw [Hid, pathsLs, ok]; rfl
    go_enter Try.func15, Try.ntmps15
    go_wp2_with fail
    refine (valueOf_no B _ vs _ HV.out hB ok).mono ?_
    rintro e w1 ⟨rfl, hb1⟩
    have z1 := hb1.size
    go_wp2_with fail
    go_ret
    exact ⟨.slice none 0 0, w.heap.size, fun _ => undef, fun _ => w.heap.size, rfl, Nat.le_refl _, by rw [HL.out]; exact RowsP.start (World.ownsRow_nil _ _ _ _) z1, hb1⟩
  · obtain ⟨p1, p2, _, p4⟩ := okB_parts ok
    have HL : Hid (pathsLs vs = [] ++ pathsN vs vs.length (vs.length - 1) []) := by rw [Hid, pathsLs, ok]; rfl
    have hle := paths_le ok (f := vs.length) (n := vs.length - 1) (by omega) (by omega) []
    have HOK := hideIt ok
    go_enter Try.func15, Try.ntmps15
    go_wp2_with fail
    refine (valueOf_yes B _ vs _ HV.out hB ok).mono ?_
    rintro e w1 ⟨lo1, t, x, rfl, hl1, hl2, hv1, hb1⟩
    have z1 := hb1.size
    have HT := hideIt (ValIs.tree (by omega) p2 p4 p1.2 (by omega) hv1)
    have HB1 := hideIt hb1
    clear hv1 p2 p4 hb1
    go_wp2_with fail
    refine (treeOf_any w1.heap.size vs.length _ _ _ HT.out (Nat.le_refl _)).mono ?_
    rintro e w2 ⟨p, rfl, hpt, hb2⟩
    have HPT := hideIt hpt
    have z2 := hb2.size
    have HB2 := hideIt (HB1.out.trans (hb2.mono z1))
    clear hpt hb2
    go_wp2_with fail
    refine (withPaths_any w1.heap.size w2.heap.size vs HOK.out vs.length (vs.length - 1) _ w2.heap.size _ (.slice none 0 0) (.slice none 0 0) [] [] (fun _ => undef) (fun _ => w2.heap.size) w2 (by omega) (by omega) HPT.out (Nat.le_refl _) z2 (Nat.le_refl _) (RowsP.start (World.ownsRow_nil _ _ _ _) (Nat.le_refl _)) (World.ownsRow_nil _ _ _ _) (by simp; omega) (by simp; omega)).mono ?_
    rintro e w3 ⟨r, rs, lo, rfl, hr, hg, _⟩
    have hb3 : Below w2.heap.size w2 w3 := (Below.refl _ _).grown hg (Nat.le_refl _) (fun k hk => by simp [Value.ownBlock] at hk)
    have HR := hideIt hr
    have HB3 := hideIt (HB2.out.trans (hb3.mono (by omega)))
    obtain ⟨ar, cr, er⟩ := own_slice hr.row
    obtain ⟨N, hN⟩ : ∃ N, ([] ++ pathsN vs vs.length (vs.length - 1) []).length = N := ⟨_, rfl⟩
    rw [hN] at er
    subst er
    clear hr hg hb3 hN
    go_wp2_with fail
    go_ret
    exact ⟨_, w2.heap.size, rs, lo, rfl, by omega, by rw [HL.out]; exact HR.out, HB3.out⟩

set_option maxRecDepth 100000 in
set_option maxHeartbeats 3200000 in
theorem specPathsOf_any (B : Nat) (v : Value) (vs : List VN) (w : World) (h : NodesAt B w v vs) (hB : B ≤ w.heap.size) :
    Calls Try.prog 68 #[v] w fun e w' => ∃ r base rs lo, e = .returned r ∧ w.heap.size ≤ base ∧ RowsP base w' r (pathsLs vs) rs lo ∧ Below w.heap.size w w' := by
  have HV := hideIt h
  obtain ⟨_, a, cap, rfl, _⟩ := h
  cases ok : okB vs
  · have HL : Hid (pathsLs vs = []) := by rw [Hid, pathsLs, ok]; rfl
    go_enter Try.func68, Try.ntmps68
    go_wp2_with fail
    refine (specOk_any B _ vs _ HV.out hB).mono ?_
    rintro e w1 ⟨rfl, hb1⟩
    rw [ok]
    have z1 := hb1.size
    go_wp2_with fail
    go_ret
    exact ⟨_, w1.heap.size, fun _ => undef, fun _ => w1.heap.size, rfl, z1, by rw [HL.out]; exact RowsP.start (World.ownsRow_lit (base := w1.heap.size) w1 #[] 0 (Nat.le_refl _) (by simp [maxLen]) rfl) (by simp), hb1.alloc z1 _⟩
  · obtain ⟨p1, _⟩ := okB_parts ok
    have HL : Hid (pathsLs vs = pathsN vs vs.length (vs.length - 1) []) := by rw [Hid, pathsLs, ok]; rfl
    have HOK := hideIt ok
    have hcast : (vs.length : Int) - 1 = ((vs.length - 1 : Nat) : Int) := by omega
    go_enter Try.func68, Try.ntmps68
    go_wp2_with fail
    refine (specOk_any B _ vs _ HV.out hB).mono ?_
    rintro e w1 ⟨rfl, hb1⟩
    rw [ok]
    have z1 := hb1.size
    have HV1 := hideIt (HV.out.below (hb1.mono hB))
    have HB1 := hideIt hb1
    clear hb1
    go_wp2_with fail
    refine (l6Paths_any B vs HOK.out vs.length (vs.length - 1) _ (.slice none 0 0) [] w1.heap.size w1 (by omega) (by omega) HV1.out (by omega) (World.ownsRow_nil _ _ _ _) (by simp; omega)).mono ?_
    rintro e w3 ⟨r, rs, lo, rfl, hr, hb3⟩
    have HR := hideIt hr
    have HB3 := hideIt (HB1.out.trans (hb3.mono z1))
    obtain ⟨ar, cr, er⟩ := own_slice hr.row
    obtain ⟨N, hN⟩ : ∃ N, (pathsN vs vs.length (vs.length - 1) []).length = N := ⟨_, rfl⟩
    rw [hN] at er
    subst er
    clear hr hb3 hN
    go_wp2_with fail
    go_ret
    exact ⟨_, w1.heap.size, rs, lo, rfl, z1, by rw [HL.out]; exact HR.out, HB3.out⟩
end Go.Proofs.Ytpakfgonemiebaa

/-
  The draw of a path, and of a value with a path.
-/
namespace Go.Proofs.Ytpakfgonemiebaa
open Go.RowKit
set_option linter.unusedSimpArgs false
set_option linter.unusedVariables false

set_option maxRecDepth 100000 in
set_option maxHeartbeats 6400000 in
theorem rdPath_any (rb n B : Nat) (v : Value) (vs : List VN) (w : World) (hr : ∃ p, RdAt w rb n p) (h : NodesAt B w v vs) (hB : B ≤ w.heap.size) :
    Calls Try.prog 33 #[.pointer (some ⟨rb, 0, none⟩), v] w fun e w' => (∃ r ps, e = .returned r ∧ Short 1001 ps ∧ w'.ownsRow w.heap.size 39 3 r ps.length (stepCells ps)) ∧ Drawn rb n w w' := by
  have HV := hideIt h
  obtain ⟨p0, hp0⟩ := hr
  have hrb : rb < w.heap.size := hp0.lt
  have HR0 := hideIt hp0
  obtain ⟨_, a, cap, rfl, _⟩ := h
  obtain ⟨i1, hi1, hz1, hs1, hy1⟩ := info_parts infoStep
  clear hp0
  go_enter Try.func33, Try.ntmps33
  go_wp2_with fail
  refine (specPathsOf_any B _ vs w HV.out hB).mono ?_
  rintro e w1 ⟨r1, base1, rs, lo, rfl, hbase, hrows, hb1⟩
  have HD1 := hideIt ((Drawn.refl HR0.out).next hb1)
  have z1 := hb1.size
  have hlow := hrows.low
  have HRW := hideIt hrows
  have HSHR := hideIt (pathsLs_short vs)
  have hLe := pathsLs_le vs
  obtain ⟨aL, cL, eL⟩ := own_slice hrows.row
  obtain ⟨LL, hLL⟩ : ∃ LL, (pathsLs vs).length = LL := ⟨_, rfl⟩
  have HLL := hideIt hLL
  rw [hLL] at eL hLe
  subst eL
  have HRA : Hid ((w1.alloc (.cells #[] 39)).ownsRow w1.heap.size 39 3 (.slice (some ⟨w1.heap.size, 0, none⟩) 0 0) 0 []) := by
    have := World.ownsRow_lit (base := w1.heap.size) (e := 39) (size := 3) w1 #[] 0 (Nat.le_refl _) (by simp [maxLen]) rfl
    simpa [Hid] using this
  have hba : Below w1.heap.size w1 (w1.alloc (.cells #[] 39)) := (Below.refl _ _).alloc (Nat.le_refl _) _
  have HDA := hideIt (HD1.out.next hba)
  have HRWA := hideIt (HRW.out.below hba)
  have hsA : w1.heap.size ≤ (w1.alloc (.cells #[] 39)).heap.size := by simp
  clear hrows hb1 hLL hba hlow
  by_cases hL : 0 < LL
  · have hL' : (0 : Int) < (LL : Int) := by omega
    go_wp2_with fail
    generalize w1.alloc (.cells #[] 39) = WA at HDA HRA HRWA hsA ⊢
    refine (rdBelow_any rb n LL WA HDA.out.rd (by omega) (by omega)).mono ?_
    rintro e w2 ⟨⟨y, hy, rfl⟩, hd2⟩
    have HDX := hideIt (HDA.out.trans hd2)
    have HRW2 := hideIt (HRWA.out.from (hd2.from (show rb < base1 by omega)))
    have z2 := hd2.only.1
    have hyl : y < (pathsLs vs).length := by rw [HLL.out]; exact hy
    obtain ⟨gL, capL, eL2, _, _⟩ := HRW2.out.row.form (by rw [HLL.out]; exact hL)
    rw [HLL.out] at eL2
    simp only [Value.slice.injEq] at eL2
    obtain ⟨rfl, _, rfl⟩ := eL2
    have hrow := HRW2.out.row
    rw [HLL.out] at hrow
    have d1 : w2.cell? ⟨gL, y, none⟩ = some (rs y) := by rw [hrow.cellAt y (by omega)]; simp [hy]
    obtain ⟨ps, hps⟩ : ∃ ps, rowP (pathsLs vs) y = ps := ⟨_, rfl⟩
    have hown := HRW2.out.own y hyl
    have hsh := HSHR.out y hyl
    rw [hps] at hown hsh
    have HOWN0 := hideIt (own_mono hown (show w.heap.size ≤ lo y by have := HRW2.out.low y (by omega); omega))
    have HSH := hideIt hsh
    obtain ⟨aP, cP, eP⟩ := own_slice hown
    obtain ⟨nP, hnP⟩ : ∃ nP, ps.length = nP := ⟨_, rfl⟩
    have HLEN := hideIt hnP
    rw [hnP] at eP HOWN0
    have hn1000 : nP ≤ 1000 := by rw [← hnP]; exact hsh.1
    rw [eP] at d1 HOWN0
    obtain ⟨wX, hwX⟩ : ∃ wX, wX = w2 := ⟨_, rfl⟩
    rw [← hwX] at HDX HOWN0 d1
    have HOWN := HOWN0
    have zX : w.heap.size ≤ wX.heap.size := HDX.out.only.1
    subst hwX
    clear hd2 hrow hown hsh hps hnP eP HOWN0 HRW2 HRWA HRW HDA HRA HD1
    go_wp2_with fail
    refine (rdBelow_any rb n 6 wX HDX.out.rd (by omega) (by omega)).mono ?_
    rintro e wY ⟨⟨t, ht, rfl⟩, hdY⟩
    have HDY := hideIt (HDX.out.trans hdY)
    have zY := hdY.only.1
    have HRY := hideIt (own_from HOWN.out (hdY.from hrb))
    clear hdY HDX HOWN
    by_cases t3 : t = 3
    · subst t3
      go_wp2_with fail
      refine (rdText_any rb n wY HDY.out.rd).mono ?_
      rintro e w3 ⟨⟨s, hs, rfl⟩, hd3⟩
      have HDN := hideIt (HDY.out.trans hd3)
      have z3 := hd3.only.1
      have HRO := hideIt (own_from HRY.out (hd3.from hrb))
      clear hd3
      go_wp2_with (at_builtin; refine wpList_append_own_at _ rfl _ _ 25 rfl w.heap.size 39 i1 zeroStep 3 32 Try.underlying25 hi1 hz1 hs1 hy1 rfl (by decide) _ _ _ rfl (HRO.out.alloc _) ⟨w3.heap.size, 0, none⟩ 1 1 [.bool true, .string s, .int .i64 0] rfl rfl ?c1 ?c2 ?c3 ?c4 ?c5 ?_)
      case c1 => exact World.news_of_block (cs := #[.bool true, .string s, .int .i64 0]) (heap_alloc_new w3 _)
      case c2 => intro u hu; simp at hu; rcases hu with rfl | rfl | rfl <;> rfl
      case c3 => unfold maxLen; omega
      case c4 => omega
      case c5 => simp; omega
      intro r5 w5 hown5 hgrow5 _ _
      have hb5 : Below w.heap.size w3 w5 := ((Below.refl w.heap.size w3).alloc (by omega) _).grown hgrow5 (by simp; omega) (fun y hy => (HRO.out.lt y hy).1)
      have HD5 := hideIt (HDN.out.far hb5 hrb (Nat.le_refl _))
      have HR5 : Hid (w5.ownsRow w.heap.size 39 3 r5 (ps ++ [(⟨true, s, 0⟩ : PS)]).length (stepCells (ps ++ [(⟨true, s, 0⟩ : PS)]))) := by
        rw [Hid, stepCells_snoc, List.length_append, List.length_singleton, HLEN.out]; exact hown5
      have HS5 : Hid (Short 1001 (ps ++ [(⟨true, s, 0⟩ : PS)])) := HSH.out.snoc ⟨by show s.size ≤ 1048576; omega, by show (-9223372036854775808 : Int) ≤ 0; omega, by show (0 : Int) ≤ 9223372036854775807; omega⟩
      obtain ⟨a5, c5, e5⟩ := own_slice hown5
      subst e5
      clear hown5 hgrow5 hb5
      go_wp2_with fail
      go_ret
      exact ⟨⟨_, _, rfl, HS5.out, HR5.out⟩, HD5.out⟩
    by_cases t4 : t = 4
    · subst t4
      go_wp2_with fail
      refine (rdBelow_any rb n 4 wY HDY.out.rd (by omega) (by omega)).mono ?_
      rintro e w3 ⟨⟨y, hy4, rfl⟩, hd3⟩
      have HDN := hideIt (HDY.out.trans hd3)
      have z3 := hd3.only.1
      have HRO := hideIt (own_from HRY.out (hd3.from hrb))
      clear hd3
      go_wp2_with (at_builtin; refine wpList_append_own_at _ rfl _ _ 25 rfl w.heap.size 39 i1 zeroStep 3 32 Try.underlying25 hi1 hz1 hs1 hy1 rfl (by decide) _ _ _ rfl (HRO.out.alloc _) ⟨w3.heap.size, 0, none⟩ 1 1 [.bool false, .string (⟨#[]⟩ : ByteArray), .int .i64 (y : Int)] rfl rfl ?c1 ?c2 ?c3 ?c4 ?c5 ?_)
      case c1 => exact World.news_of_block (cs := #[.bool false, .string (⟨#[]⟩ : ByteArray), .int .i64 (y : Int)]) (heap_alloc_new w3 _)
      case c2 => intro u hu; simp at hu; rcases hu with rfl | rfl | rfl <;> rfl
      case c3 => unfold maxLen; omega
      case c4 => omega
      case c5 => simp; omega
      intro r5 w5 hown5 hgrow5 _ _
      have hb5 : Below w.heap.size w3 w5 := ((Below.refl w.heap.size w3).alloc (by omega) _).grown hgrow5 (by simp; omega) (fun y hy => (HRO.out.lt y hy).1)
      have HD5 := hideIt (HDN.out.far hb5 hrb (Nat.le_refl _))
      have HR5 : Hid (w5.ownsRow w.heap.size 39 3 r5 (ps ++ [(⟨false, (⟨#[]⟩ : ByteArray), (y : Int)⟩ : PS)]).length (stepCells (ps ++ [(⟨false, (⟨#[]⟩ : ByteArray), (y : Int)⟩ : PS)]))) := by
        rw [Hid, stepCells_snoc, List.length_append, List.length_singleton, HLEN.out]; exact hown5
      have HS5 : Hid (Short 1001 (ps ++ [(⟨false, (⟨#[]⟩ : ByteArray), (y : Int)⟩ : PS)])) := HSH.out.snoc ⟨by show (⟨#[]⟩ : ByteArray).size ≤ 1048576; decide, by show (-9223372036854775808 : Int) ≤ (y : Int); omega, by show (y : Int) ≤ 9223372036854775807; omega⟩
      obtain ⟨a5, c5, e5⟩ := own_slice hown5
      subst e5
      clear hown5 hgrow5 hb5
      go_wp2_with fail
      go_ret
      exact ⟨⟨_, _, rfl, HS5.out, HR5.out⟩, HD5.out⟩
    by_cases t5 : t = 5
    · subst t5
      go_wp2_with fail
      refine (rdOnce_any rb n 4 wY HDY.out.rd (by omega) (by omega)).mono ?_
      rintro e w2b ⟨⟨bb, rfl⟩, hd2b⟩
      have HDB := hideIt (HDY.out.trans hd2b)
      have zB := hd2b.only.1
      have HRB := hideIt (own_from HRY.out (hd2b.from hrb))
      clear hd2b HDY HRY
      have HDY := HDB
      have HRY := HRB
      cases bb
      · go_wp2_with fail
        go_ret
        exact ⟨⟨_, ps, rfl, HSH.out.wide (by omega), by rw [HLEN.out]; exact HRY.out⟩, HDY.out⟩
      · go_wp2_with fail
        refine (rdOff_any rb n 0 9 w2b HDY.out.rd (by omega) (by omega) (by omega)).mono ?_
        rintro e w3 ⟨⟨q, hq1, hq2, rfl⟩, hd3⟩
        have HDN := hideIt (HDY.out.trans hd3)
        have z3 := hd3.only.1
        have HRO := hideIt (own_from HRY.out (hd3.from hrb))
        clear hd3
        go_wp2_with (at_builtin; refine wpList_append_own_at _ rfl _ _ 25 rfl w.heap.size 39 i1 zeroStep 3 32 Try.underlying25 hi1 hz1 hs1 hy1 rfl (by decide) _ _ _ rfl (HRO.out.alloc _) ⟨w3.heap.size, 0, none⟩ 1 1 [.bool false, .string (⟨#[]⟩ : ByteArray), .int .i64 q] rfl rfl ?c1 ?c2 ?c3 ?c4 ?c5 ?_)
        case c1 => exact World.news_of_block (cs := #[.bool false, .string (⟨#[]⟩ : ByteArray), .int .i64 q]) (heap_alloc_new w3 _)
        case c2 => intro u hu; simp at hu; rcases hu with rfl | rfl | rfl <;> rfl
        case c3 => unfold maxLen; omega
        case c4 => omega
        case c5 => simp; omega
        intro r5 w5 hown5 hgrow5 _ _
        have hb5 : Below w.heap.size w3 w5 := ((Below.refl w.heap.size w3).alloc (by omega) _).grown hgrow5 (by simp; omega) (fun y hy => (HRO.out.lt y hy).1)
        have HD5 := hideIt (HDN.out.far hb5 hrb (Nat.le_refl _))
        have HR5 : Hid (w5.ownsRow w.heap.size 39 3 r5 (ps ++ [(⟨false, (⟨#[]⟩ : ByteArray), q⟩ : PS)]).length (stepCells (ps ++ [(⟨false, (⟨#[]⟩ : ByteArray), q⟩ : PS)]))) := by
          rw [Hid, stepCells_snoc, List.length_append, List.length_singleton, HLEN.out]; exact hown5
        have HS5 : Hid (Short 1001 (ps ++ [(⟨false, (⟨#[]⟩ : ByteArray), q⟩ : PS)])) := HSH.out.snoc ⟨by show (⟨#[]⟩ : ByteArray).size ≤ 1048576; decide, hq1, hq2⟩
        obtain ⟨a5, c5, e5⟩ := own_slice hown5
        subst e5
        clear hown5 hgrow5 hb5
        go_wp2_with fail
        go_ret
        exact ⟨⟨_, _, rfl, HS5.out, HR5.out⟩, HD5.out⟩
    have t3' : ((t : Int) == 3) = false := by simp; omega
    have t4' : ((t : Int) == 4) = false := by simp; omega
    have t5' : ((t : Int) == 5) = false := by simp; omega
    go_wp2_with fail
    go_ret
    exact ⟨⟨_, ps, rfl, HSH.out.wide (by omega), by rw [HLEN.out]; exact HRY.out⟩, HDY.out⟩
  · obtain rfl : LL = 0 := by omega
    obtain ⟨ps, hps⟩ : ∃ ps : List PS, ps = [] := ⟨_, rfl⟩
    have HLEN : Hid (ps.length = 0) := by rw [hps]; rfl
    have HSH : Hid (Short 1000 ps) := by rw [hps]; exact ⟨by simp, fun i hi => absurd hi (by simp)⟩
    go_wp2_with fail
    generalize w1.alloc (.cells #[] 39) = wX at HDA HRA HRWA hsA ⊢
    have HDX := HDA
    have zX : w.heap.size ≤ wX.heap.size := by omega
    have HOWN : Hid (wX.ownsRow w.heap.size 39 3 (.slice (some ⟨w1.heap.size, 0, none⟩) 0 0) 0 (stepCells ps)) := by rw [hps]; exact own_mono HRA.out z1
    clear hps HRWA HRW HDA HRA HD1
    refine (rdBelow_any rb n 6 wX HDX.out.rd (by omega) (by omega)).mono ?_
    rintro e wY ⟨⟨t, ht, rfl⟩, hdY⟩
    have HDY := hideIt (HDX.out.trans hdY)
    have zY := hdY.only.1
    have HRY := hideIt (own_from HOWN.out (hdY.from hrb))
    clear hdY HDX HOWN
    by_cases t3 : t = 3
    · subst t3
      go_wp2_with fail
      refine (rdText_any rb n wY HDY.out.rd).mono ?_
      rintro e w3 ⟨⟨s, hs, rfl⟩, hd3⟩
      have HDN := hideIt (HDY.out.trans hd3)
      have z3 := hd3.only.1
      have HRO := hideIt (own_from HRY.out (hd3.from hrb))
      clear hd3
      go_wp2_with (at_builtin; refine wpList_append_own_at _ rfl _ _ 25 rfl w.heap.size 39 i1 zeroStep 3 32 Try.underlying25 hi1 hz1 hs1 hy1 rfl (by decide) _ _ _ rfl (HRO.out.alloc _) ⟨w3.heap.size, 0, none⟩ 1 1 [.bool true, .string s, .int .i64 0] rfl rfl ?c1 ?c2 ?c3 ?c4 ?c5 ?_)
      case c1 => exact World.news_of_block (cs := #[.bool true, .string s, .int .i64 0]) (heap_alloc_new w3 _)
      case c2 => intro u hu; simp at hu; rcases hu with rfl | rfl | rfl <;> rfl
      case c3 => unfold maxLen; omega
      case c4 => omega
      case c5 => simp; omega
      intro r5 w5 hown5 hgrow5 _ _
      have hb5 : Below w.heap.size w3 w5 := ((Below.refl w.heap.size w3).alloc (by omega) _).grown hgrow5 (by simp; omega) (fun y hy => (HRO.out.lt y hy).1)
      have HD5 := hideIt (HDN.out.far hb5 hrb (Nat.le_refl _))
      have HR5 : Hid (w5.ownsRow w.heap.size 39 3 r5 (ps ++ [(⟨true, s, 0⟩ : PS)]).length (stepCells (ps ++ [(⟨true, s, 0⟩ : PS)]))) := by
        rw [Hid, stepCells_snoc, List.length_append, List.length_singleton, HLEN.out]; exact hown5
      have HS5 : Hid (Short 1001 (ps ++ [(⟨true, s, 0⟩ : PS)])) := HSH.out.snoc ⟨by show s.size ≤ 1048576; omega, by show (-9223372036854775808 : Int) ≤ 0; omega, by show (0 : Int) ≤ 9223372036854775807; omega⟩
      obtain ⟨a5, c5, e5⟩ := own_slice hown5
      subst e5
      clear hown5 hgrow5 hb5
      go_wp2_with fail
      go_ret
      exact ⟨⟨_, _, rfl, HS5.out, HR5.out⟩, HD5.out⟩
    by_cases t4 : t = 4
    · subst t4
      go_wp2_with fail
      refine (rdBelow_any rb n 4 wY HDY.out.rd (by omega) (by omega)).mono ?_
      rintro e w3 ⟨⟨y, hy4, rfl⟩, hd3⟩
      have HDN := hideIt (HDY.out.trans hd3)
      have z3 := hd3.only.1
      have HRO := hideIt (own_from HRY.out (hd3.from hrb))
      clear hd3
      go_wp2_with (at_builtin; refine wpList_append_own_at _ rfl _ _ 25 rfl w.heap.size 39 i1 zeroStep 3 32 Try.underlying25 hi1 hz1 hs1 hy1 rfl (by decide) _ _ _ rfl (HRO.out.alloc _) ⟨w3.heap.size, 0, none⟩ 1 1 [.bool false, .string (⟨#[]⟩ : ByteArray), .int .i64 (y : Int)] rfl rfl ?c1 ?c2 ?c3 ?c4 ?c5 ?_)
      case c1 => exact World.news_of_block (cs := #[.bool false, .string (⟨#[]⟩ : ByteArray), .int .i64 (y : Int)]) (heap_alloc_new w3 _)
      case c2 => intro u hu; simp at hu; rcases hu with rfl | rfl | rfl <;> rfl
      case c3 => unfold maxLen; omega
      case c4 => omega
      case c5 => simp; omega
      intro r5 w5 hown5 hgrow5 _ _
      have hb5 : Below w.heap.size w3 w5 := ((Below.refl w.heap.size w3).alloc (by omega) _).grown hgrow5 (by simp; omega) (fun y hy => (HRO.out.lt y hy).1)
      have HD5 := hideIt (HDN.out.far hb5 hrb (Nat.le_refl _))
      have HR5 : Hid (w5.ownsRow w.heap.size 39 3 r5 (ps ++ [(⟨false, (⟨#[]⟩ : ByteArray), (y : Int)⟩ : PS)]).length (stepCells (ps ++ [(⟨false, (⟨#[]⟩ : ByteArray), (y : Int)⟩ : PS)]))) := by
        rw [Hid, stepCells_snoc, List.length_append, List.length_singleton, HLEN.out]; exact hown5
      have HS5 : Hid (Short 1001 (ps ++ [(⟨false, (⟨#[]⟩ : ByteArray), (y : Int)⟩ : PS)])) := HSH.out.snoc ⟨by show (⟨#[]⟩ : ByteArray).size ≤ 1048576; decide, by show (-9223372036854775808 : Int) ≤ (y : Int); omega, by show (y : Int) ≤ 9223372036854775807; omega⟩
      obtain ⟨a5, c5, e5⟩ := own_slice hown5
      subst e5
      clear hown5 hgrow5 hb5
      go_wp2_with fail
      go_ret
      exact ⟨⟨_, _, rfl, HS5.out, HR5.out⟩, HD5.out⟩
    by_cases t5 : t = 5
    · subst t5
      go_wp2_with fail
      refine (rdOnce_any rb n 4 wY HDY.out.rd (by omega) (by omega)).mono ?_
      rintro e w2b ⟨⟨bb, rfl⟩, hd2b⟩
      have HDB := hideIt (HDY.out.trans hd2b)
      have zB := hd2b.only.1
      have HRB := hideIt (own_from HRY.out (hd2b.from hrb))
      clear hd2b HDY HRY
      have HDY := HDB
      have HRY := HRB
      cases bb
      · go_wp2_with fail
        go_ret
        exact ⟨⟨_, ps, rfl, HSH.out.wide (by omega), by rw [HLEN.out]; exact HRY.out⟩, HDY.out⟩
      · go_wp2_with fail
        refine (rdOff_any rb n 0 9 w2b HDY.out.rd (by omega) (by omega) (by omega)).mono ?_
        rintro e w3 ⟨⟨q, hq1, hq2, rfl⟩, hd3⟩
        have HDN := hideIt (HDY.out.trans hd3)
        have z3 := hd3.only.1
        have HRO := hideIt (own_from HRY.out (hd3.from hrb))
        clear hd3
        go_wp2_with (at_builtin; refine wpList_append_own_at _ rfl _ _ 25 rfl w.heap.size 39 i1 zeroStep 3 32 Try.underlying25 hi1 hz1 hs1 hy1 rfl (by decide) _ _ _ rfl (HRO.out.alloc _) ⟨w3.heap.size, 0, none⟩ 1 1 [.bool false, .string (⟨#[]⟩ : ByteArray), .int .i64 q] rfl rfl ?c1 ?c2 ?c3 ?c4 ?c5 ?_)
        case c1 => exact World.news_of_block (cs := #[.bool false, .string (⟨#[]⟩ : ByteArray), .int .i64 q]) (heap_alloc_new w3 _)
        case c2 => intro u hu; simp at hu; rcases hu with rfl | rfl | rfl <;> rfl
        case c3 => unfold maxLen; omega
        case c4 => omega
        case c5 => simp; omega
        intro r5 w5 hown5 hgrow5 _ _
        have hb5 : Below w.heap.size w3 w5 := ((Below.refl w.heap.size w3).alloc (by omega) _).grown hgrow5 (by simp; omega) (fun y hy => (HRO.out.lt y hy).1)
        have HD5 := hideIt (HDN.out.far hb5 hrb (Nat.le_refl _))
        have HR5 : Hid (w5.ownsRow w.heap.size 39 3 r5 (ps ++ [(⟨false, (⟨#[]⟩ : ByteArray), q⟩ : PS)]).length (stepCells (ps ++ [(⟨false, (⟨#[]⟩ : ByteArray), q⟩ : PS)]))) := by
          rw [Hid, stepCells_snoc, List.length_append, List.length_singleton, HLEN.out]; exact hown5
        have HS5 : Hid (Short 1001 (ps ++ [(⟨false, (⟨#[]⟩ : ByteArray), q⟩ : PS)])) := HSH.out.snoc ⟨by show (⟨#[]⟩ : ByteArray).size ≤ 1048576; decide, hq1, hq2⟩
        obtain ⟨a5, c5, e5⟩ := own_slice hown5
        subst e5
        clear hown5 hgrow5 hb5
        go_wp2_with fail
        go_ret
        exact ⟨⟨_, _, rfl, HS5.out, HR5.out⟩, HD5.out⟩
    have t3' : ((t : Int) == 3) = false := by simp; omega
    have t4' : ((t : Int) == 4) = false := by simp; omega
    have t5' : ((t : Int) == 5) = false := by simp; omega
    go_wp2_with fail
    go_ret
    exact ⟨⟨_, ps, rfl, HSH.out.wide (by omega), by rw [HLEN.out]; exact HRY.out⟩, HDY.out⟩

def GotDrawn (w : World) (e : Ending) (w' : World) : Prop := ∃ r vs KV IV u ps, e = .returned (.tuple #[r, u]) ∧ Fine 40 vs ∧ Short 1001 ps ∧ Nest w.heap.size w' r vs KV IV ∧ w'.ownsRow w.heap.size 39 3 u ps.length (stepCells ps) ∧ Below w.heap.size w w'

set_option maxHeartbeats 1600000 in
theorem drawGot_any (B : Nat) (v : Value) (n : Nat) (w : World) (h : CodeAt B w v n) (hB : B ≤ w.heap.size) :
    Calls Try.prog 51 #[v] w (GotDrawn w) := by
  have H := hideIt h
  obtain ⟨_, a, cap, rfl, _⟩ := h
  go_enter Try.func51, Try.ntmps51
  go_wp2_with fail
  refine (l1Open_any B _ n w H.out hB).mono ?_
  rintro e w1 ⟨rfl, hr, hb⟩
  have HR := hideIt hr
  have HB := hideIt hb
  have z1 := hb.size
  have hw1 : w.heap.size < w1.heap.size := hr.lt
  clear hr hb
  go_wp2_with fail
  refine (rdMaybe_any w.heap.size n w1 ⟨0, HR.out⟩).mono ?_
  rintro e w2 ⟨⟨r, vs, KV, IV, rfl, hf, hn⟩, hd⟩
  have HF := hideIt hf
  have HN := hideIt hn
  have HD := hideIt hd
  have hl2 : vs.length ≤ 40 := hf.2.1
  have z2 := hd.only.1
  have HND := hideIt (hn.nodes (by omega) (hf.few (show 40 ≤ 80 by omega)).2)
  obtain ⟨ar, cr, er⟩ := own_slice hn.row
  obtain ⟨M, hM⟩ : ∃ M, vs.length = M := ⟨_, rfl⟩
  rw [hM] at er hl2
  subst er
  clear hf hn hd hM
  go_wp2_with fail
  refine (rdPath_any w.heap.size n w2.heap.size _ vs w2 HD.out.rd HND.out (Nat.le_refl _)).mono ?_
  rintro e w3 ⟨⟨u, ps, rfl, hsh, how⟩, hd3⟩
  have HN3 := hideIt ((HN.out.from (hd3.from hw1)).low z1)
  have HB3 := hideIt (HB.out.trans (HD.out.trans hd3).below)
  have HO3 := hideIt (own_mono how (show w.heap.size ≤ w2.heap.size by omega))
  have HSH := hideIt hsh
  obtain ⟨au, cu, eu⟩ := own_slice how
  obtain ⟨N, hN⟩ : ∃ N, ps.length = N := ⟨_, rfl⟩
  rw [hN] at eu
  subst eu
  clear hd3 hsh how hN
  go_wp2_with fail
  go_ret2
  exact ⟨_, vs, KV, IV, _, ps, rfl, HF.out, HSH.out, HN3.out, HO3.out, HB3.out⟩

set_option maxHeartbeats 1600000 in
theorem drawTaken_any (B : Nat) (v : Value) (n : Nat) (w : World) (h : CodeAt B w v n) (hB : B ≤ w.heap.size) :
    Calls Try.prog 17 #[v] w (GotDrawn w) := by
  have H := hideIt h
  obtain ⟨_, a, cap, rfl, _⟩ := h
  go_enter Try.func17, Try.ntmps17
  go_wp2_with fail
  refine (drawGot_any B _ n w H.out hB).mono ?_
  rintro e w1 ⟨r, vs, KV, IV, u, ps, rfl, h1, h2, h3, h4, h5⟩
  have HH := hideIt (And.intro h1 (And.intro h2 (And.intro h3 (And.intro h4 h5))))
  obtain ⟨ar, cr, er⟩ := own_slice h3.row
  obtain ⟨M, hM⟩ : ∃ M, vs.length = M := ⟨_, rfl⟩
  rw [hM] at er
  subst er
  obtain ⟨au, cu, eu⟩ := own_slice h4
  obtain ⟨N, hN⟩ : ∃ N, ps.length = N := ⟨_, rfl⟩
  rw [hN] at eu
  subst eu
  clear h1 h2 h3 h4 h5 hM hN
  go_wp2_with fail
  go_ret2
  exact ⟨_, vs, KV, IV, _, ps, rfl, HH.out.1, HH.out.2.1, HH.out.2.2.1, HH.out.2.2.2.1, HH.out.2.2.2.2⟩
end Go.Proofs.Ytpakfgonemiebaa
