import Derived.Test.YtcidjhnogldgmaaGreatDoorFrSi
import Derived.Maps.AppendAt
import Derived.Test.YtcidjhnogldgmaaGreatDoorVarsJ
import Derived.Test.YtcidjhnogldgmaaGreatDoorFrH2
import Derived.Test.YtcidjhnogldgmaaGreatDoorFrFt
import Derived.Test.YtcidjhnogldgmaaGreatDoorGupN
import Derived.Test.YtcidjhnogldgmaaGreatDoorFImp2
namespace Go.Proofs.YtcidjhnogldgmaaGreatDoor
open Go.RowKit
set_option linter.unusedSimpArgs false
set_option linter.unusedVariables false
set_option linter.unusedSectionVars false
theorem ButF.grownN {rb base : Nat} {w a b : World} {row : Option Nat} (h : ButF rb base w a) (hg : a.grownBy b row) (hr : ∀ x, row = some x → w.heap.size ≤ x) : ButF rb base w b :=
  ⟨hg.os.trans h.os, hg.tape.trans h.tape, hg.output.trans h.output, Nat.le_trans h.size hg.size, fun x hx hn ht => (hg.block x (Nat.lt_of_lt_of_le hx h.size) (fun e => by have := hr x e.symm; omega)).trans (h.block x hx hn ht)⟩
theorem FrAt.grown {a b : World} {rb mb base b0 e0 s0 n0 : Nat} {Z : Nat → Prop} {s : ByteArray} {p : Nat} {fs : List FN} {v : Value} {xs : List Value} (h : FrAt a rb mb base Z s p fs) (hv : a.ownsRow b0 e0 s0 v n0 xs) (he : 125 ≠ e0) (hb : base ≤ b0) (hZ : ∀ x, v.ownBlock = some x → Z x ∨ a.heap.size ≤ x) (hg : a.grownBy b v.ownBlock) : FrAt b rb mb base (fun x => Z x ∨ a.heap.size ≤ x) s p fs := by
  have hrow : ∀ x, v.ownBlock = some x → base ≤ x := fun x hx => Nat.le_trans hb (hv.lt x hx).1
  have hbl : ∀ x, x < base → x < a.heap.size → b.heap[x]? = a.heap[x]? := fun x hx hxa => hg.block x hxa (fun e => by have := hrow x e.symm; omega)
  have bx := h.box
  have r1 := bx.rb_lt
  have r2 := bx.mb_lt
  have r3 := bx.sz
  obtain ⟨u, hs, C, N, I, hN, hS⟩ := h.ex
  refine ⟨⟨(hbl mb r2 (by omega)).trans bx.mp, bx.tb.next ⟨hg.os, hg.tape, hg.output, hg.size, fun x hx => hbl x (by omega) (by omega)⟩, r1, r2, bx.ne, Nat.le_trans r3 hg.size⟩, u, hs.keep (hbl rb r1 (by omega)) hg.size, C, N, I, hN.keep (fun x hx => hg.block x (hN.row.lt x hx).2 (fun e => ?_)) (fun x hx => hg.block x (hN.sub hx).2 (fun e => ?_)), fun x hx hz => ?_⟩
  · rcases own_apart hN.row hv he with e2 | e2
    · rw [hx] at e2; cases e2
    · exact e2 (hx.trans e)
  · rcases hZ x e.symm with h1 | h1
    · exact hS x hx h1
    · have := (hN.sub hx).2; omega
  · rcases hz with h1 | h1
    · exact hS x hx h1
    · have := (hN.sub hx).2; omega
section
variable {R : RD} {f rb mb base : Nat} {s : ByteArray} (HR : RdsF R f rb mb base s) (HG : GoesF s.data.toList R)
include HR HG
set_option maxRecDepth 100000 in
set_option maxHeartbeats 6400000 in
theorem readFMap_any {p : Nat} {Z : Nat → Prop} {fs : List FN} {w : World} (h : FrAt w rb mb base Z s p fs) (hZ : ∀ x, Z x → x < w.heap.size) (hs : s.size ≤ 1000) (hl : fs.length ≤ p) (hf : s.size ≤ p + f) (hi : isAt s.data.toList p 123 = true) :
    Calls Tryz.prog 107 #[.pointer (some ⟨rb, 0, none⟩)] w (FrOr (mapF WPr R s.data.toList fs (skF s.data.toList (p + 1))) rb mb base Z s w) := by
  obtain ⟨i1, hi1, hz1, hs1, hy1⟩ := info_parts infoI7
  obtain ⟨j1, hj1, hzj, hsj, hyj⟩ := info_parts infoS7
  have HLN := hideB (len_is s)
  have hps : p < s.size := by rw [← HLN.out]; exact (isAt_yes.1 hi).1
  have HM := hideB (fMust_any (c := 123) h (by omega) (by omega))
  have HZ : Hid (∀ x, Z x → x < w.heap.size) := hZ
  have HHR := hideB HR
  have HHG := hideB HG
  have HI := hideB hi
  have hrb : rb < w.heap.size := h.cells.2.2.2
  have hbw : base ≤ w.heap.size := h.box.sz
  clear h hZ HR HG hi
  obtain ⟨q, hq⟩ : ∃ q, skF s.data.toList (p + 1) = q := ⟨_, rfl⟩
  have hpq : p + 1 ≤ q := by rw [← hq]; exact skF_ge _ _
  have hql : q ≤ s.size := by rw [← hq, ← HLN.out]; exact skF_le (by rw [HLN.out]; omega)
  rw [hq] at HM ⊢
  clear hq
  go_enter Tryz.func107, Tryz.ntmps107
  go_wp2_with fail
  refine HM.out.mono ?_
  rintro e w1 ⟨b1, ⟨hi, rfl, h1⟩ | ⟨hi, rfl⟩⟩
  rotate_left
  · exfalso; rw [HI.out] at hi; cases hi
  have HB1 := hideB b1
  have HT := hideB (fTook_any (c := 125) h1 (by omega) (by omega))
  clear h1 b1 hi
  cases h125 : isAt s.data.toList q 125
  rotate_left
  · rw [h125] at HT
    have HE : Hid (mapF WPr R s.data.toList fs q = addF WPr (nodeK 9) fs (skF s.data.toList (q + 1))) := by rw [Hid]; unfold mapF; rw [if_pos h125]
    clear h125
    go_wp2_with fail
    refine HT.out.mono ?_
    rintro e w2 ⟨rfl, h2, b2⟩
    have HB2 := hideB (HB1.out.trans b2)
    have HA := hideB (addK_any h2 (by omega) 9 ByteArray.empty 0)
    clear h2 b2
    go_wp2_with fail
    refine HA.out.mono ?_
    rintro e w6 ⟨rfl, h6, b6⟩
    have HF6 := hideB h6
    have HB6 := hideB (HB2.out.trans b6)
    clear h6 b6
    go_wp2_with fail
    go_ret
    exact FrOr.of HE.out (FrOr.add HF6.out HB6.out)
  rw [h125] at HT
  have HE : Hid (mapF WPr R s.data.toList fs q = rowsF WPr R s.data.toList (s.size + 1) [] [] fs q) := by rw [Hid]; unfold mapF; rw [if_neg (by rw [h125]; simp), HLN.out]
  clear h125
  go_wp2_with fail
  refine HT.out.mono ?_
  rintro e w2 ⟨rfl, h2, b2⟩
  have HF2 := hideB h2
  have HB2 := hideB (HB1.out.trans b2)
  clear h2 b2
  go_wp2_with fail
  go_loopw [3, 4] (fun kv it wr => ∃ (g y : Nat) (names : List ByteArray) (kids : List Int) (fs' : List FN), names.length + g = s.size + 1 ∧ names.length + (p + 1) ≤ y ∧ kids.length = names.length ∧ fs'.length ≤ y ∧ FrAt wr rb mb base (fun x => Z x ∨ kv.ownBlock = some x ∨ it.ownBlock = some x) s y fs' ∧ ButF rb base w wr ∧ wr.ownsRow w.heap.size 9 1 kv names.length (names.map .string) ∧ wr.ownsRow w.heap.size 2 1 it kids.length (kids.map (.int .i64)) ∧ Hid (mapF WPr R s.data.toList fs q = rowsF WPr R s.data.toList g names kids fs' y)) (fun _ _ wr => s.size + 1 - placeOf wr rb)
  case atStart => exact ⟨s.size + 1, q, [], [], fs, by simp, by simpa using hpq, rfl, by omega, HF2.out.more (fun x hx => by rcases hx with hx | hx | hx; exact .inl hx; cases hx; cases hx), HB2.out, World.ownsRow_nil _ _ _ _, World.ownsRow_nil _ _ _ _, HE.out⟩
  case round =>
    obtain ⟨g, y, names, kids, fs', hng, hny, hkl, hfl, hfr, hbt, hrn, hrk, HEQ⟩ := hrel
    have hys := hfr.le
    obtain ⟨g, rfl⟩ : ∃ g', g = g' + 1 := ⟨g - 1, by omega⟩
    have HS := hideIt hfr
    have HBT := hideIt hbt
    have HRN := hideIt hrn
    have HRK := hideIt hrk
    have zr := hbt.size
    obtain ⟨ak, ck, ek⟩ := own_sl hrn
    obtain ⟨ai, ci, ei⟩ := own_sl hrk
    obtain ⟨k, hlen⟩ : ∃ k, names.length = k := ⟨_, rfl⟩
    have HKL : Hid (kids.length = k) := by rw [Hid, hkl, hlen]
    rw [hkl, hlen] at ei
    rw [hlen] at ek hng hny hkl
    have HLEN := hideIt hlen
    subst ek ei
    have HNM := hideIt (readName_any hfr (by omega))
    have hnmle : nmJ s.data.toList y ≤ s.size := by rw [← HLN.out]; exact nm_le (by rw [HLN.out]; exact hys)
    have hnmge : y ≤ nmJ s.data.toList y := runJ_ge _ _ _
    obtain ⟨z, hz⟩ : ∃ z, txt (nameF s.data.toList y) = z := ⟨_, rfl⟩
    have HZZ := hideIt hz
    obtain ⟨y1, hy1'⟩ : ∃ y1, skF s.data.toList (nmJ s.data.toList y) = y1 := ⟨_, rfl⟩
    have hy1l : y ≤ y1 := by rw [← hy1']; exact Nat.le_trans hnmge (skF_ge _ _)
    have HY1 := hideIt hy1'
    rw [hz, hy1'] at HNM
    clear hfr hbt hrn hrk hlen hkl hz hy1' hnmle hnmge
    go_wp2_with fail
    refine HNM.out.mono ?_
    rintro e w3 ⟨rfl, h3, b3⟩
    have hrn3 := b3.own HRN.out (by decide) hrb
    have hrk3 := b3.own HRK.out (by decide) hrb
    have HB3 := hideIt (HBT.out.trans b3)
    have z3 := HB3.out.size
    have HF3 := hideIt h3
    have HK3 := hideIt hrk3
    have HRO : Hid (w3.ownsRow w.heap.size 9 1 (.slice ak k ck) k (names.map Value.string)) := by rw [HLEN.out] at hrn3; exact hrn3
    clear h3 b3 hrn3 hrk3
    go_wp2_with (at_builtin; refine wpList_append_own_at _ rfl _ _ 29 rfl w.heap.size 9 j1 (.string ByteArray.empty) 1 16 Tryz.underlying29 hj1 hzj hsj hyj rfl (by decide) _ _ _ rfl (HRO.out.alloc _) ⟨w3.heap.size, 0, none⟩ 1 1 [.string z] rfl rfl ?c1 ?c2 ?c3 ?c4 ?c5 ?_)
    case c1 => exact cell_one_new _ _ _
    case c2 => intro u hu; simp at hu; subst hu; rfl
    case c3 => unfold maxLen; omega
    case c4 => omega
    case c5 => simp; omega
    intro v' w5 hown hgrow _ hat
    have hga := (World.grownBy_alloc w3 (.cells #[.string z] 9) (Value.slice ak k ck).ownBlock).trans hgrow
    have HF5 := hideIt (HF3.out.grown HRO.out (by decide) hbw (fun x hx => .inl (.inr (.inl hx))) hga)
    have HB5 := hideIt (HB3.out.grownN hga (fun x hx => (HRO.out.lt x hx).1))
    have HK5 := hideIt (HK3.out.kept hga (own_apart HK3.out HRO.out (by decide)))
    have HN5 : Hid (w5.ownsRow w.heap.size 9 1 v' (names ++ [z]).length ((names ++ [z]).map .string)) := by rw [Hid, List.length_append, List.length_singleton, HLEN.out, List.map_append]; exact hown
    have HVB : Hid (∀ x, v'.ownBlock = some x → ((Value.slice ak k ck).ownBlock = some x ∨ w3.heap.size ≤ x)) := fun x hx => by
      rcases hat with e | e
      · exact .inl (by rw [← e]; exact hx)
      · rw [e] at hx; simp at hx; exact .inr (by omega)
    have z5 := HB5.out.size
    obtain ⟨av, cv, ev⟩ := own_sl hown
    subst ev
    clear hown hgrow hat hga
    have HF5' : Hid (FrAt w5 rb mb base (fun x => Z x ∨ (Value.slice av (k + 1) cv).ownBlock = some x ∨ (Value.slice ai k ci).ownBlock = some x) s y1 fs') := HF5.out.more (fun x hx => by
      rcases hx with hx | hx | hx
      · exact .inl (.inl (.inl hx))
      · rcases HVB.out x hx with h | h
        · exact .inl (.inl (.inr (.inl h)))
        · exact .inl (.inr h)
      · exact .inl (.inl (.inr (.inr hx))))
    have HM5 := hideIt (fMust_any (c := 58) HF5'.out (by omega) (by omega))
    go_wp2_with fail
    refine HM5.out.mono ?_
    rintro e w6 ⟨b6, ⟨hi6, rfl, h6⟩ | ⟨hi6, rfl⟩⟩
    rotate_left
    · have HB6 := hideB (HB5.out.trans b6)
      have HI6 := hideB hi6
      clear b6 hi6
      unfold gup
      go_wp2_with fail
      exact ⟨rfl, FrOr.no (by rw [HEQ.out, rowsF, show WPr.nam s.data.toList y = nmJ s.data.toList y from rfl, HY1.out]; exact mustF_n HI6.out) HB6.out⟩
    have HB6 := hideB (HB5.out.trans b6)
    have HI6 := hideB hi6
    have HN6 := hideB (b6.own HN5.out (by decide) hrb)
    have HK6 := hideB (b6.own HK5.out (by decide) hrb)
    have z6 := HB6.out.size
    obtain ⟨y2, hy2⟩ : ∃ y2, skF s.data.toList (y1 + 1) = y2 := ⟨_, rfl⟩
    have hy2l : y1 + 1 ≤ y2 := by rw [← hy2]; exact skF_ge _ _
    have HY2 := hideIt hy2
    rw [hy2] at h6
    have hy2s := h6.le
    have HRD := hideB (HHR.out 3 (fun x => Z x ∨ (Value.slice av (k + 1) cv).ownBlock = some x ∨ (Value.slice ai k ci).ownBlock = some x) fs' y2 w6 (by decide) (by decide) (fun x hx => by
      rcases hx with hx | hx | hx
      · have := HZ.out x hx; omega
      · exact (HN6.out.lt x hx).2
      · exact (HK6.out.lt x hx).2) h6 (by omega) (by omega))
    clear h6 b6 hi6 hy2
    go_wp2_with fail
    refine HRD.out.mono ?_
    rintro e w7 ⟨b7, ⟨n, fs7, y3, hr7, rfl, h7⟩ | ⟨hr7, rfl⟩⟩
    rotate_left
    · have HB7 := hideB (HB6.out.trans b7)
      have HR7 := hideB hr7
      clear b7 hr7
      unfold gup
      go_wp2_with fail
      exact ⟨rfl, FrOr.no (by rw [HEQ.out, rowsF, show WPr.nam s.data.toList y = nmJ s.data.toList y from rfl, HY1.out, mustF_y HI6.out, HY2.out]; exact bindF_n HR7.out) HB7.out⟩
    have wt := HHG.out _ _ _ _ _ _ (by rw [HLN.out]; exact hy2s) hr7
    have w7lt := wt.lt
    have w7cn := wt.cnt
    have w7le := wt.le
    rw [HLN.out] at w7le
    have HB7 := hideB (HB6.out.trans b7)
    have HR7 := hideB hr7
    have HN7 := hideB (b7.own HN6.out (by decide) hrb)
    have HF7 := hideB h7
    have z7 := HB7.out.size
    have HRO7 : Hid (w7.ownsRow w.heap.size 2 1 (.slice ai k ci) k (kids.map (Value.int .i64))) := by have := b7.own HK6.out (by decide) hrb; rw [HKL.out] at this; exact this
    clear h7 b7 hr7 wt
    go_wp2_with (at_builtin; refine wpList_append_own_at _ rfl _ _ 30 rfl w.heap.size 2 i1 (.int .i64 0) 1 8 Tryz.underlying30 hi1 hz1 hs1 hy1 rfl (by decide) _ _ _ rfl (HRO7.out.alloc _) ⟨w7.heap.size, 0, none⟩ 1 1 [.int .i64 n] rfl rfl ?d1 ?d2 ?d3 ?d4 ?d5 ?_)
    case d1 => exact cell_one_new _ _ _
    case d2 => intro u hu; simp at hu; subst hu; rfl
    case d3 => unfold maxLen; omega
    case d4 => omega
    case d5 => simp; omega
    intro v8 w8 hown hgrow _ hat
    have hga := (World.grownBy_alloc w7 (.cells #[.int .i64 n] 2) (Value.slice ai k ci).ownBlock).trans hgrow
    have HF8 := hideIt (HF7.out.grown HRO7.out (by decide) hbw (fun x hx => .inl (.inr (.inr hx))) hga)
    have HB8 := hideIt (HB7.out.grownN hga (fun x hx => (HRO7.out.lt x hx).1))
    have HN8 := hideIt (HN7.out.kept hga (own_apart HN7.out HRO7.out (by decide)))
    have HK8 : Hid (w8.ownsRow w.heap.size 2 1 v8 (kids ++ [n]).length ((kids ++ [n]).map (.int .i64))) := by rw [Hid, List.length_append, List.length_singleton, HKL.out, List.map_append]; exact hown
    have HVB8 : Hid (∀ x, v8.ownBlock = some x → ((Value.slice ai k ci).ownBlock = some x ∨ w7.heap.size ≤ x)) := fun x hx => by
      rcases hat with e | e
      · exact .inl (by rw [← e]; exact hx)
      · rw [e] at hx; simp at hx; exact .inr (by omega)
    have z8 := HB8.out.size
    obtain ⟨a8, c8, ev⟩ := own_sl hown
    subst ev
    clear hown hgrow hat hga
    have HF8' : Hid (FrAt w8 rb mb base (fun x => Z x ∨ (Value.slice av (k + 1) cv).ownBlock = some x ∨ (Value.slice a8 (k + 1) c8).ownBlock = some x) s y3 fs7) := HF8.out.more (fun x hx => by
      rcases hx with hx | hx | hx
      · exact .inl (.inl (.inl hx))
      · exact .inl (.inl (.inr (.inl hx)))
      · rcases HVB8.out x hx with h | h
        · exact .inl (.inl (.inr (.inr h)))
        · exact .inl (.inr h))
    have HSTEP : Hid (mapF WPr R s.data.toList fs q = if isAt s.data.toList y3 125 = true then addF WPr (nodeM (names ++ [z]) (kids ++ [n])) fs7 (skF s.data.toList (y3 + 1)) else mustF s.data.toList y3 44 fun q => rowsF WPr R s.data.toList g (names ++ [z]) (kids ++ [n]) fs7 q) := by
      rw [Hid, HEQ.out, rowsF, show WPr.nam s.data.toList y = nmJ s.data.toList y from rfl, HY1.out, mustF_y HI6.out, HY2.out, bindF_y HR7.out, ← HZZ.out]; rfl
    have HT8 := hideIt (fTook_any (c := 125) HF8'.out (by omega) (by omega))
    cases h125 : isAt s.data.toList y3 125
    · rw [h125] at HT8
      have HST : Hid (mapF WPr R s.data.toList fs q = mustF s.data.toList y3 44 fun q => rowsF WPr R s.data.toList g (names ++ [z]) (kids ++ [n]) fs7 q) := by rw [Hid, HSTEP.out, if_neg (by rw [h125]; simp)]
      clear h125 HSTEP
      go_wp2_with fail
      refine HT8.out.mono ?_
      rintro e w9 ⟨rfl, h9, b9⟩
      have HB9 := hideB (HB8.out.trans b9)
      have HN9 := hideB (b9.own HN8.out (by decide) hrb)
      have HK9 := hideB (b9.own HK8.out (by decide) hrb)
      have HM9 := hideB (fMust_any (p := y3) (c := 44) h9 (by omega) (by omega))
      clear h9 b9
      go_wp2_with fail
      refine HM9.out.mono ?_
      rintro e w10 ⟨b10, ⟨hi10, rfl, h10⟩ | ⟨hi10, rfl⟩⟩
      rotate_left
      · have HB10 := hideB (HB9.out.trans b10)
        have HI10 := hideB hi10
        clear b10 hi10
        unfold gup
        go_wp2_with fail
        exact ⟨rfl, FrOr.no (by rw [HST.out]; exact mustF_n HI10.out) HB10.out⟩
      have HB10 := hideB (HB9.out.trans b10)
      have HI10 := hideB hi10
      have HN10 := hideB (b10.own HN9.out (by decide) hrb)
      have HK10 := hideB (b10.own HK9.out (by decide) hrb)
      have hge := skF_ge s.data.toList (y3 + 1)
      have HF10 := hideB h10
      clear b10 hi10 h10
      go_wp2_with fail
      go_roundw
      case rel =>
        refine ⟨g, skF s.data.toList (y3 + 1), names ++ [z], kids ++ [n], fs7, ?_, ?_, ?_, by omega, HF10.out, HB10.out, HN10.out, HK10.out, ?_⟩
        · rw [List.length_append, List.length_singleton, HLEN.out]; omega
        · rw [List.length_append, List.length_singleton, HLEN.out]; omega
        · rw [List.length_append, List.length_append, List.length_singleton, List.length_singleton, HLEN.out, HKL.out]
        · rw [Hid, HST.out, mustF_y HI10.out]
      case measure => rw [HS.out.place, HF10.out.place]; have := HF10.out.le; omega
    · rw [h125] at HT8
      have HST : Hid (mapF WPr R s.data.toList fs q = addF WPr (nodeM (names ++ [z]) (kids ++ [n])) fs7 (skF s.data.toList (y3 + 1))) := by rw [Hid, HSTEP.out, if_pos h125]
      clear h125 HSTEP
      go_wp2_with fail
      refine HT8.out.mono ?_
      rintro e w9 ⟨rfl, h9, b9⟩
      have HB9 := hideB (HB8.out.trans b9)
      have hn9 := ownB (b9.own HN8.out (by decide) hrb) hbw
      have hk9 := ownB (b9.own HK8.out (by decide) hrb) hbw
      have HA := hideB (frAdd_any (p := skF s.data.toList (y3 + 1)) (Z' := Z) (x := nodeM (names ++ [z]) (kids ++ [n])) (kc := .slice none 0 0) (kn := .slice av (k + 1) cv) (ki := .slice a8 (k + 1) c8) (k0 := .slice none 0 0) h9 (nestNil _ _) hn9 hk9 (fun x hx => by
        rcases hx with hx | hx | hx
        · cases hx
        · exact .inr (.inl hx)
        · exact .inr (.inr hx)) (fun x hx => ⟨.inl hx, fun e => by
        have h0 := HZ.out x hx
        rcases e with e | e | e
        · cases e
        · have := (HN8.out.lt x e).1; omega
        · have := (HK8.out.lt x e).1; omega⟩) (by omega))
      clear h9 b9 hn9 hk9
      go_wp2_with fail
      refine HA.out.mono ?_
      rintro e w10 ⟨rfl, h10, b10⟩
      have HF10 := hideB h10
      have HB10 := hideB (HB9.out.trans b10)
      clear h10 b10
      go_wp2_with fail
      go_ret
      exact FrOr.of HST.out (FrOr.add HF10.out HB10.out)
end
end Go.Proofs.YtcidjhnogldgmaaGreatDoor

namespace Go.Proofs.YtcidjhnogldgmaaGreatDoor
open Go.RowKit
set_option linter.unusedSimpArgs false
set_option linter.unusedVariables false
set_option linter.unusedSectionVars false
def wtL (i : Nat) : List UInt8 := [[108, 101, 110, 103, 116, 104], [107, 101, 121, 115], [110, 111, 116], [101, 109, 112, 116, 121]].getD i []
theorem wix_txt {J : Array Value} (hJ : wordC.toArray = J) {m : Nat} (hm : m < 4) : ∃ kk sg, (∀ W, (Instr.index 219 (.agg J) (.int .i64 (m : Int))).run Tryz.prog W = .ok (.agg #[.int .i64 kk, .string sg]) W) ∧ kk = wkF m ∧ sg = txt (wtL m) := by
  rw [← hJ]
  rcases (show m = 0 ∨ m = 1 ∨ m = 2 ∨ m = 3 by omega) with rfl | rfl | rfl | rfl
  · exact ⟨_, _, wix0, rfl, rfl⟩
  · exact ⟨_, _, wix1, rfl, rfl⟩
  · exact ⟨_, _, wix2, rfl, rfl⟩
  · exact ⟨_, _, wix3, rfl, rfl⟩
theorem named_word {R : RD} {L : List UInt8} {w : List UInt8} {fs : List FN} {p : Nat} {m : Nat} (hm : m < 4) (h : w = wtL m) : namedF WPr R L w fs p = addF WPr (nodeK (wkF m)) fs p := by
  subst h
  rcases (show m = 0 ∨ m = 1 ∨ m = 2 ∨ m = 3 by omega) with rfl | rfl | rfl | rfl <;> rfl
theorem named_none {R : RD} {L : List UInt8} {w : List UInt8} {fs : List FN} {p : Nat} (h1 : w ≠ nullW) (h2 : w ≠ trueW) (h3 : w ≠ falseW) (h4 : w ≠ [115, 101, 108, 101, 99, 116]) (h5 : w ≠ [105, 102]) (h : ∀ m, m < 4 → w ≠ wtL m) : namedF WPr R L w fs p = none := by
  unfold namedF
  rw [if_neg h1, if_neg h2, if_neg h3, if_neg h4, if_neg h5, if_neg (show w ≠ [108, 101, 110, 103, 116, 104] from h 0 (by omega)), if_neg (show w ≠ [107, 101, 121, 115] from h 1 (by omega)), if_neg (show w ≠ [110, 111, 116] from h 2 (by omega)), if_neg (show w ≠ [101, 109, 112, 116, 121] from h 3 (by omega))]
section
variable {R : RD} {f rb mb base : Nat} {s : ByteArray} (HR : RdsF R f rb mb base s) (HG : GoesF s.data.toList R)
include HR HG
set_option maxRecDepth 100000 in
set_option maxHeartbeats 6400000 in
theorem readFWord_any {p : Nat} {Z : Nat → Prop} {fs : List FN} {w : World} (h : FrAt w rb mb base Z s p fs) (hZ : ∀ x, Z x → x < w.heap.size) (hs : s.size ≤ 1000) (hl : fs.length ≤ p) (hf : s.size ≤ p + f) :
    Calls Tryz.prog 112 #[.pointer (some ⟨rb, 0, none⟩)] w (FrOr (namedF WPr R s.data.toList (nameF s.data.toList p) fs (skF s.data.toList (nmJ s.data.toList p))) rb mb base Z s w) := by
  have HLN := hideB (len_is s)
  have hps := h.le
  have HN := hideB (readName_any h (by omega))
  have HZ : Hid (∀ x, Z x → x < w.heap.size) := hZ
  have HHR := hideB HR
  have HHG := hideB HG
  have hnge : p ≤ nmJ s.data.toList p := runJ_ge _ _ _
  have HNE : Hid (nameF s.data.toList p ≠ [] → p < nmJ s.data.toList p) := fun hne => by
    rcases Nat.lt_or_ge p (nmJ s.data.toList p) with h | h
    · exact h
    · exfalso; refine hne ?_; unfold nameF; rw [show nmJ s.data.toList p - p = 0 by omega]; rfl
  obtain ⟨L, hL⟩ : ∃ L, nameF s.data.toList p = L := ⟨_, rfl⟩
  obtain ⟨q, hq⟩ : ∃ q, skF s.data.toList (nmJ s.data.toList p) = q := ⟨_, rfl⟩
  have HNQ : Hid (L ≠ [] → p < q) := fun hne => by
    have h1 := HNE.out (by rw [hL]; exact hne)
    have h2 := skF_ge s.data.toList (nmJ s.data.toList p)
    rw [hq] at h2; omega
  have hpq : p ≤ q := by rw [← hq]; exact Nat.le_trans hnge (skF_ge _ _)
  have HIQ : Hid (skF s.data.toList q = q) := by rw [Hid, ← hq]; exact skF_idem _ _
  rw [hL, hq] at HN
  rw [hL, hq]
  obtain ⟨T, hT⟩ : ∃ T, txt L = T := ⟨_, rfl⟩
  have HT : Hid (T.toList = L) := by rw [Hid, ← hT, ByteArray.toList_eq, bytes_txt]
  rw [hT] at HN
  clear h hZ HR HG hT hL hq hnge HNE
  by_cases e_null : L = [110, 117, 108, 108]
  · have HNE := hideB (HNQ.out (by rw [e_null]; simp))
    have HE : Hid (namedF WPr R s.data.toList L fs q = addF WPr (nodeC ⟨1, 0, ByteArray.empty, [], []⟩) fs (skF s.data.toList q)) := by rw [Hid, HIQ.out, e_null]; rfl
    have q_null : (T.toList == [110, 117, 108, 108]) = true := by rw [HT.out, e_null]; rfl
    clear e_null 
    go_enter Tryz.func112, Tryz.ntmps112
    go_wp2_with fail
    refine HN.out.mono ?_
    rintro e w1 ⟨rfl, h1, b1⟩
    have HF1 := hideB h1
    have HB1 := hideB b1
    have HZ1 : Hid (∀ x, Z x → x < w1.heap.size) := fun x hx => Nat.lt_of_lt_of_le (HZ.out x hx) b1.size
    clear h1 b1
    have HC := hideB (addConst_any HF1.out HZ1.out (by omega) (by omega) 1 0 ByteArray.empty)
    go_wp2_with fail
    refine HC.out.mono ?_
    rintro e w2 ⟨b2, ⟨n2, fs2, q2, hr, rfl, h2⟩ | ⟨hr, rfl⟩⟩
    · have HB2 := hideB (HB1.out.trans b2)
      have HF2 := hideB h2
      have HR2 := hideB hr
      clear b2 h2 hr
      go_wp2_with fail
      go_ret
      exact ⟨HB2.out, .inl ⟨n2, fs2, q2, by rw [HE.out]; exact HR2.out, rfl, HF2.out⟩⟩
    · have HB2 := hideB (HB1.out.trans b2)
      have HR2 := hideB hr
      clear b2 hr
      unfold gup
      go_wp2_with fail
      exact ⟨rfl, FrOr.no (by rw [HE.out]; exact HR2.out) HB2.out⟩
  have n_null : L ≠ [110, 117, 108, 108] := e_null
  clear e_null
  by_cases e_false : L = [102, 97, 108, 115, 101]
  · have HNE := hideB (HNQ.out (by rw [e_false]; simp))
    have HE : Hid (namedF WPr R s.data.toList L fs q = addF WPr (nodeC ⟨2, 0, ByteArray.empty, [], []⟩) fs (skF s.data.toList q)) := by rw [Hid, HIQ.out, e_false]; rfl
    have q_null : (T.toList == [110, 117, 108, 108]) = false := by rw [HT.out]; exact beq_false_of_ne n_null
    have q_false : (T.toList == [102, 97, 108, 115, 101]) = true := by rw [HT.out, e_false]; rfl
    clear e_false n_null
    go_enter Tryz.func112, Tryz.ntmps112
    go_wp2_with fail
    refine HN.out.mono ?_
    rintro e w1 ⟨rfl, h1, b1⟩
    have HF1 := hideB h1
    have HB1 := hideB b1
    have HZ1 : Hid (∀ x, Z x → x < w1.heap.size) := fun x hx => Nat.lt_of_lt_of_le (HZ.out x hx) b1.size
    clear h1 b1
    have HC := hideB (addConst_any HF1.out HZ1.out (by omega) (by omega) 2 0 ByteArray.empty)
    go_wp2_with fail
    refine HC.out.mono ?_
    rintro e w2 ⟨b2, ⟨n2, fs2, q2, hr, rfl, h2⟩ | ⟨hr, rfl⟩⟩
    · have HB2 := hideB (HB1.out.trans b2)
      have HF2 := hideB h2
      have HR2 := hideB hr
      clear b2 h2 hr
      go_wp2_with fail
      go_ret
      exact ⟨HB2.out, .inl ⟨n2, fs2, q2, by rw [HE.out]; exact HR2.out, rfl, HF2.out⟩⟩
    · have HB2 := hideB (HB1.out.trans b2)
      have HR2 := hideB hr
      clear b2 hr
      unfold gup
      go_wp2_with fail
      exact ⟨rfl, FrOr.no (by rw [HE.out]; exact HR2.out) HB2.out⟩
  have n_false : L ≠ [102, 97, 108, 115, 101] := e_false
  clear e_false
  by_cases e_true : L = [116, 114, 117, 101]
  · have HNE := hideB (HNQ.out (by rw [e_true]; simp))
    have HE : Hid (namedF WPr R s.data.toList L fs q = addF WPr (nodeC ⟨2, 1, ByteArray.empty, [], []⟩) fs (skF s.data.toList q)) := by rw [Hid, HIQ.out, e_true]; rfl
    have q_null : (T.toList == [110, 117, 108, 108]) = false := by rw [HT.out]; exact beq_false_of_ne n_null
    have q_false : (T.toList == [102, 97, 108, 115, 101]) = false := by rw [HT.out]; exact beq_false_of_ne n_false
    have q_true : (T.toList == [116, 114, 117, 101]) = true := by rw [HT.out, e_true]; rfl
    clear e_true n_null n_false
    go_enter Tryz.func112, Tryz.ntmps112
    go_wp2_with fail
    refine HN.out.mono ?_
    rintro e w1 ⟨rfl, h1, b1⟩
    have HF1 := hideB h1
    have HB1 := hideB b1
    have HZ1 : Hid (∀ x, Z x → x < w1.heap.size) := fun x hx => Nat.lt_of_lt_of_le (HZ.out x hx) b1.size
    clear h1 b1
    have HC := hideB (addConst_any HF1.out HZ1.out (by omega) (by omega) 2 1 ByteArray.empty)
    go_wp2_with fail
    refine HC.out.mono ?_
    rintro e w2 ⟨b2, ⟨n2, fs2, q2, hr, rfl, h2⟩ | ⟨hr, rfl⟩⟩
    · have HB2 := hideB (HB1.out.trans b2)
      have HF2 := hideB h2
      have HR2 := hideB hr
      clear b2 h2 hr
      go_wp2_with fail
      go_ret
      exact ⟨HB2.out, .inl ⟨n2, fs2, q2, by rw [HE.out]; exact HR2.out, rfl, HF2.out⟩⟩
    · have HB2 := hideB (HB1.out.trans b2)
      have HR2 := hideB hr
      clear b2 hr
      unfold gup
      go_wp2_with fail
      exact ⟨rfl, FrOr.no (by rw [HE.out]; exact HR2.out) HB2.out⟩
  have n_true : L ≠ [116, 114, 117, 101] := e_true
  clear e_true
  by_cases e_select : L = [115, 101, 108, 101, 99, 116]
  · have HNE := hideB (HNQ.out (by rw [e_select]; simp))
    have HE : Hid (namedF WPr R s.data.toList L fs q = selF WPr R s.data.toList fs q) := by rw [Hid, e_select]; rfl
    have q_null : (T.toList == [110, 117, 108, 108]) = false := by rw [HT.out]; exact beq_false_of_ne n_null
    have q_false : (T.toList == [102, 97, 108, 115, 101]) = false := by rw [HT.out]; exact beq_false_of_ne n_false
    have q_true : (T.toList == [116, 114, 117, 101]) = false := by rw [HT.out]; exact beq_false_of_ne n_true
    have q_select : (T.toList == [115, 101, 108, 101, 99, 116]) = true := by rw [HT.out, e_select]; rfl
    clear e_select n_null n_false n_true
    go_enter Tryz.func112, Tryz.ntmps112
    go_wp2_with fail
    refine HN.out.mono ?_
    rintro e w1 ⟨rfl, h1, b1⟩
    have HF1 := hideB h1
    have HB1 := hideB b1
    have HZ1 : Hid (∀ x, Z x → x < w1.heap.size) := fun x hx => Nat.lt_of_lt_of_le (HZ.out x hx) b1.size
    clear h1 b1
    have hpq1 := HNE.out
    have HC := hideB (readAround_any HHR.out HHG.out HF1.out HZ1.out (by omega) (by omega) (by omega))
    go_wp2_with fail
    refine HC.out.mono ?_
    rintro e w2 ⟨b2, ⟨n2, fs2, q2, hr, rfl, h2⟩ | ⟨hr, rfl⟩⟩
    · have HB2 := hideB (HB1.out.trans b2)
      have hql := HF1.out.le
      have hcnt : fs2.length ≤ 4000 := by
        obtain ⟨ei, hr2⟩ := mustF_inv hr
        have e1 := (isAt_yes.1 ei).1
        have e2 := skF_ge s.data.toList (q + 1)
        have wt := (around_went HHG.out (p0 := q) (by omega) (skF_le (by omega)) hr2).1
        have := wt.cnt
        have := wt.le
        rw [HLN.out] at this
        omega
      have HR2 := hideB hr
      have HA := hideB (addR_any h2 (fun x hx => Nat.lt_of_lt_of_le (HZ1.out x hx) b2.size) hcnt 10 [n2] (by simp))
      clear b2 h2 hr hcnt
      go_wp2_with fail
      refine HA.out.mono ?_
      rintro e w3 ⟨rfl, h3, b3⟩
      have HF3 := hideB h3
      have HB3 := hideB (HB2.out.trans b3)
      clear h3 b3
      go_wp2_with fail
      go_ret
      refine FrOr.of ?_ (FrOr.add HF3.out HB3.out)
      rw [HE.out]
      obtain ⟨ei, hr2⟩ := mustF_inv HR2.out
      unfold selF
      rw [mustF_y ei, bindF_y hr2]
    · have HB2 := hideB (HB1.out.trans b2)
      have HR2 := hideB hr
      clear b2 hr
      unfold gup
      go_wp2_with fail
      refine ⟨rfl, FrOr.no ?_ HB2.out⟩
      rw [HE.out]
      unfold selF
      cases ei : isAt s.data.toList q 40
      · exact mustF_n ei
      · have h1 := HR2.out
        rw [mustF_y ei] at h1
        rw [mustF_y ei]
        exact bindF_n h1
  have n_select : L ≠ [115, 101, 108, 101, 99, 116] := e_select
  clear e_select
  by_cases e_if : L = [105, 102]
  · have HNE := hideB (HNQ.out (by rw [e_if]; simp))
    have HE : Hid (namedF WPr R s.data.toList L fs q = ifF WPr R s.data.toList fs q) := by rw [Hid, e_if]; rfl
    have q_null : (T.toList == [110, 117, 108, 108]) = false := by rw [HT.out]; exact beq_false_of_ne n_null
    have q_false : (T.toList == [102, 97, 108, 115, 101]) = false := by rw [HT.out]; exact beq_false_of_ne n_false
    have q_true : (T.toList == [116, 114, 117, 101]) = false := by rw [HT.out]; exact beq_false_of_ne n_true
    have q_select : (T.toList == [115, 101, 108, 101, 99, 116]) = false := by rw [HT.out]; exact beq_false_of_ne n_select
    have q_if : (T.toList == [105, 102]) = true := by rw [HT.out, e_if]; rfl
    clear e_if n_null n_false n_true n_select
    go_enter Tryz.func112, Tryz.ntmps112
    go_wp2_with fail
    refine HN.out.mono ?_
    rintro e w1 ⟨rfl, h1, b1⟩
    have HF1 := hideB h1
    have HB1 := hideB b1
    have HZ1 : Hid (∀ x, Z x → x < w1.heap.size) := fun x hx => Nat.lt_of_lt_of_le (HZ.out x hx) b1.size
    clear h1 b1
    have hpq1 := HNE.out
    have HC := hideB (readIf_any HHR.out HHG.out HF1.out HZ1.out hs (by omega) (by omega))
    go_wp2_with fail
    refine HC.out.mono ?_
    rintro e w2 ⟨b2, ⟨n2, fs2, q2, hr, rfl, h2⟩ | ⟨hr, rfl⟩⟩
    · have HB2 := hideB (HB1.out.trans b2)
      have HF2 := hideB h2
      have HR2 := hideB hr
      clear b2 h2 hr
      go_wp2_with fail
      go_ret
      exact ⟨HB2.out, .inl ⟨n2, fs2, q2, by rw [HE.out]; exact HR2.out, rfl, HF2.out⟩⟩
    · have HB2 := hideB (HB1.out.trans b2)
      have HR2 := hideB hr
      clear b2 hr
      unfold gup
      go_wp2_with fail
      exact ⟨rfl, FrOr.no (by rw [HE.out]; exact HR2.out) HB2.out⟩
  have n_if : L ≠ [105, 102] := e_if
  clear e_if
  have q_null : (T.toList == [110, 117, 108, 108]) = false := by rw [HT.out]; exact beq_false_of_ne n_null
  have q_false : (T.toList == [102, 97, 108, 115, 101]) = false := by rw [HT.out]; exact beq_false_of_ne n_false
  have q_true : (T.toList == [116, 114, 117, 101]) = false := by rw [HT.out]; exact beq_false_of_ne n_true
  have q_select : (T.toList == [115, 101, 108, 101, 99, 116]) = false := by rw [HT.out]; exact beq_false_of_ne n_select
  have q_if : (T.toList == [105, 102]) = false := by rw [HT.out]; exact beq_false_of_ne n_if
  have HNN : Hid (L ≠ nullW ∧ L ≠ trueW ∧ L ≠ falseW ∧ L ≠ [115, 101, 108, 101, 99, 116] ∧ L ≠ [105, 102]) := ⟨n_null, n_true, n_false, n_select, n_if⟩
  clear n_null n_true n_false n_select n_if
  go_enter Tryz.func112, Tryz.ntmps112
  go_upto_region 1 with fail
  go_upto_region 2 with (go_at_call 138; refine HN.out.mono ?_; rintro e w1 ⟨rfl, h1, b1⟩)
  have HF1 := hideB h1
  have HB1 := hideB b1
  clear h1 b1
  go_upto_region 13 with fail
  refine wp_region_lit ?_
  refine wpList_load_mid rfl 219 (.global 7) rfl 7 0 rfl wordC _ (HF1.out.box.tb.wd _ (Below.refl _ _)) w_und rfl w_inf ?_
  obtain ⟨J, hJ⟩ : ∃ J, wordC.toArray = J := ⟨_, rfl⟩
  rw [hJ]
  have HJ := hideB hJ
  clear hJ
  go_wp2_with fail
  go_loopw [5, 37] (fun _ i wr => ∃ m : Nat, m ≤ 4 ∧ i = .int .i64 m ∧ FrAt wr rb mb base Z s q fs ∧ ButF rb base w wr ∧ Hid (∀ j, j < m → L ≠ wtL j)) (fun _ i _ => 4 - (intOf i).toNat)
  case atStart => exact ⟨0, by omega, rfl, HF1.out, HB1.out, fun j hj => by omega⟩
  case round =>
    obtain ⟨m, hm, rfl, hfr, hbt, HNO⟩ := hrel
    have HF := hideB hfr
    have HB := hideB hbt
    clear hfr hbt
    rcases (show m = 4 ∨ m < 4 by omega) with rfl | hlt
    · have HE : Hid (namedF WPr R s.data.toList L fs q = none) := named_none HNN.out.1 HNN.out.2.1 HNN.out.2.2.1 HNN.out.2.2.2.1 HNN.out.2.2.2.2 HNO.out
      go_wp2_with fail
      exact ⟨rfl, FrOr.no HE.out HB.out⟩
    · have hlt' : (m : Int) < 4 := by omega
      obtain ⟨kk, sg, hix, hkk, hsg⟩ := wix_txt HJ.out hlt
      have HKK := hideB hkk
      have HSG : Hid (sg.toList = wtL m) := by rw [Hid, hsg, ByteArray.toList_eq, bytes_txt]
      have hba : Below wr.heap.size wr (wr.alloc (.cells #[.int .i64 kk, .string sg] 218)) := (Below.refl _ _).alloc (Nat.le_refl _) _
      have HF9 := hideB (HF.out.below hba)
      have HB9 := hideB (HB.out.trans (ButF.of_below hba))
      clear hkk hsg hba
      by_cases he : L = wtL m
      · have q9 : (sg.toList == T.toList) = true := by rw [HSG.out, HT.out, he]; exact beq_self_eq_true _
        have HE : Hid (namedF WPr R s.data.toList L fs q = addF WPr (nodeK kk) fs q) := by rw [Hid, HKK.out]; exact named_word hlt he
        have HA := hideB (addK_any HF9.out (by have := HF.out.le; omega) kk ByteArray.empty 0)
        clear he
        go_wp2_with fail
        refine HA.out.mono ?_
        rintro e w3 ⟨rfl, h3, b3⟩
        have HF3 := hideB h3
        have HB3 := hideB (HB9.out.trans b3)
        clear h3 b3
        go_wp2_with fail
        go_ret
        exact FrOr.of HE.out (FrOr.add HF3.out HB3.out)
      · have q9 : (sg.toList == T.toList) = false := by rw [HSG.out, HT.out]; exact beq_false_of_ne (fun e => he e.symm)
        have HNO2 : Hid (∀ j, j < m + 1 → L ≠ wtL j) := fun j hj => by
          by_cases e : j = m
          · subst e; exact he
          · exact HNO.out j (by omega)
        clear he
        go_wp2_with fail
        first
          | exact ⟨⟨m + 1, by omega, by go_num, HF9.out, HB9.out, HNO2.out⟩, by simp [intOf]; omega⟩
          | (go_roundw
             case rel => exact ⟨m + 1, by omega, by go_num, HF9.out, HB9.out, HNO2.out⟩
             case measure => simp [intOf]; omega)
end
end Go.Proofs.YtcidjhnogldgmaaGreatDoor

namespace Go.Proofs.YtcidjhnogldgmaaGreatDoor
open Go.RowKit
set_option linter.unusedSimpArgs false
set_option linter.unusedVariables false
set_option linter.unusedSectionVars false
theorem isByF {L : List UInt8} {p c : Nat} (hc : c ≠ 0) : isAt L p c = true ↔ byAt L p = c := by
  rw [isAt_yes]
  refine ⟨fun h => h.2, fun h => ⟨?_, h⟩⟩
  rcases Nat.lt_or_ge p L.length with h' | h'
  · exact h'
  · have := byAt_past h'; omega
theorem digAt_by (L : List UInt8) (p : Nat) : digAt L p = digN (byAt L p) := by
  unfold digAt
  by_cases h : p < L.length
  · rw [decide_eq_true h, Bool.true_and]
  · rw [decide_eq_false h, Bool.false_and, byAt_past (by omega)]; rfl
theorem letAt_by (L : List UInt8) (p : Nat) : letAt L p = letN (byAt L p) := by
  unfold letAt
  by_cases h : p < L.length
  · rw [decide_eq_true h, Bool.true_and]
  · rw [decide_eq_false h, Bool.false_and, byAt_past (by omega)]; rfl
section
variable {R : RD} {f rb mb base : Nat} {s : ByteArray} (HR : RdsF R f rb mb base s) (HG : GoesF s.data.toList R)
include HR HG
set_option maxRecDepth 100000 in
set_option maxHeartbeats 6400000 in
theorem readWhole_any {p : Nat} {Z : Nat → Prop} {fs : List FN} {w : World} (h : FrAt w rb mb base Z s p fs) (hZ : ∀ x, Z x → x < w.heap.size) (hs : s.size ≤ 1000) (hl : fs.length ≤ p) (hf : s.size ≤ p + f) :
    Calls Tryz.prog 76 #[.pointer (some ⟨rb, 0, none⟩)] w (FrOr (wholeF WPr R s.data.toList fs p) rb mb base Z s w) := by
  have HLN := hideB (len_is s)
  have hps := h.le
  have HPK := hideB (fPeek_any h (by omega))
  have HZ : Hid (∀ x, Z x → x < w.heap.size) := hZ
  have HHR := hideB HR
  have HHG := hideB HG
  have HIS : Hid (∀ x : Nat, x ≠ 0 → (isAt s.data.toList p x = true ↔ byAt s.data.toList p = x)) := fun x hx => isByF hx
  have hc256 := byAt_lt s.data.toList p
  obtain ⟨c, hc⟩ : ∃ c, byAt s.data.toList p = c := ⟨_, rfl⟩
  have HC := hideB hc
  rw [hc] at HPK hc256 HIS
  clear h hZ HR HG hc
  by_cases n46 : c = 46
  · have hat : isAt s.data.toList p 46 = true := (HIS.out 46 (by decide)).2 n46
    have hpl : p < s.size := by rw [← HLN.out]; exact (isAt_yes.1 hat).1
    have HE : Hid (wholeF WPr R s.data.toList fs p = pointF WPr s.data.toList fs (p + 1)) := by rw [Hid]; unfold wholeF; rw [if_pos hat]
    have HAT := hideB hat
    subst n46
    clear hat HIS 
    go_enter Tryz.func76, Tryz.ntmps76
    go_wp2_with fail
    refine HPK.out.mono ?_
    rintro e w1 ⟨rfl, h1, b1⟩
    have HF1 := hideB h1
    have HB1 := hideB b1
    have HZ1 : Hid (∀ x, Z x → x < w1.heap.size) := fun x hx => Nat.lt_of_lt_of_le (HZ.out x hx) b1.size
    clear h1 b1
    have HCC := hideB (readPoint_any HF1.out (by omega) (by omega) hpl)
    go_wp2_with fail
    refine HCC.out.mono ?_
    rintro e w2 ⟨b2, ⟨n2, fs2, q2, hr, rfl, h2⟩ | ⟨hr, rfl⟩⟩
    · have HB2 := hideB (HB1.out.trans b2)
      have HF2 := hideB h2
      have HR2 := hideB hr
      clear b2 h2 hr
      go_wp2_with fail
      go_ret
      exact ⟨HB2.out, .inl ⟨n2, fs2, q2, by rw [HE.out]; exact HR2.out, rfl, HF2.out⟩⟩
    · have HB2 := hideB (HB1.out.trans b2)
      have HR2 := hideB hr
      clear b2 hr
      unfold gup
      go_wp2_with fail
      exact ⟨rfl, FrOr.no (by rw [HE.out]; exact HR2.out) HB2.out⟩
  by_cases n40 : c = 40
  · have hat : isAt s.data.toList p 40 = true := (HIS.out 40 (by decide)).2 n40
    have hpl : p < s.size := by rw [← HLN.out]; exact (isAt_yes.1 hat).1
    have HE : Hid (wholeF WPr R s.data.toList fs p = aroundF R s.data.toList 41 fs (skF s.data.toList (p + 1))) := by rw [Hid]; unfold wholeF; rw [if_neg (fun e => n46 ((HIS.out 46 (by decide)).1 e)), if_pos hat]
    have HAT := hideB hat
    subst n40
    clear hat HIS 
    go_enter Tryz.func76, Tryz.ntmps76
    go_wp2_with fail
    refine HPK.out.mono ?_
    rintro e w1 ⟨rfl, h1, b1⟩
    have HF1 := hideB h1
    have HB1 := hideB b1
    have HZ1 : Hid (∀ x, Z x → x < w1.heap.size) := fun x hx => Nat.lt_of_lt_of_le (HZ.out x hx) b1.size
    clear h1 b1
    have HCC := hideB (readAround_any HHR.out HHG.out HF1.out HZ1.out (by omega) hl (by omega))
    go_wp2_with fail
    refine HCC.out.mono ?_
    rintro e w2 ⟨b2, ⟨n2, fs2, q2, hr, rfl, h2⟩ | ⟨hr, rfl⟩⟩
    · have HB2 := hideB (HB1.out.trans b2)
      have HF2 := hideB h2
      have HR2 := hideB hr
      clear b2 h2 hr
      go_wp2_with fail
      go_ret
      exact ⟨HB2.out, .inl ⟨n2, fs2, q2, by rw [HE.out]; exact (mustF_y HAT.out).symm.trans HR2.out, rfl, HF2.out⟩⟩
    · have HB2 := hideB (HB1.out.trans b2)
      have HR2 := hideB hr
      clear b2 hr
      unfold gup
      go_wp2_with fail
      exact ⟨rfl, FrOr.no (by rw [HE.out]; exact (mustF_y HAT.out).symm.trans HR2.out) HB2.out⟩
  by_cases n91 : c = 91
  · have hat : isAt s.data.toList p 91 = true := (HIS.out 91 (by decide)).2 n91
    have hpl : p < s.size := by rw [← HLN.out]; exact (isAt_yes.1 hat).1
    have HE : Hid (wholeF WPr R s.data.toList fs p = listF WPr R s.data.toList fs (skF s.data.toList (p + 1))) := by rw [Hid]; unfold wholeF; rw [if_neg (fun e => n46 ((HIS.out 46 (by decide)).1 e)), if_neg (fun e => n40 ((HIS.out 40 (by decide)).1 e)), if_pos hat]
    have HAT := hideB hat
    subst n91
    clear hat HIS 
    go_enter Tryz.func76, Tryz.ntmps76
    go_wp2_with fail
    refine HPK.out.mono ?_
    rintro e w1 ⟨rfl, h1, b1⟩
    have HF1 := hideB h1
    have HB1 := hideB b1
    have HZ1 : Hid (∀ x, Z x → x < w1.heap.size) := fun x hx => Nat.lt_of_lt_of_le (HZ.out x hx) b1.size
    clear h1 b1
    have HCC := hideB (readFList_any HHR.out HHG.out HF1.out HZ1.out hs hl (by omega) HAT.out)
    go_wp2_with fail
    refine HCC.out.mono ?_
    rintro e w2 ⟨b2, ⟨n2, fs2, q2, hr, rfl, h2⟩ | ⟨hr, rfl⟩⟩
    · have HB2 := hideB (HB1.out.trans b2)
      have HF2 := hideB h2
      have HR2 := hideB hr
      clear b2 h2 hr
      go_wp2_with fail
      go_ret
      exact ⟨HB2.out, .inl ⟨n2, fs2, q2, by rw [HE.out]; exact HR2.out, rfl, HF2.out⟩⟩
    · have HB2 := hideB (HB1.out.trans b2)
      have HR2 := hideB hr
      clear b2 hr
      unfold gup
      go_wp2_with fail
      exact ⟨rfl, FrOr.no (by rw [HE.out]; exact HR2.out) HB2.out⟩
  by_cases n123 : c = 123
  · have hat : isAt s.data.toList p 123 = true := (HIS.out 123 (by decide)).2 n123
    have hpl : p < s.size := by rw [← HLN.out]; exact (isAt_yes.1 hat).1
    have HE : Hid (wholeF WPr R s.data.toList fs p = mapF WPr R s.data.toList fs (skF s.data.toList (p + 1))) := by rw [Hid]; unfold wholeF; rw [if_neg (fun e => n46 ((HIS.out 46 (by decide)).1 e)), if_neg (fun e => n40 ((HIS.out 40 (by decide)).1 e)), if_neg (fun e => n91 ((HIS.out 91 (by decide)).1 e)), if_pos hat]
    have HAT := hideB hat
    subst n123
    clear hat HIS 
    go_enter Tryz.func76, Tryz.ntmps76
    go_wp2_with fail
    refine HPK.out.mono ?_
    rintro e w1 ⟨rfl, h1, b1⟩
    have HF1 := hideB h1
    have HB1 := hideB b1
    have HZ1 : Hid (∀ x, Z x → x < w1.heap.size) := fun x hx => Nat.lt_of_lt_of_le (HZ.out x hx) b1.size
    clear h1 b1
    have HCC := hideB (readFMap_any HHR.out HHG.out HF1.out HZ1.out hs hl (by omega) HAT.out)
    go_wp2_with fail
    refine HCC.out.mono ?_
    rintro e w2 ⟨b2, ⟨n2, fs2, q2, hr, rfl, h2⟩ | ⟨hr, rfl⟩⟩
    · have HB2 := hideB (HB1.out.trans b2)
      have HF2 := hideB h2
      have HR2 := hideB hr
      clear b2 h2 hr
      go_wp2_with fail
      go_ret
      exact ⟨HB2.out, .inl ⟨n2, fs2, q2, by rw [HE.out]; exact HR2.out, rfl, HF2.out⟩⟩
    · have HB2 := hideB (HB1.out.trans b2)
      have HR2 := hideB hr
      clear b2 hr
      unfold gup
      go_wp2_with fail
      exact ⟨rfl, FrOr.no (by rw [HE.out]; exact HR2.out) HB2.out⟩
  by_cases n34 : c = 34
  · have hat : isAt s.data.toList p 34 = true := (HIS.out 34 (by decide)).2 n34
    have hpl : p < s.size := by rw [← HLN.out]; exact (isAt_yes.1 hat).1
    have HE : Hid (wholeF WPr R s.data.toList fs p = match txJ s.data.toList (p + 1) with | none => none | some (t, q) => addF WPr (nodeC ⟨4, 0, txt t, [], []⟩) fs (skF s.data.toList q)) := by rw [Hid]; unfold wholeF; rw [if_neg (fun e => n46 ((HIS.out 46 (by decide)).1 e)), if_neg (fun e => n40 ((HIS.out 40 (by decide)).1 e)), if_neg (fun e => n91 ((HIS.out 91 (by decide)).1 e)), if_neg (fun e => n123 ((HIS.out 123 (by decide)).1 e)), if_pos hat]; rfl
    have HAT := hideB hat
    subst n34
    clear hat HIS
    go_enter Tryz.func76, Tryz.ntmps76
    go_wp2_with fail
    refine HPK.out.mono ?_
    rintro e w1 ⟨rfl, h1, b1⟩
    have HF1 := hideB h1
    have HB1 := hideB b1
    have HZ1 : Hid (∀ x, Z x → x < w1.heap.size) := fun x hx => Nat.lt_of_lt_of_le (HZ.out x hx) b1.size
    clear h1 b1
    have HTX := hideB (fText_at HF1.out (by omega) HAT.out)
    go_wp2_with fail
    refine HTX.out.mono ?_
    rintro e w5 ⟨b5, ⟨l, q, ht, rfl, h5⟩ | ⟨ht, rfl⟩⟩
    rotate_left
    · have HB5 := hideB (HB1.out.trans b5)
      have HT5 := hideB ht
      clear b5 ht
      unfold gup
      go_wp2_with fail
      exact ⟨rfl, FrOr.no (by rw [HE.out, HT5.out]) HB5.out⟩
    have HB5 := hideB (HB1.out.trans b5)
    have HT5 := hideB ht
    obtain ⟨T, hT⟩ : ∃ T, txt l = T := ⟨_, rfl⟩
    have HTT := hideB hT
    rw [hT]
    have HCC := hideB (addConst_any h5 (fun x hx => Nat.lt_of_lt_of_le (HZ1.out x hx) b5.size) (by omega) (by omega) 4 0 T)
    clear b5 ht h5 hT
    go_wp2_with fail
    refine HCC.out.mono ?_
    rintro e w2 ⟨b2, ⟨n2, fs2, q2, hr, rfl, h2⟩ | ⟨hr, rfl⟩⟩
    · have HB2 := hideB (HB5.out.trans b2)
      have HF2 := hideB h2
      have HR2 := hideB hr
      clear b2 h2 hr
      go_wp2_with fail
      go_ret
      exact ⟨HB2.out, .inl ⟨n2, fs2, q2, by rw [HE.out]; exact (by rw [HT5.out]; simp only; rw [HTT.out]; exact HR2.out), rfl, HF2.out⟩⟩
    · have HB2 := hideB (HB5.out.trans b2)
      have HR2 := hideB hr
      clear b2 hr
      unfold gup
      go_wp2_with fail
      exact ⟨rfl, FrOr.no (by rw [HE.out]; exact (by rw [HT5.out]; simp only; rw [HTT.out]; exact HR2.out)) HB2.out⟩
  have HNO : Hid (¬ isAt s.data.toList p 46 = true ∧ ¬ isAt s.data.toList p 40 = true ∧ ¬ isAt s.data.toList p 91 = true ∧ ¬ isAt s.data.toList p 123 = true ∧ ¬ isAt s.data.toList p 34 = true) := ⟨fun e => n46 ((HIS.out 46 (by decide)).1 e), fun e => n40 ((HIS.out 40 (by decide)).1 e), fun e => n91 ((HIS.out 91 (by decide)).1 e), fun e => n123 ((HIS.out 123 (by decide)).1 e), fun e => n34 ((HIS.out 34 (by decide)).1 e)⟩
  have z46 : ((c : Int) == 46) = false := by simp; omega
  have zz46 : ¬ (c : Int) = 46 := by omega
  have z40 : ((c : Int) == 40) = false := by simp; omega
  have zz40 : ¬ (c : Int) = 40 := by omega
  have z91 : ((c : Int) == 91) = false := by simp; omega
  have zz91 : ¬ (c : Int) = 91 := by omega
  have z123 : ((c : Int) == 123) = false := by simp; omega
  have zz123 : ¬ (c : Int) = 123 := by omega
  have z34 : ((c : Int) == 34) = false := by simp; omega
  have zz34 : ¬ (c : Int) = 34 := by omega
  have HDA : Hid (digAt s.data.toList p = digN c) := by rw [Hid, ← HC.out]; exact digAt_by _ _
  have HLA : Hid (letAt s.data.toList p = letN c) := by rw [Hid, ← HC.out]; exact letAt_by _ _
  by_cases n45 : c = 45
  · have HE : Hid (wholeF WPr R s.data.toList fs p = decF WPr s.data.toList p fun n q => addF WPr (nodeC ⟨3, n, ByteArray.empty, [], []⟩) fs q) := by
      rw [Hid]; unfold wholeF
      rw [if_neg HNO.out.1, if_neg HNO.out.2.1, if_neg HNO.out.2.2.1, if_neg HNO.out.2.2.2.1, if_neg HNO.out.2.2.2.2, if_neg (by rw [HLA.out, n45]; decide), if_pos (.inl ((HIS.out 45 (by decide)).2 n45))]
    subst n45
    clear HIS
    go_enter Tryz.func76, Tryz.ntmps76
    go_wp2_with fail
    refine HPK.out.mono ?_
    rintro e w1 ⟨rfl, h1, b1⟩
    have HF1 := hideB h1
    have HB1 := hideB b1
    have HZ1 : Hid (∀ x, Z x → x < w1.heap.size) := fun x hx => Nat.lt_of_lt_of_le (HZ.out x hx) b1.size
    clear h1 b1
    have HI := hideB (readInt_any HF1.out (by omega))
    go_wp2_with fail
    refine HI.out.mono ?_
    rintro e w5 ⟨b5, ⟨v, hd, rfl, h5⟩ | ⟨hd, rfl⟩⟩
    rotate_left
    · have HB5 := hideB (HB1.out.trans b5)
      have HD5 := hideB hd
      clear b5 hd
      unfold gup
      go_wp2_with fail
      exact ⟨rfl, FrOr.no (by rw [HE.out]; unfold decF; rw [show WPr.dec = decW from rfl, HD5.out]) HB5.out⟩
    have HB5 := hideB (HB1.out.trans b5)
    have HD5 := hideB hd
    have HCC := hideB (addConst_any h5 (fun x hx => Nat.lt_of_lt_of_le (HZ1.out x hx) b5.size) (by omega) (by omega) 3 v ByteArray.empty)
    clear b5 hd h5
    go_wp2_with fail
    refine HCC.out.mono ?_
    rintro e w2 ⟨b2, ⟨n2, fs2, q2, hr, rfl, h2⟩ | ⟨hr, rfl⟩⟩
    · have HB2 := hideB (HB5.out.trans b2)
      have HF2 := hideB h2
      have HR2 := hideB hr
      clear b2 h2 hr
      go_wp2_with fail
      go_ret
      exact ⟨HB2.out, .inl ⟨n2, fs2, q2, by rw [HE.out]; exact (by unfold decF; rw [show WPr.dec = decW from rfl, HD5.out]; simp only; rw [skF_idem] at HR2; exact HR2.out), rfl, HF2.out⟩⟩
    · have HB2 := hideB (HB5.out.trans b2)
      have HR2 := hideB hr
      clear b2 hr
      unfold gup
      go_wp2_with fail
      exact ⟨rfl, FrOr.no (by rw [HE.out]; exact (by unfold decF; rw [show WPr.dec = decW from rfl, HD5.out]; simp only; rw [skF_idem] at HR2; exact HR2.out)) HB2.out⟩
  have z45 : ((c : Int) == 45) = false := by simp; omega
  have zz45 : ¬ (c : Int) = 45 := by omega
  cases hd : digN c
  rotate_left
  · have HE : Hid (wholeF WPr R s.data.toList fs p = decF WPr s.data.toList p fun n q => addF WPr (nodeC ⟨3, n, ByteArray.empty, [], []⟩) fs q) := by
      rw [Hid]; unfold wholeF
      have hnl : letN c = false := by
        unfold digN at hd; unfold letN
        simp only [Bool.and_eq_true, decide_eq_true_eq] at hd
        rw [Bool.or_eq_false_iff, Bool.or_eq_false_iff, Bool.and_eq_false_iff, Bool.and_eq_false_iff]
        simp only [decide_eq_false_iff_not]
        omega
      rw [if_neg HNO.out.1, if_neg HNO.out.2.1, if_neg HNO.out.2.2.1, if_neg HNO.out.2.2.2.1, if_neg HNO.out.2.2.2.2, if_neg (by rw [HLA.out, hnl]; decide), if_pos (.inr (by rw [HDA.out]; exact hd))]
    have HDG := hideB (isDigit_any c)
    rw [hd] at HDG
    clear HIS hd
    go_enter Tryz.func76, Tryz.ntmps76
    go_wp2_with fail
    refine HPK.out.mono ?_
    rintro e w1 ⟨rfl, h1, b1⟩
    have HF1 := hideB h1
    have HB1 := hideB b1
    have HZ1 : Hid (∀ x, Z x → x < w1.heap.size) := fun x hx => Nat.lt_of_lt_of_le (HZ.out x hx) b1.size
    clear h1 b1
    go_wp2_with fail
    refine (HDG.out w1 hc256).mono ?_
    rintro e w4 ⟨rfl, rfl⟩
    have HI := hideB (readInt_any HF1.out (by omega))
    go_wp2_with fail
    refine HI.out.mono ?_
    rintro e w5 ⟨b5, ⟨v, hd, rfl, h5⟩ | ⟨hd, rfl⟩⟩
    rotate_left
    · have HB5 := hideB (HB1.out.trans b5)
      have HD5 := hideB hd
      clear b5 hd
      unfold gup
      go_wp2_with fail
      exact ⟨rfl, FrOr.no (by rw [HE.out]; unfold decF; rw [show WPr.dec = decW from rfl, HD5.out]) HB5.out⟩
    have HB5 := hideB (HB1.out.trans b5)
    have HD5 := hideB hd
    have HCC := hideB (addConst_any h5 (fun x hx => Nat.lt_of_lt_of_le (HZ1.out x hx) b5.size) (by omega) (by omega) 3 v ByteArray.empty)
    clear b5 hd h5
    go_wp2_with fail
    refine HCC.out.mono ?_
    rintro e w2 ⟨b2, ⟨n2, fs2, q2, hr, rfl, h2⟩ | ⟨hr, rfl⟩⟩
    · have HB2 := hideB (HB5.out.trans b2)
      have HF2 := hideB h2
      have HR2 := hideB hr
      clear b2 h2 hr
      go_wp2_with fail
      go_ret
      exact ⟨HB2.out, .inl ⟨n2, fs2, q2, by rw [HE.out]; exact (by unfold decF; rw [show WPr.dec = decW from rfl, HD5.out]; simp only; rw [skF_idem] at HR2; exact HR2.out), rfl, HF2.out⟩⟩
    · have HB2 := hideB (HB5.out.trans b2)
      have HR2 := hideB hr
      clear b2 hr
      unfold gup
      go_wp2_with fail
      exact ⟨rfl, FrOr.no (by rw [HE.out]; exact (by unfold decF; rw [show WPr.dec = decW from rfl, HD5.out]; simp only; rw [skF_idem] at HR2; exact HR2.out)) HB2.out⟩
  have HDG := hideB (isDigit_any c)
  rw [hd] at HDG
  have HE : Hid (wholeF WPr R s.data.toList fs p = namedF WPr R s.data.toList (nameF s.data.toList p) fs (skF s.data.toList (nmJ s.data.toList p))) := by
    rw [Hid]; unfold wholeF
    rw [if_neg HNO.out.1, if_neg HNO.out.2.1, if_neg HNO.out.2.2.1, if_neg HNO.out.2.2.2.1, if_neg HNO.out.2.2.2.2]
    cases hlt : letN c
    · rw [if_neg (by rw [HLA.out, hlt]; decide), if_neg (by rintro (e | e); exact n45 ((HIS.out 45 (by decide)).1 e); rw [HDA.out, hd] at e; cases e)]
      have hnm : nameF s.data.toList p = [] := by
        have h0 : nmJ s.data.toList p = p := runJ_no (fun e => by have h1 := e.2; rw [HC.out] at h1; unfold nmC at h1; rw [hlt, hd] at h1; cases h1)
        unfold nameF
        rw [h0, Nat.sub_self]; rfl
      rw [hnm]; rfl
    · rw [if_pos (by rw [HLA.out]; exact hlt)]
  clear HIS hd n46 n40 n91 n123 n34 n45
  go_enter Tryz.func76, Tryz.ntmps76
  go_wp2_with fail
  refine HPK.out.mono ?_
  rintro e w1 ⟨rfl, h1, b1⟩
  have HF1 := hideB h1
  have HB1 := hideB b1
  have HZ1 : Hid (∀ x, Z x → x < w1.heap.size) := fun x hx => Nat.lt_of_lt_of_le (HZ.out x hx) b1.size
  clear h1 b1
  go_wp2_with fail
  refine (HDG.out w1 hc256).mono ?_
  rintro e w4 ⟨rfl, rfl⟩
  have HCC := hideB (readFWord_any HHR.out HHG.out HF1.out HZ1.out hs hl hf)
  go_wp2_with fail
  refine HCC.out.mono ?_
  rintro e w2 ⟨b2, ⟨n2, fs2, q2, hr, rfl, h2⟩ | ⟨hr, rfl⟩⟩
  · have HB2 := hideB (HB1.out.trans b2)
    have HF2 := hideB h2
    have HR2 := hideB hr
    clear b2 h2 hr
    go_wp2_with fail
    go_ret
    exact ⟨HB2.out, .inl ⟨n2, fs2, q2, by rw [HE.out]; exact HR2.out, rfl, HF2.out⟩⟩
  · have HB2 := hideB (HB1.out.trans b2)
    have HR2 := hideB hr
    clear b2 hr
    unfold gup
    go_wp2_with fail
    exact ⟨rfl, FrOr.no (by rw [HE.out]; exact HR2.out) HB2.out⟩
end
end Go.Proofs.YtcidjhnogldgmaaGreatDoor

namespace Go.Proofs.YtcidjhnogldgmaaGreatDoor
open Go.RowKit
set_option linter.unusedSimpArgs false
set_option linter.unusedVariables false
set_option linter.unusedSectionVars false
theorem jointHere_any {rb mb base p : Nat} {Z : Nat → Prop} {s : ByteArray} {fs : List FN} {w : World} (h : FrAt w rb mb base Z s p fs) (hs : s.size ≤ 4000) :
    Calls Tryz.prog 77 #[.pointer (some ⟨rb, 0, none⟩)] w fun e w' => e = .returned (jhV (jntF s.data.toList p)) ∧ Below w.heap.size w w' := by
  by_cases hq : p + 1 < s.size
  · exact jointHere_two h hs hq
  · exact jointHere_one h hs hq
theorem ButF.box {rb base jb : Nat} {a b : World} {cs : Array Value} {T : TypeId} {z : Nat × Nat} (h : ButF rb base a b) (hx : a.heap[jb]? = some (.cells cs T z)) (hT : T ≠ 125) (hr : jb ≠ rb) : b.heap[jb]? = some (.cells cs T z) :=
  (h.block jb (ltHF hx) hr (fun _ ⟨cs', z', e⟩ => by rw [hx] at e; simp at e; exact hT e.2.1)).trans hx
section
variable {R : RD} {f rb mb base : Nat} {s : ByteArray} (HR : RdsF R f rb mb base s) (HG : GoesF s.data.toList R) (HW : WGood WPr s.data.toList)
include HR HG HW
set_option maxRecDepth 100000 in
set_option maxHeartbeats 12800000 in
theorem readF_any {least : Int} {p : Nat} {Z : Nat → Prop} {fs : List FN} {w : World} (h1 : 1 ≤ least) (h6 : least ≤ 6) (hZ : ∀ x, Z x → x < w.heap.size) (h : FrAt w rb mb base Z s p fs) (hs : s.size ≤ 1000) (hl : fs.length ≤ p) (hf : s.size ≤ p + f) :
    Calls Tryz.prog 57 #[.pointer (some ⟨rb, 0, none⟩), .int .i64 least] w (FrOr (bindF (wholeF WPr R s.data.toList fs p) fun n fs q => loopF R s.data.toList WPr (s.data.toList.length + 1) least 7 n fs q) rb mb base Z s w) := by
  obtain ⟨i1, hi1, hz1, hs1, hy1⟩ := info_parts infoI7
  have HLN := hideB (len_is s)
  have hps := h.le
  have hrbw : rb < w.heap.size := h.cells.2.2.2
  have hbw : base ≤ w.heap.size := h.box.sz
  have HWH := hideB (readWhole_any HR HG h hZ hs hl hf)
  have HZ : Hid (∀ x, Z x → x < w.heap.size) := hZ
  have HHR := hideB HR
  have HHG := hideB HG
  have HHW := hideB HW
  clear h hZ HR HG HW
  obtain ⟨r0, hr0⟩ : ∃ r0, (bindF (wholeF WPr R s.data.toList fs p) fun n fs q => loopF R s.data.toList WPr (s.data.toList.length + 1) least 7 n fs q) = r0 := ⟨_, rfl⟩
  have HR0 := hideB hr0
  rw [hr0]
  clear hr0
  go_enter Tryz.func57, Tryz.ntmps57
  go_wp2_with fail
  refine HWH.out.mono ?_
  rintro e w1 ⟨b1, ⟨n1, fs1, q1, hr, rfl, h1'⟩ | ⟨hr, rfl⟩⟩
  rotate_left
  · have HB1 := hideB b1
    have HR1 := hideB hr
    clear b1 hr
    unfold gup
    go_wp2_with fail
    exact ⟨rfl, FrOr.no (by rw [← HR0.out]; exact bindF_n HR1.out) HB1.out⟩
  have wt := whole_went HHG.out HHW.out (by rw [HLN.out]; exact hps) hr
  have wlt := wt.lt
  have wcn := wt.cnt
  have HF1 := hideB h1'
  have HB1 := hideB b1
  have HEQ1 : Hid (r0 = loopF R s.data.toList WPr (s.size + 1) least 7 n1 fs1 q1) := by rw [Hid, ← HR0.out, bindF_y hr, HLN.out]
  clear h1' b1 hr wt HR0 HWH
  go_wp2_with fail
  go_loopw [5, 6] (fun pv bv wr => ∃ (g y : Nat) (n bd : Int) (fs' : List FN), pv = .int .i64 n ∧ bv = .int .i64 bd ∧ FrAt wr rb mb base Z s y fs' ∧ ButF rb base w wr ∧ p < y ∧ fs'.length ≤ y ∧ s.size < y + g ∧ -100 ≤ bd ∧ bd ≤ 100 ∧ Hid (r0 = loopF R s.data.toList WPr g least bd n fs' y)) (fun _ _ wr => s.size + 1 - placeOf wr rb)
  case atStart => exact ⟨s.size + 1, q1, n1, 7, fs1, rfl, rfl, HF1.out, HB1.out, wlt, by omega, by omega, by omega, by omega, HEQ1.out⟩
  case round =>
    obtain ⟨g, y, n, bd, fs', rfl, rfl, hfr, hbt, hpy, hfl, hgy, hbd1, hbd2, HEQ⟩ := hrel
    have hys := hfr.le
    obtain ⟨g, rfl⟩ : ∃ g', g = g' + 1 := ⟨g - 1, by omega⟩
    have HS := hideB hfr
    have HBT := hideB hbt
    have HJH := hideB (jointHere_any hfr (by omega))
    clear hfr hbt
    cases hj : jntF s.data.toList y with
    | none =>
      rw [hj] at HJH
      have HE : Hid (r0 = some (n, fs', y)) := by rw [Hid, HEQ.out, loopF, hj]
      unfold jhV at HJH
      simp only at HJH
      clear hj
      go_wp2_with fail
      refine HJH.out.mono ?_
      rintro e w2 ⟨rfl, b2⟩
      have HF2 := hideB (HS.out.below b2)
      have hba : Below w2.heap.size w2 (w2.alloc (.cells #[.int .i64 0, .string ⟨#[]⟩, .int .i64 0, .int .i64 0, .int .i64 0] 116)) := (Below.refl _ _).alloc (Nat.le_refl _) _
      have HF3 := hideB (HF2.out.below hba)
      have HB3 := hideB ((HBT.out.trans (ButF.of_below b2)).trans (ButF.of_below hba))
      clear b2 hba
      go_wp2_with fail
      go_ret
      exact ⟨HB3.out, .inl ⟨n, fs', y, HE.out, rfl, HF3.out⟩⟩
    | some kl =>
      obtain ⟨k, len⟩ := kl
      obtain ⟨j1, j2, j3, j4⟩ := jnt_says hj
      rw [HLN.out] at j2
      rw [hj] at HJH
      have HKS : Hid (k = 6 ∨ k = 7 ∨ k = 21 ∨ k = 17 ∨ k = 18 ∨ k = 20 ∨ k = 19 ∨ k = 15 ∨ k = 16 ∨ k = 23) := jnt_kinds hj
      have HE : Hid (r0 = if levF k < least then some (n, fs', y) else if bd < lftJ k then none else bindF (eatF R s.data.toList WPr k len n fs' y) fun n fs q => loopF R s.data.toList WPr g least (levF k) n fs q) := by rw [Hid, HEQ.out, loopF, hj]; rfl
      unfold jhV at HJH
      simp only at HJH
      have hlen0 : ((len : Int) == 0) = false := by simp; omega
      have hlen1 : ¬ (len : Int) = 0 := by omega
      have hrr : (k = 23 ∧ rgtJ k = 0) ∨ (k ≠ 23 ∧ 1 ≤ rgtJ k ∧ rgtJ k ≤ 6 ∧ rgtJ k = rgtF k) := by
        rcases HKS.out with rfl | rfl | rfl | rfl | rfl | rfl | rfl | rfl | rfl | rfl <;> first | (exact .inl ⟨rfl, rfl⟩) | (exact .inr ⟨by decide, by decide, by decide, rfl⟩)
      obtain ⟨lv, hlv⟩ : ∃ l, levF k = l := ⟨_, rfl⟩
      obtain ⟨lf, hlf⟩ : ∃ l, lftJ k = l := ⟨_, rfl⟩
      obtain ⟨rg, hrg⟩ : ∃ l, rgtJ k = l := ⟨_, rfl⟩
      obtain ⟨tx, htx⟩ : ∃ t, txt (sgnJ k) = t := ⟨_, rfl⟩
      rw [hlv, hlf, hrg, htx] at HJH
      rw [hlv, hlf] at HE
      rw [hlv] at j3 j4
      rw [hrg] at hrr
      have HRR := hideB hrr
      clear hj hlv hlf hrg htx hrr
      go_wp2_with fail
      refine HJH.out.mono ?_
      rintro e w2 ⟨rfl, b2⟩
      obtain ⟨W3, hW3⟩ : ∃ W3, w2.alloc (.cells #[.int .i64 k, .string tx, .int .i64 lv, .int .i64 lf, .int .i64 rg] 116) = W3 := ⟨_, rfl⟩
      have hba : Below w2.heap.size w2 W3 := by rw [← hW3]; exact (Below.refl _ _).alloc (Nat.le_refl _) _
      have hx3 : W3.heap[w2.heap.size]? = some (.cells #[.int .i64 k, .string tx, .int .i64 lv, .int .i64 lf, .int .i64 rg] 116 (0, 0)) := by rw [← hW3]; exact heap_alloc_new w2 _
      have HF3 := hideB ((HS.out.below b2).below hba)
      have HB3 := hideB ((HBT.out.trans (ButF.of_below b2)).trans (ButF.of_below hba))
      have HX3 := hideB hx3
      have HW3 := hideB hW3
      have hne : w2.heap.size ≠ rb := by have := (HS.out.below b2).cells.2.2.2; omega
      have HNE := hideB hne
      have x0 := cellAt hx3 (i := 0) rfl
      have x2 := cellAt hx3 (i := 2) rfl
      have x3 := cellAt hx3 (i := 3) rfl
      have x4 := cellAt hx3 (i := 4) rfl
      have hzz := HB3.out.size
      clear b2 hba hx3 hW3 hne
      by_cases hlow : lv < least
      · have HE2 : Hid (r0 = some (n, fs', y)) := by rw [Hid, HE.out, if_pos hlow]
        go_wp2_with fail
        (try rw [HW3.out])
        go_ret
        exact ⟨HB3.out, .inl ⟨n, fs', y, HE2.out, rfl, HF3.out⟩⟩
      by_cases hbl : bd < lf
      · have HE2 : Hid (r0 = none) := by rw [Hid, HE.out, if_neg hlow, if_pos hbl]
        go_wp2_with fail
        (try rw [HW3.out])
        exact ⟨rfl, FrOr.no HE2.out HB3.out⟩
      have HE2 : Hid (r0 = bindF (eatF R s.data.toList WPr k len n fs' y) fun n fs q => loopF R s.data.toList WPr g least lv n fs q) := by rw [Hid, HE.out, if_neg hlow, if_neg hbl]
      clear HE
      have hZ3 : ∀ x, Z x → x < W3.heap.size := fun x hx => by have := HZ.out x hx; omega
      have HZ3 := hideB hZ3
      have e1 : ((y + len : Nat) : Int) = (y : Int) + (len : Int) := by omega
      obtain ⟨c0, c1, f1, lt0⟩ := HF3.out.cells
      have h4 := HF3.out.to (q := y + len) j2
      rw [e1] at h4
      obtain ⟨W4, hW4⟩ : ∃ W4, W3.setCell ⟨rb, 1, none⟩ (.int .i64 ((y : Int) + (len : Int))) = W4 := ⟨_, rfl⟩
      rw [hW4] at h4
      have hb4 : ButF rb base W3 W4 := by rw [← hW4]; exact ButF.of_set _ _
      have HX4 := hideB (hb4.box HX3.out (by decide) HNE.out)
      have HB4 := hideB (HB3.out.trans hb4)
      have z4 := hb4.size
      have HSK := hideB (fSkip_any h4 (by omega))
      obtain ⟨y2, hy2⟩ : ∃ y2, skF s.data.toList (y + len) = y2 := ⟨_, rfl⟩
      have hyy : y + len ≤ y2 := by rw [← hy2]; exact skF_ge _ _
      have HY2 := hideB hy2
      rw [hy2] at HSK
      have HW4 := hideB hW4
      clear h4 hb4 hZ3 e1 hy2 hW4
      go_upto_region 4 with fail
      rw [HW3.out]
      go_upto_region 9 with fail
      rw [HW4.out]
      clear x0 x2 x3 x4 c0 c1 f1 lt0
      go_upto_region 10 with (go_at_call 56; refine HSK.out.mono ?_; rintro e w5 ⟨rfl, h5, b5⟩)
      have HF5 := hideB h5
      have HB5 := hideB (HB4.out.trans b5)
      have hx5 := b5.box HX4.out (by decide) HNE.out
      have z5 := b5.size
      have hj5 := ltHF hx5
      have HZ5 : Hid (∀ x, Z x → x < w5.heap.size) := fun x hx => by have := HZ3.out x hx; omega
      obtain ⟨W6, hW6⟩ : ∃ W6, w5.alloc (.cells #[.int .i64 n] 2) = W6 := ⟨_, rfl⟩
      have hba : Below w5.heap.size w5 W6 := by rw [← hW6]; exact (Below.refl _ _).alloc (Nat.le_refl _) _
      have hx6 : W6.heap[w2.heap.size]? = _ := (hba.block _ (ltHF hx5)).trans hx5
      have HX6 := hideB hx6
      have x0 := cellAt hx6 (i := 0) rfl
      have x2 := cellAt hx6 (i := 2) rfl
      have x4 := cellAt hx6 (i := 4) rfl
      have hy2s := h5.le
      clear h5 b5 hx5 hx6
      rcases HRR.out with ⟨rfl, rfl⟩ | ⟨hk23, hr1, hr6, hrF⟩
      · have HA := hideB (addR_any HF5.out HZ5.out (by omega) 23 [n] (by simp))
        have HA2 : Hid (Calls Tryz.prog 78 #[.pointer (some ⟨rb, 0, none⟩), .agg #[.int .i64 23, .string ByteArray.empty, .int .i64 0, .slice none 0 0, .slice none 0 0, .slice none 0 0], .slice (some ⟨w5.heap.size, 0, none⟩) 1 1] W6 fun e w' => e = .returned (.int .i64 (fs'.length : Int)) ∧ FrAt w' rb mb base Z s y2 (fs' ++ [nodeR 23 [n]]) ∧ ButF rb base w5 w') := by rw [Hid, ← hW6]; exact HA.out
        have HEA : Hid (r0 = loopF R s.data.toList WPr g least lv (fs'.length : Int) (fs' ++ [nodeR 23 [n]]) y2) := by rw [Hid, HE2.out]; unfold eatF; rw [if_pos rfl, HY2.out, addF_P]; rfl
        have HW6 := hideB hW6
        clear hW6 hba HA
        go_upto_region 11 with fail
        rw [HW6.out]
        go_wp2_with fail
        refine HA2.out.mono ?_
        rintro e w7 ⟨rfl, h7, b7⟩
        have HF7 := hideB h7
        have HB7 := hideB (HB5.out.trans b7)
        have hx7 : w7.heap[w2.heap.size]? = some (.cells #[.int .i64 23, .string tx, .int .i64 lv, .int .i64 lf, .int .i64 0] 116 (0, 0)) := b7.box (by have h0 := HX6.out; rw [← HW6.out] at h0; rw [← h0]; exact (heap_alloc_old w5 _ hj5).symm) (by decide) HNE.out
        clear x0 x2 x4
        have x2 := cellAt hx7 (i := 2) rfl
        clear h7 b7 hx7
        go_wp2_with fail
        go_roundw
        case rel => exact ⟨g, y2, _, lv, _, rfl, rfl, HF7.out, HB7.out, by omega, by rw [List.length_append, List.length_singleton]; omega, by omega, by omega, by omega, HEA.out⟩
        case measure => rw [HS.out.place, HF7.out.place]; omega
      · have hlit := lit_ints w5 w5.heap.size [n] (Nat.le_refl _) (by simp)
        have hlit6 : W6.ownsRow w5.heap.size 2 1 (.slice (some ⟨w5.heap.size, 0, none⟩) 1 1) 1 [.int .i64 n] := by rw [← hW6]; exact hlit
        have HL6 := hideB hlit6
        have HF6 : Hid (FrAt W6 rb mb base (fun x => Z x ∨ x = w5.heap.size) s y2 fs') := HF5.out.fresh hba (fun x hx => by rcases hx with hx | hx; exact .inl hx; exact .inr (.inl (by omega)))
        have HB6 := hideB (HB5.out.trans (ButF.of_below hba))
        have z6 := hba.size
        have hl6 : w5.heap.size < W6.heap.size := by rw [← hW6]; simp
        have HRD := hideB (HHR.out rg (fun x => Z x ∨ x = w5.heap.size) fs' y2 W6 hr1 hr6 (fun x hx => by rcases hx with hx | hx; have := HZ5.out x hx; omega; omega) HF6.out (by omega) (by omega))
        have hrpos : (0 : Int) < rg := by omega
        have HW6 := hideB hW6
        have hbw5 : base ≤ w5.heap.size := HF5.out.box.sz
        have HRF := hideB hrF
        clear hW6 hba hlit hlit6 hrF
        go_upto_region 11 with fail
        rw [HW6.out]
        go_wp2_with fail
        refine HRD.out.mono ?_
        rintro e w7 ⟨b7, ⟨n2, fs2, q2, hr, rfl, h7⟩ | ⟨hr, rfl⟩⟩
        rotate_left
        · have HB7 := hideB (HB6.out.trans b7)
          have HR7 := hideB hr
          clear b7 hr
          unfold gup
          go_wp2_with fail
          exact ⟨rfl, FrOr.no (by rw [HE2.out]; refine bindF_n ?_; unfold eatF; rw [if_neg hk23, HY2.out, ← HRF.out]; exact bindF_n HR7.out) HB7.out⟩
        have wt := HHG.out _ _ _ _ _ _ (by rw [HLN.out]; exact hy2s) hr
        have w7lt := wt.lt
        have w7cn := wt.cnt
        have w7le := wt.le
        rw [HLN.out] at w7le
        have HR7 := hideB hr
        have HB7 := hideB (HB6.out.trans b7)
        have HF7 := hideB h7
        have HL7 := hideB (b7.own HL6.out (by decide) (by omega))
        have hx7 := b7.box HX6.out (by decide) HNE.out
        have HX7 := hideB hx7
        have z7 := b7.size
        clear x0 x2 x4 h7 b7 hr wt hx7
        go_wp2_with (at_builtin; refine wpList_append_own_at _ rfl _ _ 30 rfl w5.heap.size 2 i1 (.int .i64 0) 1 8 Tryz.underlying30 hi1 hz1 hs1 hy1 rfl (by decide) _ _ _ rfl (HL7.out.alloc _) ⟨w7.heap.size, 0, none⟩ 1 1 [.int .i64 n2] rfl rfl ?d1 ?d2 ?d3 ?d4 ?d5 ?_)
        case d1 => exact cell_one_new _ _ _
        case d2 => intro u hu; simp at hu; subst hu; rfl
        case d3 => unfold maxLen; omega
        case d4 => omega
        case d5 => simp; omega
        intro v8 w8 hown hgrow _ hat
        have hga := (World.grownBy_alloc w7 (.cells #[.int .i64 n2] 2) (Value.slice (some ⟨w5.heap.size, 0, none⟩) 1 1).ownBlock).trans hgrow
        have HF8 := hideB (HF7.out.grown HL7.out (by decide) hbw5 (fun x hx => by simp [Value.ownBlock] at hx; exact .inl (.inr hx.symm)) hga)
        have HB8 := hideB (HB7.out.grownN hga (fun x hx => by simp [Value.ownBlock] at hx; have := HB5.out.size; omega))
        have HK8 : Hid (w8.ownsRow w5.heap.size 2 1 v8 [n, n2].length ([n, n2].map (.int .i64))) := hown
        have HVB : Hid (∀ x, v8.ownBlock = some x → (x = w5.heap.size ∨ w7.heap.size ≤ x)) := fun x hx => by
          rcases hat with e | e
          · rw [e] at hx; simp [Value.ownBlock] at hx; exact .inl hx.symm
          · rw [e] at hx; simp at hx; exact .inr (by omega)
        have hx8 : w8.heap[w2.heap.size]? = some (.cells #[.int .i64 k, .string tx, .int .i64 lv, .int .i64 lf, .int .i64 rg] 116 (0, 0)) := (hga.block _ (ltHF HX7.out) (fun e => by
          have e2 : w2.heap.size = w5.heap.size := by simpa [Value.ownBlock] using e
          omega)).trans HX7.out
        have HX8 := hideB hx8
        have x0 := cellAt hx8 (i := 0) rfl
        have x2 := cellAt hx8 (i := 2) rfl
        obtain ⟨a8, c8, ev⟩ := own_sl hown
        subst ev
        have HA := hideB (frAdd_any (Z' := Z) (x := nodeR k [n, n2]) (kc := .slice none 0 0) (kn := .slice none 0 0) (ki := .slice a8 2 c8) (k0 := .slice none 0 0) HF8.out (nestNil _ _) (World.ownsRow_nil _ _ _ _) (ownB HK8.out hbw5) (fun x hx => by
          rcases hx with hx | hx | hx
          · cases hx
          · cases hx
          · rcases HVB.out x hx with e | e
            · exact .inl (.inr e)
            · exact .inr e) (fun x hx => ⟨.inl (.inl hx), fun e => by
          have h0 := HZ5.out x hx
          rcases e with e | e | e
          · cases e
          · cases e
          · rcases HVB.out x e with e | e <;> omega⟩) (by omega))
        have HEA : Hid (r0 = loopF R s.data.toList WPr g least lv (fs2.length : Int) (fs2 ++ [nodeR k [n, n2]]) q2) := by
          rw [Hid, HE2.out]
          refine bindF_y (n := (fs2.length : Int)) (fs := fs2 ++ [nodeR k [n, n2]]) (q := q2) ?_
          unfold eatF
          rw [if_neg hk23, HY2.out, ← HRF.out, bindF_y HR7.out, addF_P]
        clear hown hgrow hat hga hx8
        go_wp2_with fail
        refine HA.out.mono ?_
        rintro e w9 ⟨rfl, h9, b9⟩
        have HF9 := hideB h9
        have HB9 := hideB (HB8.out.trans b9)
        have hx9 := b9.box HX8.out (by decide) HNE.out
        clear x0 x2
        have x2 := cellAt hx9 (i := 2) rfl
        clear h9 b9 hx9
        go_wp2_with fail
        go_roundw
        case rel => exact ⟨g, q2, _, lv, _, rfl, rfl, HF9.out, HB9.out, by omega, by rw [List.length_append, List.length_singleton]; omega, by omega, by omega, by omega, HEA.out⟩
        case measure => rw [HS.out.place, HF9.out.place]; omega
end
theorem readF_all {rb mb base : Nat} {s : ByteArray} (hs : s.size ≤ 1000) (HW : WGood WPr s.data.toList) : ∀ f, RdsF (readP WPr s.data.toList f) f rb mb base s := by
  intro f
  induction f with
  | zero =>
    intro least Z fs p w _ _ _ h _ hf
    have := h.le
    omega
  | succ f ih =>
    intro least Z fs p w h1 h6 hZ h hl hf
    rw [readP]
    exact readF_any ih (readP_goes HW f) HW h1 h6 hZ h hs hl (by omega)
end Go.Proofs.YtcidjhnogldgmaaGreatDoor

namespace Go.Proofs.YtcidjhnogldgmaaGreatDoor
open Go.RowKit
set_option linter.unusedSimpArgs false
set_option linter.unusedVariables false
theorem FNest.nodes {base : Nat} {w : World} {v : Value} {fs : List FN} {C N I : Nat → Value} (h : FNest base w v fs C N I) (hn : fs.length ≤ 1048576) (hf : AllF fs) : FNodesAt w.heap.size w v fs := by
  have fit : ∀ i, i < fs.length → FitF (fnAt fs i) := fun i hi => hf _ (by unfold fnAt; rw [List.getD_eq_getElem?_getD, List.getElem?_eq_getElem hi]; exact List.getElem_mem hi)
  refine ⟨hn, ?_⟩
  rcases Nat.eq_zero_or_pos fs.length with e | e
  · rcases h.row.2 with ⟨rfl, _⟩ | ⟨g, cap, cur, rfl, _⟩
    · exact ⟨none, 0, by rw [e], fun hp => by omega⟩
    · exact ⟨_, cap, rfl, fun hp => by omega⟩
  · obtain ⟨g, cap, rfl, _, hlt⟩ := h.row.form e
    refine ⟨_, cap, rfl, fun _ => ⟨g, 0, rfl, hlt, fun i hi => ⟨C i, N i, I i, ?_⟩⟩⟩
    have f := fit i hi
    have q : ∀ k, k < 6 → (i * 6 + k) % 6 = k ∧ (i * 6 + k) / 6 = i := fun k hk => by omega
    have q0 := q 0 (by omega)
    rw [Nat.add_zero] at q0
    rw [Nat.zero_add]
    have hcst : NodesAt w.heap.size w (C i) (fnAt fs i).cst := (h.rc i hi).nodes (by have := f.cst.1; omega) (fun j hj => by
      have hm : nodeAt (fnAt fs i).cst j ∈ (fnAt fs i).cst := by unfold nodeAt; rw [List.getD_eq_getElem?_getD, List.getElem?_eq_getElem hj]; exact List.getElem_mem hj
      obtain ⟨a1, a2, a3, a4, a5, a6, a7⟩ := f.cst.2 _ hm
      exact ⟨by rw [a1]; simp, fun x hx => by rw [a1] at hx; simp at hx, by rw [a2]; simp, fun x hx => by rw [a2] at hx; simp at hx, by omega, by omega, by omega, a6, a7⟩)
    have hstr : StrsAt w.heap.size w (N i) (fnAt fs i).names := own_strs (h.rn i hi) (by have := f.names.1; omega) (fun j hj => by
      have hm : keyAt (fnAt fs i).names j ∈ (fnAt fs i).names := by unfold keyAt; rw [List.getD_eq_getElem?_getD, List.getElem?_eq_getElem hj]; exact List.getElem_mem hj
      have := f.names.2 _ hm; omega)
    have hint : IntsAt w.heap.size w (I i) (fnAt fs i).kids := own_ints (h.ri i hi) (by have := f.kids.1; omega) (fun j hj => by
      have hm : intAt (fnAt fs i).kids j ∈ (fnAt fs i).kids := by unfold intAt; rw [List.getD_eq_getElem?_getD, List.getElem?_eq_getElem hj]; exact List.getElem_mem hj
      have := f.kids.2 _ hm; omega)
    refine ⟨?_, ?_, ?_, ?_, ?_, ?_, ⟨hcst, hstr, hint, by have := f.name; omega, by have := f.kind; omega, by have := f.kind; omega, f.place.1, f.place.2⟩⟩
    · rw [h.row.cellAt _ (by omega), fCells_get _ _ _ _ (by omega), fCell, q0.1, q0.2]; rfl
    · rw [h.row.cellAt _ (by omega), fCells_get _ _ _ _ (by omega), fCell, (q 1 (by omega)).1, (q 1 (by omega)).2]; rfl
    · rw [h.row.cellAt _ (by omega), fCells_get _ _ _ _ (by omega), fCell, (q 2 (by omega)).1, (q 2 (by omega)).2]; rfl
    · rw [h.row.cellAt _ (by omega), fCells_get _ _ _ _ (by omega), fCell, (q 3 (by omega)).1, (q 3 (by omega)).2]; rfl
    · rw [h.row.cellAt _ (by omega), fCells_get _ _ _ _ (by omega), fCell, (q 4 (by omega)).1, (q 4 (by omega)).2]; rfl
    · rw [h.row.cellAt _ (by omega), fCells_get _ _ _ _ (by omega), fCell, (q 5 (by omega)).1, (q 5 (by omega)).2]; rfl
def rdA (L : List UInt8) : Option (List FN) := match readP WPr L (L.length + 1) 1 [] (skF L 0) with
  | none => none
  | some (_, fs, q) => if q = L.length then some fs else none
set_option maxRecDepth 100000 in
set_option maxHeartbeats 3200000 in
theorem readAll_any {rb mb base : Nat} {Z : Nat → Prop} {s : ByteArray} {w : World} (h : FrAt w rb mb base Z s 0 []) (hZ : ∀ x, Z x → x < w.heap.size) (hs : s.size ≤ 1000) :
    Calls Tryz.prog 37 #[.pointer (some ⟨rb, 0, none⟩)] w fun e w' => ButF rb base w w' ∧ ((∃ v fs, rdA s.data.toList = some fs ∧ e = .returned v ∧ FRow base Z w' v fs ∧ AllF fs ∧ fs.length ≤ 1000) ∨ (rdA s.data.toList = none ∧ e = gup)) := by
  have HLN := hideB (len_is s)
  have HSK := hideB (fSkip_any h (by omega))
  have HZ : Hid (∀ x, Z x → x < w.heap.size) := hZ
  clear h hZ
  go_enter Tryz.func37, Tryz.ntmps37
  go_wp2_with fail
  refine HSK.out.mono ?_
  rintro e w1 ⟨rfl, h1, b1⟩
  have HB1 := hideB b1
  have HRD := hideB (readF_all (rb := rb) (mb := mb) (base := base) hs (goodP s.data.toList) (s.size + 1) 1 Z [] _ w1 (by decide) (by decide) (fun x hx => Nat.lt_of_lt_of_le (HZ.out x hx) b1.size) h1 (by simp) (by omega))
  clear h1 b1
  go_wp2_with fail
  refine HRD.out.mono ?_
  rintro e w2 ⟨b2, ⟨n, fs, q, hr, rfl, h2⟩ | ⟨hr, rfl⟩⟩
  rotate_left
  · have HB2 := hideB (HB1.out.trans b2)
    have HR2 := hideB hr
    clear b2 hr
    unfold gup
    go_wp2_with fail
    exact ⟨rfl, HB2.out, .inr ⟨by unfold rdA; rw [HLN.out, HR2.out], rfl⟩⟩
  have HB2 := hideB (HB1.out.trans b2)
  have HR2 := hideB hr
  have hsk0 : skF s.data.toList 0 ≤ s.data.toList.length := skF_le (by omega)
  have wt := readP_goes (goodP s.data.toList) _ _ _ _ _ _ _ hsk0 hr
  have HALL := hideB (fit_readP (goodP s.data.toList) (wfitP s.data.toList) (by rw [HLN.out]; omega) _ _ _ _ allF_nil (by simp) hsk0 _ _ _ hr)
  have hcn := wt.cnt
  have hle := wt.le
  rw [HLN.out] at hle
  have hfl : fs.length ≤ 1000 := by simp at hcn; omega
  obtain ⟨c0, c1, f1, lt0⟩ := h2.cells
  obtain ⟨v, hsf, hrow⟩ := h2.ex
  have c4 : w2.cell? ⟨rb, 4, none⟩ = some v := hsf.bl 4 (by decide)
  have HROW := hideB hrow
  have HSF := hideB hsf
  obtain ⟨av, cv, ev⟩ := hrow.slice
  obtain ⟨lv, hlv⟩ : ∃ l, fs.length = l := ⟨_, rfl⟩
  rw [hlv] at ev
  subst ev
  clear b2 hr wt h2 hsf hrow hlv hsk0
  by_cases hq : q < s.size
  · have hq' : (q : Int) < (s.size : Int) := by omega
    have hqd : decide ((q : Int) < (s.size : Int)) = true := by simpa using hq'
    have HN : Hid (rdA s.data.toList = none) := by rw [Hid]; unfold rdA; rw [HLN.out, HR2.out]; simp only; rw [if_neg (by omega)]
    go_wp2_with fail
    go_quiet (fail)
    have HD := hideB (below_drewB (w := w2) nq)
    generalize w2.drewN nq = W3 at HD ⊢
    go_wp2_with fail
    exact ⟨rfl, HB2.out.trans (ButF.of_below HD.out), .inr ⟨HN.out, rfl⟩⟩
  · have hq' : ¬ (q : Int) < (s.size : Int) := by omega
    have hqd : decide ((q : Int) < (s.size : Int)) = false := by simpa using hq'
    have HN : Hid (rdA s.data.toList = some fs) := by rw [Hid]; unfold rdA; rw [HLN.out, HR2.out]; simp only; rw [if_pos (by omega)]
    go_wp2_with fail
    go_quiet (fail)
    have HD := hideB (below_drewB (w := w2) nq)
    have HROW3 := hideB (HROW.out.below HD.out)
    have HSF3 := hideB (HSF.out.below HD.out)
    have c43 := HSF3.out.bl 4 (by decide)
    generalize w2.drewN nq = W3 at HD HROW3 HSF3 c43 ⊢
    have c44 : W3.cell? ⟨rb, 4, none⟩ = some (.slice av lv cv) := c43
    clear c43 c0 c1 f1 c4
    go_wp2_with fail
    go_ret
    exact ⟨HB2.out.trans (ButF.of_below HD.out), .inl ⟨_, fs, HN.out, rfl, HROW3.out, HALL.out, by omega⟩⟩
end Go.Proofs.YtcidjhnogldgmaaGreatDoor

namespace Go.Proofs.YtcidjhnogldgmaaGreatDoor
open Go.RowKit
set_option linter.unusedSimpArgs false
set_option linter.unusedVariables false
def fltF (L : List UInt8) : Option (List FN) := if 1000 < L.length then none else match rdA L with
  | none => none
  | some fs => if okF fs = true then some fs else none
structure TabsR (B : Nat) (w : World) : Prop where
  tb : Tabs B w
  jt : JtB B w
  sp : SpB B w
theorem TabsR.next {B : Nat} {w w' : World} (h : TabsR B w) (hb : Below B w w') : TabsR B w' := ⟨h.tb.next hb, h.jt.next hb, h.sp.next hb⟩
theorem TabsR.wide {B C : Nat} {w : World} (h : TabsR B w) (hBC : B ≤ C) : TabsR C w := ⟨h.tb.wide hBC, fun w2 h2 => h.jt w2 (h2.mono hBC), fun w2 h2 => h.sp w2 (h2.mono hBC)⟩
def RdFlt (L : List UInt8) (w : World) (e : Ending) (w' : World) : Prop := Below w.heap.size w w' ∧ ((∃ v fs, fltF L = some fs ∧ e = .returned (.tuple #[v, .bool true]) ∧ FRow w.heap.size (fun _ => False) w' v fs ∧ AllF fs) ∨ (fltF L = none ∧ e = .returned (.tuple #[.slice none 0 0, .bool false])))
set_option maxRecDepth 100000 in
set_option maxHeartbeats 1600000 in
theorem fSign_any (s b : ByteArray) (w : World) : Calls Tryz.prog 34 #[.string s, .string b] w fun e w' => e = .returned (.agg #[.string s, .int .i64 0, .string b]) ∧ Below w.heap.size w w' := by
  go_enter Tryz.func34, Tryz.ntmps34
  go_wp2_with fail
  refine bodyPost_ret (v := .agg #[.string s, .int .i64 0, .string b]) (by simp [results, Tryz.results34, go_sem]) rfl ?_
  exact ⟨rfl, (Below.refl _ _).alloc (Nat.le_refl _) _⟩
theorem call_all (x : Value) : ∀ w, (callFunc 37 #[x]).run Tryz.prog w = .ok (.enter 37 #[x]) w := fun w => by kernel_rfl
theorem frow_set {base b0 : Nat} {Z : Nat → Prop} {w : World} {v : Value} {fs : List FN} {cs : Array Value} {T : TypeId} {z : Nat × Nat} (h : FRow base Z w v fs) (hx : w.heap[b0]? = some (.cells cs T z)) (hT : 125 ≠ T) (hZ : Z b0) (o : Nat) (u : Value) : FRow base Z (w.setCell ⟨b0, o, none⟩ u) v fs := by
  obtain ⟨C, N, I, hN, hS⟩ := h
  refine ⟨C, N, I, hN.keep (fun x hx' => Below.heap_setCell _ _ _ _ (fun e => ?_)) (fun x hx' => Below.heap_setCell _ _ _ _ (fun e => ?_)), hS⟩
  · have e' : x = b0 := e
    rw [e'] at hx'
    rcases hN.row.2 with ⟨e2, _⟩ | ⟨g, cap, cur, e2, _, hg, _⟩
    · rw [e2] at hx'; cases hx'
    · rw [e2] at hx'
      have eg : g = b0 := by simpa [Value.ownBlock] using hx'
      rw [eg, hx] at hg
      simp at hg
      exact hT hg.2.1.symm
  · have e' : x = b0 := e
    rw [e'] at hx'
    exact hS b0 hx' hZ
theorem frow_base {base base' : Nat} {Z Z' : Nat → Prop} {w : World} {v : Value} {fs : List FN} (h : FRow base Z w v fs) (hb : base' ≤ base) (hz : ∀ x, Z' x → Z x) : FRow base' Z' w v fs := by
  obtain ⟨C, N, I, hN, hS⟩ := h
  exact ⟨C, N, I, ⟨ownB hN.row hb, fun i hi => nestB (hN.rc i hi) hb, fun i hi => ownB (hN.rn i hi) hb, fun i hi => ownB (hN.ri i hi) hb, hN.dc, hN.dn, hN.di⟩, fun x hx hz' => hS x hx (hz x hz')⟩
set_option maxRecDepth 100000 in
set_option maxHeartbeats 6400000 in
theorem implReadFilter_any {s : ByteArray} {w : World} (ht : TabsR w.heap.size w) (hs : s.size ≤ 1048576) :
    Calls Tryz.prog 19 #[.string s] w (RdFlt s.data.toList w) := by
  have HLN := hideB (len_is s)
  have HT := hideB ht
  clear ht
  by_cases hbig : 1000 < s.size
  · have hbig' : (1000 : Int) < (s.size : Int) := by omega
    have HN : Hid (fltF s.data.toList = none) := by rw [Hid]; unfold fltF; rw [if_pos (by rw [HLN.out]; exact hbig)]
    go_enter Tryz.func19, Tryz.ntmps19
    go_wp2_with fail
    go_returns
    exact ⟨Below.refl _ _, .inr ⟨HN.out, rfl⟩⟩
  have hbig' : ¬ (1000 : Int) < (s.size : Int) := by omega
  have HFL : Hid (fltF s.data.toList = match rdA s.data.toList with | none => none | some fs => if okF fs = true then some fs else none) := by rw [Hid]; unfold fltF; rw [if_neg (by rw [HLN.out]; exact hbig)]
  have HNS := hideB (fSign_any s ⟨#[10, 32]⟩ w)
  go_enter Tryz.func19, Tryz.ntmps19
  go_wp2_with fail
  refine HNS.out.mono ?_
  rintro e w1 ⟨rfl, b1⟩
  have HB1 := hideB b1
  have z1 := b1.size
  have HJS := hideB (jointSigns_any w1 (((HT.out.next b1).wide b1.size).jt) (((HT.out.next b1).wide b1.size).sp))
  clear b1
  go_wp2_with fail
  refine HJS.out.mono ?_
  rintro e w2 ⟨rfl, hmp, b2⟩
  have HB2 := hideB (HB1.out.trans (b2.mono z1))
  have HMP := hideB hmp
  have z2 := b2.size
  have hmlt : w1.heap.size < w2.heap.size := ltHF hmp
  obtain ⟨W3, hW3⟩ : ∃ W3, w2.alloc (.cells #[.string s, .int .i64 0, .string ⟨#[10, 32]⟩, .map (some w1.heap.size), .slice none 0 0] 86) = W3 := ⟨_, rfl⟩
  have hb3 : Below w2.heap.size w2 W3 := by rw [← hW3]; exact (Below.refl _ _).alloc (Nat.le_refl _) _
  have hx3 : W3.heap[w2.heap.size]? = some (.cells #[.string s, .int .i64 0, .string ⟨#[10, 32]⟩, .map (some w1.heap.size), .slice none 0 0] 86 (0, 0)) := by rw [← hW3]; exact heap_alloc_new w2 _
  have hz3 : W3.heap.size = w2.heap.size + 1 := by rw [← hW3]; simp
  have HF3 : Hid (FrAt W3 w2.heap.size w1.heap.size (w2.heap.size + 1) (fun x => x = W3.heap.size) s 0 []) := by
    refine ⟨⟨(hb3.block _ hmlt).trans hmp, ((HT.out.next HB2.out).tb.next (hb3.mono (by omega))).wide (by omega), by omega, by omega, by omega, by omega⟩, .slice none 0 0, ⟨⟨by omega, cellAt hx3 rfl, cellAt hx3 rfl, Lib.frozen_of_heap hx3 1, Nat.zero_le _⟩, fun j hj => ?_, fun j => Lib.frozen_of_heap hx3 j⟩, FRow.nil _ _ _⟩
    match j, hj with
    | 0, _ => exact cellAt hx3 rfl
    | 2, _ => exact cellAt hx3 rfl
    | 3, _ => exact cellAt hx3 rfl
    | 4, _ => exact cellAt hx3 rfl
    | (k + 5), _ => rw [Lib.cell_of_heap hx3]; rfl
  have HB3 := hideB (HB2.out.trans (hb3.mono (by omega)))
  have HZ3 := hideB hz3
  have HW3 := hideB hW3
  obtain ⟨WA, hWA⟩ : ∃ WA, W3.alloc (.cells #[.bool false] 4) = WA := ⟨_, rfl⟩
  have hbA : Below W3.heap.size W3 WA := by rw [← hWA]; exact (Below.refl _ _).alloc (Nat.le_refl _) _
  have hxA : WA.heap[W3.heap.size]? = some (.cells #[.bool false] 4 (0, 0)) := by rw [← hWA]; exact heap_alloc_new W3 _
  have hzA : WA.heap.size = W3.heap.size + 1 := by rw [← hWA]; simp
  have HXA := hideB hxA
  have HBA := hideB hbA
  have HRA := hideB (readAll_any (HF3.out.below hbA) (fun x hx => by omega) (by omega))
  have HKEEP : Hid (∀ w', ButF w2.heap.size (w2.heap.size + 1) WA w' → w'.heap[W3.heap.size]? = some (.cells #[.bool false] 4 (0, 0))) := fun w' hb' => hb'.box HXA.out (by decide) (by omega)
  rw [← hWA] at HRA
  have HWA := hideB hWA
  clear hmp b2 hb3 hx3 hz3 hW3 hbA hxA hWA
  cases hrd : rdA s.data.toList with
  | none =>
    have HN : Hid (fltF s.data.toList = none) := by rw [Hid, HFL.out, hrd]
    have HU := hideB (unlessN_no 37 (.pointer (some ⟨w2.heap.size, 0, none⟩)) W3 (fun w' => ButF w2.heap.size (w2.heap.size + 1) WA w') (call_all _) (HRA.out.mono (fun e w' h => by
      obtain ⟨h1, ⟨v, fs, h2, _⟩ | ⟨_, h3⟩⟩ := h
      · rw [hrd] at h2; cases h2
      · exact ⟨h3, by rw [HWA.out] at h1; exact h1⟩)) (fun w' hw' => ⟨cellAt (HKEEP.out w' hw') rfl, Lib.frozen_of_heap (HKEEP.out w' hw') 0⟩))
    clear hrd
    go_upto_region 4 with fail
    rw [HW3.out]
    go_wp2_with fail
    refine HU.out.mono ?_
    rintro e w5 ⟨rfl, w4, hb4, rfl⟩
    have HB5 : Hid (Below w.heap.size w (w4.setCell ⟨W3.heap.size, 0, none⟩ (.bool false))) := by
      have h1 : Below w.heap.size WA w4 := (hb4.below (by have := HZ3.out; omega)).mono (by omega)
      exact ((HB3.out.trans (HBA.out.mono (by have := HZ3.out; omega))).trans h1).setCell (p := ⟨W3.heap.size, 0, none⟩) (by show w.heap.size ≤ W3.heap.size; have := HZ3.out; omega) _
    clear hb4
    go_wp2_with fail
    go_returns
    exact ⟨HB5.out, .inr ⟨HN.out, rfl⟩⟩
  | some fs =>
    have HU := hideB (unlessN_yes 37 (.pointer (some ⟨w2.heap.size, 0, none⟩)) W3 (fun v w' => ButF w2.heap.size (w2.heap.size + 1) WA w' ∧ FRow (w2.heap.size + 1) (fun x => x = W3.heap.size) w' v fs ∧ AllF fs ∧ fs.length ≤ 1000) (call_all _) (HRA.out.mono (fun e w' h => by
      obtain ⟨h1, ⟨v, fs', h2, h3, h4, h5, h6⟩ | ⟨h2, _⟩⟩ := h
      · rw [hrd] at h2
        simp only [Option.some.injEq] at h2
        subst h2
        exact ⟨v, h3, by rw [HWA.out] at h1; exact h1, h4, h5, h6⟩
      · rw [hrd] at h2; cases h2)) (fun v w' hw' => ⟨cellAt (HKEEP.out w' hw'.1) rfl, Lib.frozen_of_heap (HKEEP.out w' hw'.1) 0⟩))
    have HRD := hideB hrd
    clear hrd
    go_upto_region 4 with fail
    rw [HW3.out]
    go_wp2_with fail
    refine HU.out.mono ?_
    rintro e w5 ⟨v, rfl, w4, ⟨hb4, hrow, hall, hlen⟩, rfl⟩
    have hrow5 := frow_set hrow (HKEEP.out w4 hb4) (by decide) rfl 0 (.bool true)
    have HB5 : Hid (Below w.heap.size w (w4.setCell ⟨W3.heap.size, 0, none⟩ (.bool true))) := by
      have h1 : Below w.heap.size WA w4 := (hb4.below (by have := HZ3.out; omega)).mono (by omega)
      exact ((HB3.out.trans (HBA.out.mono (by have := HZ3.out; omega))).trans h1).setCell (p := ⟨W3.heap.size, 0, none⟩) (by show w.heap.size ≤ W3.heap.size; have := HZ3.out; omega) _
    obtain ⟨av, cv, ev⟩ := hrow5.slice
    obtain ⟨lv, hlv⟩ : ∃ l, fs.length = l := ⟨_, rfl⟩
    rw [hlv] at ev
    subst ev
    obtain ⟨W5, hW5⟩ : ∃ W5, w4.setCell ⟨W3.heap.size, 0, none⟩ (.bool true) = W5 := ⟨_, rfl⟩
    rw [hW5] at hrow5 HB5 ⊢
    have HROW5 := hideB hrow5
    have hnodes : FNodesAt W5.heap.size W5 (.slice av lv cv) fs := by
      obtain ⟨C, N, I, hN, _⟩ := hrow5
      exact hN.nodes (by omega) hall
    have HOK := hideB (implFilterOk_any W5.heap.size _ fs W5 hnodes (Nat.le_refl _))
    have HALL := hideB hall
    clear hb4 hrow hall hlen hrow5 hnodes hW5 hlv
    cases hok : okF fs
    · have HN : Hid (fltF s.data.toList = none) := by rw [Hid, HFL.out, HRD.out]; simp only; rw [if_neg (by rw [hok]; simp)]
      rw [hok] at HOK
      clear hok
      go_wp2_with fail
      refine HOK.out.mono ?_
      rintro e w6 ⟨rfl, b6⟩
      have HB6 := hideB (HB5.out.trans (b6.mono HB5.out.size))
      clear b6
      go_wp2_with fail
      go_returns
      exact ⟨HB6.out, .inr ⟨HN.out, rfl⟩⟩
    · have HN : Hid (fltF s.data.toList = some fs) := by rw [Hid, HFL.out, HRD.out]; simp only; rw [if_pos hok]
      rw [hok] at HOK
      clear hok
      go_wp2_with fail
      refine HOK.out.mono ?_
      rintro e w6 ⟨rfl, b6⟩
      have HB6 := hideB (HB5.out.trans (b6.mono HB5.out.size))
      have HROW6 := hideB (HROW5.out.below b6)
      clear b6
      go_wp2_with fail
      go_returns
      exact ⟨HB6.out, .inl ⟨_, fs, HN.out, rfl, frow_base HROW6.out (by omega) (fun x hx => hx.elim), HALL.out⟩⟩
end Go.Proofs.YtcidjhnogldgmaaGreatDoor
