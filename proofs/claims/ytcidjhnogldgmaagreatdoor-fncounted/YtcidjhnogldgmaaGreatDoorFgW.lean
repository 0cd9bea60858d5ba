import Derived.Test.YtcidjhnogldgmaaGreatDoorFgU
import Derived.Test.YtcidjhnogldgmaaGreatDoorFBk
import Derived.Test.YtcidjhnogldgmaaGreatDoorRd
namespace Go.Proofs.YtcidjhnogldgmaaGreatDoor
open Go.RowKit
set_option linter.unusedSimpArgs false
set_option linter.unusedVariables false
theorem ft_bld : FT 215 0 := ⟨by kernel_rfl, by decide⟩
set_option maxRecDepth 100000 in
set_option maxHeartbeats 2000000 in
theorem string_nil {b : Nat} {p : Value} {w : World} (hb : w.heap[b]? = some (.cells #[p, .slice none 0 0] 215 (0, 0))) :
    Calls Tryz.prog 143 #[.pointer (some ⟨b, 0, none⟩)] w fun e w' => e = .returned (.string (txt [])) ∧ Below w.heap.size w w' := by
  have mixed : Tryz.prog.follows .mixedOrders = true := by kernel_rfl
  have hb' : w.drew.heap[b]? = some (.cells #[p, .slice none 0 0] 215 (0, 0)) := hb
  have c1 : w.drew.cell? ⟨b, 1, none⟩ = some (.slice none 0 0) := cellAt hb' (by simp)
  have HE := hideB (show Below w.heap.size w w.drew from Below.drew (Below.refl _ _))
  have hSD : (Builtin.unsafeSliceData_ #[22] 232 #[.slice none 0 0]).run Tryz.prog w.drew = .ok (.pointer none) w.drew := rfl
  have hUS : (Builtin.unsafeString_ #[232, 3] 9 #[.pointer none, .int .i64 0]).run Tryz.prog w.drew = .ok (.string .empty) w.drew := Lib.run_unsafeString_none w.drew _ _ _ _
  clear hb'
  go_enter Tryz.func143, Tryz.ntmps143
  go_wp2
  go_region_o
  all_goals (go_wp2; go_ret; exact ⟨rfl, HE.out⟩)
structure Wr (w : World) (b : Nat) (l : List UInt8) (wr : World) : Prop where
  fb : FB 215 w.heap.size b [] l wr
  nil : l = [] → wr.heap[b]? = some (.cells #[.pointer none, .slice none 0 0] 215 (0, 0))
theorem Wr.read {w wr w2 : World} {rb b : Nat} {l : List UInt8} (h : Wr w b l wr) (hb : But rb wr w2) (hr : rb < w.heap.size) : Wr w b l w2 := by
  obtain ⟨h1, p, v, hp, h2, h3, h4⟩ := h.fb
  have hbl : b < wr.heap.size := lt_heap h2
  have e : w2.heap[b]? = wr.heap[b]? := hb.block b hbl (by omega)
  refine ⟨⟨h1, p, v, hp, e.trans h2, ?_, h4⟩, fun hl => e.trans (h.nil hl)⟩
  exact own_from (w := wr) h3 ⟨hb.size, fun c c1 c2 => hb.block c c2 (by omega)⟩
theorem But.belowN {rb : Nat} {w a b : World} (h : But rb w a) (k : Below w.heap.size a b) : But rb w b :=
  ⟨k.os.trans h.os, k.tape.trans h.tape, k.output.trans h.output, Nat.le_trans h.size k.size, fun c hc hn => (k.block c hc).trans (h.block c hc hn)⟩
theorem tx_push {X : Option (List UInt8 × Nat)} {l : List UInt8} {b : UInt8} : (X.map (fun y => (b :: y.1, y.2))).map (fun y => (l ++ y.1, y.2)) = X.map (fun y => ((l ++ [b]) ++ y.1, y.2)) := by cases X <;> simp
theorem tx_end {L : List UInt8} {q : Nat} (hq : q < L.length) (h : byAt L q = 34) : txJ L q = some ([], q + 1) := by rw [txJ_eq hq, if_pos h]
theorem tx_esc {L : List UInt8} {q b z : Nat} (hq : q < L.length) (h : byAt L q = 92) (he : escJ L (q + 1) = some (b, z)) : txJ L q = (txJ L z).map (fun y => (UInt8.ofNat b :: y.1, y.2)) := by
  rw [txJ_eq hq, if_neg (by omega), if_pos h, he]
  dsimp only
  cases txJ L z <;> rfl
theorem tx_noesc {L : List UInt8} {q : Nat} (hq : q < L.length) (h : byAt L q = 92) (he : escJ L (q + 1) = none) : txJ L q = none := by rw [txJ_eq hq, if_neg (by omega), if_pos h, he]
theorem tx_bad {L : List UInt8} {q : Nat} (hq : q < L.length) (h1 : byAt L q ≠ 34) (h2 : byAt L q ≠ 92) (h : byAt L q < 32 ∨ 127 < byAt L q) : txJ L q = none := by rw [txJ_eq hq, if_neg h1, if_neg h2, if_pos h]
theorem tx_step {L : List UInt8} {q : Nat} (hq : q < L.length) (h1 : byAt L q ≠ 34) (h2 : byAt L q ≠ 92) (h : ¬ (byAt L q < 32 ∨ 127 < byAt L q)) : txJ L q = (txJ L (q + 1)).map (fun y => (UInt8.ofNat (byAt L q) :: y.1, y.2)) := by
  rw [txJ_eq hq, if_neg h1, if_neg h2, if_neg h]
  cases txJ L (q + 1) <;> rfl
end Go.Proofs.YtcidjhnogldgmaaGreatDoor

namespace Go.Proofs.YtcidjhnogldgmaaGreatDoor
open Go.RowKit
set_option linter.unusedSimpArgs false
set_option linter.unusedVariables false
set_option linter.unusedSimpArgs false
set_option linter.unusedVariables false
theorem Wr.apartF {X : Nat → Option Value} {w wr : World} {rb b : Nat} {l : List UInt8} {s : ByteArray} {q : Nat} {w2 : World} (hs : SfAt X wr rb s q) (hr : rb < w.heap.size) (hb : Below w.heap.size wr w2) : SfAt X w2 rb s q := hs.keep (hb.block rb hr) hb.size
set_option maxRecDepth 100000 in
set_option maxHeartbeats 6400000 in
theorem fText_any {X : Nat → Option Value} {rb p : Nat} {s : ByteArray} {w : World} (h : SfAt X w rb s p) (hs : s.size ≤ 4000) :
    Calls Tryz.prog 109 #[.pointer (some ⟨rb, 0, none⟩)] w fun e w' => ((∃ l q, isAt s.data.toList p 34 = true ∧ txJ s.data.toList (p + 1) = some (l, q) ∧ e = .returned (.string (txt l)) ∧ SfAt X w' rb s q) ∨ ((isAt s.data.toList p 34 = false ∨ txJ s.data.toList (p + 1) = none) ∧ e = gup)) ∧ But rb w w' := by
  have H := hideB h
  have hps := h.br.le
  have hrb := h.br.lt
  have HLN := hideB (len_is s)
  clear h
  by_cases hq : p < s.size
  · have HQL : Hid (p < s.data.toList.length) := by rw [Hid, HLN.out]; exact hq
    have HNX := hideB (nextF_yes H.out hq (by omega))
    rw [byS hq] at HNX
    have hb256 := byAt_lt s.data.toList p
    obtain ⟨c, hc⟩ : ∃ c, byAt s.data.toList p = c := ⟨_, rfl⟩
    have HC := hideB hc
    rw [hc] at HNX hb256
    clear hc
    by_cases c1 : c = 34
    · subst c1
      have HIS : Hid (isAt s.data.toList p 34 = true) := isAt_yes.2 ⟨HQL.out, HC.out⟩
      go_enter Tryz.func109, Tryz.ntmps109
      go_wp2_with fail
      refine HNX.out.mono ?_
      rintro e w1 ⟨rfl, hr1, hb1⟩
      have HR1 := hideB hr1
      have HB1 := hideB hb1
      have z1 := hb1.size
      have hal : Below w1.heap.size w1 (w1.alloc (.cells #[.pointer none, .slice none 0 0] 215)) := (Below.refl _ _).alloc (Nat.le_refl _) _
      have HR2 := hideB (hr1.below hal)
      have HB2 : Hid (But rb w (w1.alloc (.cells #[.pointer none, .slice none 0 0] 215))) := hb1.trans (But.of_below hal)
      have HW2 : Hid (Wr w w1.heap.size [] (w1.alloc (.cells #[.pointer none, .slice none 0 0] 215))) := by
        have e0 : (w1.alloc (.cells #[.pointer none, .slice none 0 0] 215)).heap[w1.heap.size]? = some (.cells #[.pointer none, .slice none 0 0] 215 (0, 0)) := by show (w1.heap.push _)[w1.heap.size]? = _; simp
        exact ⟨⟨z1, .pointer none, .slice none 0 0, .inl rfl, e0, World.ownsRow_nil _ _ _ _, by simp [Value.ownBlock]⟩, fun _ => e0⟩
      obtain ⟨bb, hbb⟩ : ∃ bb, w1.heap.size = bb := ⟨_, rfl⟩
      have HBBE := hideB hbb
      clear hr1 hb1 hal
      rw [hbb] at HW2
      go_wp2_with fail
      go_loopw [4] (fun cc wr => ∃ (q : Nat) (l : List UInt8), SfAt X wr rb s q ∧ Wr w bb l wr ∧ But rb w wr ∧ p + 1 ≤ q ∧ l.length + (p + 1) ≤ q ∧ Hid (txJ s.data.toList (p + 1) = (txJ s.data.toList q).map (fun y => (l ++ y.1, y.2)))) (fun _ wr => s.size + 1 - placeOf wr rb)
      case atStart => exact ⟨p + 1, [], HR2.out, HW2.out, HB2.out, Nat.le_refl _, by simp, by rw [Hid]; cases txJ s.data.toList (p + 1) <;> rfl⟩
      case round =>
        obtain ⟨q, l, hsr, hwr, hbt, hpq, hlq, HT⟩ := hrel
        have HS := hideB hsr
        have HW := hideB hwr
        have HBT := hideB hbt
        have hqs := hsr.br.le
        have zr := hbt.size
        clear hsr hwr hbt
        by_cases hq2 : q < s.size
        · have HQ2 : Hid (q < s.data.toList.length) := by rw [Hid, HLN.out]; exact hq2
          have HNX2 := hideB (nextF_yes HS.out hq2 (by omega))
          rw [byS hq2] at HNX2
          have hc256 := byAt_lt s.data.toList q
          obtain ⟨c, hc⟩ : ∃ c, byAt s.data.toList q = c := ⟨_, rfl⟩
          have HCC := hideB hc
          rw [hc] at HNX2 hc256
          clear hc
          by_cases d1 : c = 34
          · subst d1
            have HEQ : Hid (txJ s.data.toList (p + 1) = some (l, q + 1)) := by rw [Hid, HT.out, tx_end HQ2.out HCC.out]; simp
            go_wp2_with fail
            refine HNX2.out.mono ?_
            rintro e w2 ⟨rfl, hr2, hb2⟩
            have HR3 := hideB hr2
            have HBT3 := hideB (HBT.out.trans hb2)
            have HW3 := hideB (HW.out.read hb2 hrb)
            clear hr2 hb2
            by_cases hl : l = []
            · have HNIL := hideB (string_nil (HW3.out.nil hl))
              rw [hl] at HEQ
              clear hl
              go_wp2_with fail
              refine HNIL.out.mono ?_
              rintro e w4 ⟨rfl, hb4⟩
              have HB4 := hideB hb4
              clear hb4
              go_wp2_with fail
              go_ret
              exact ⟨.inl ⟨[], q + 1, HIS.out, HEQ.out, rfl, HR3.out.below HB4.out⟩, HBT3.out.trans (But.of_below HB4.out)⟩
            · have HSTR := hideB (fb_string HW3.out.fb hl)
              clear hl
              go_wp2_with fail
              refine HSTR.out.mono ?_
              rintro e w4 ⟨rfl, hb4⟩
              have HR4 := hideB (Wr.apartF (b := bb) (l := l) HR3.out hrb hb4)
              have HB4 := hideB (HBT3.out.belowN hb4)
              clear hb4
              go_wp2_with fail
              go_ret
              exact ⟨.inl ⟨l, q + 1, HIS.out, HEQ.out, rfl, HR4.out⟩, HB4.out⟩
          · have r1 : ((c : Int) == 34) = false := by simp; omega
            have r1' : ¬ (c : Int) = 34 := by omega
            by_cases d2 : c = 92
            · subst d2
              go_wp2_with fail
              refine HNX2.out.mono ?_
              rintro e w2 ⟨rfl, hr2, hb2⟩
              have HR3 := hideB hr2
              have HBT3 := hideB (HBT.out.trans hb2)
              have HW3 := hideB (HW.out.read hb2 hrb)
              clear hr2 hb2
              go_wp2_with fail
              refine (fEscape_any HR3.out (by omega)).mono ?_
              rintro e w3 ⟨⟨b, z, hes, rfl, hr3⟩ | ⟨hes, rfl⟩, hb3⟩
              · obtain ⟨y1, y2, y3⟩ := escJ_says hes
                have HEQ : Hid (txJ s.data.toList q = (txJ s.data.toList z).map (fun y => (UInt8.ofNat b :: y.1, y.2))) := tx_esc HQ2.out HCC.out hes
                have HR4 := hideB hr3
                have HBT4 := hideB (HBT3.out.trans hb3)
                have HW4 := hideB (HW3.out.read hb3 hrb)
                have hbv : ((UInt8.ofNat b).toNat : Int) = (b : Int) := by rw [UInt8.toNat_ofNat', Nat.mod_eq_of_lt (by omega)]
                have HBY := hideB (fb_byte ft_bld HW4.out.fb (UInt8.ofNat b) (by omega) (by have := HBT4.out.size; omega))
                rw [hbv] at HBY
                clear hes hr3 hb3 hbv
                go_wp2_with fail
                refine HBY.out.mono ?_
                rintro e w9 ⟨rfl, hf9, hb9, _⟩
                have HF9 : Hid (Wr w bb (l ++ [UInt8.ofNat b]) w9) := ⟨hf9, fun e => by simp at e⟩
                have HR9 := hideB (Wr.apartF (b := bb) (l := l) HR4.out hrb hb9)
                have HB9 := hideB (HBT4.out.belowN hb9)
                clear hf9 hb9
                go_wp2_with fail
                go_roundw
                case rel => exact ⟨z, l ++ [UInt8.ofNat b], HR9.out, HF9.out, HB9.out, by omega, by simp; omega, by rw [Hid, HT.out, HEQ.out]; exact tx_push⟩
                case measure => rw [HS.out.placeOf, HR9.out.placeOf]; omega
              · have HEQ : Hid (txJ s.data.toList (p + 1) = none) := by rw [Hid, HT.out, tx_noesc HQ2.out HCC.out hes]; rfl
                have HBT4 := hideB (HBT3.out.trans hb3)
                clear hes hb3
                unfold gup
                go_wp2_with fail
                exact ⟨rfl, .inr ⟨.inr HEQ.out, rfl⟩, HBT4.out⟩
            · have r2 : ((c : Int) == 92) = false := by simp; omega
              have r2' : ¬ (c : Int) = 92 := by omega
              by_cases d3 : c < 32 ∨ 127 < c
              · have HEQ : Hid (txJ s.data.toList (p + 1) = none) := by rw [Hid, HT.out, tx_bad HQ2.out (by rw [HCC.out]; exact d1) (by rw [HCC.out]; exact d2) (by rw [HCC.out]; exact d3)]; rfl
                by_cases d4 : c < 32
                · have r3 : (c : Int) < 32 := by omega
                  go_wp2_with fail
                  refine HNX2.out.mono ?_
                  rintro e w2 ⟨rfl, hr2, hb2⟩
                  have HBT3 := hideB (HBT.out.trans hb2)
                  clear hr2 hb2
                  go_wp2_with fail
                  exact ⟨rfl, .inr ⟨.inr HEQ.out, rfl⟩, HBT3.out⟩
                · have r3 : ¬ (c : Int) < 32 := by omega
                  have r4 : (127 : Int) < (c : Int) := by omega
                  go_wp2_with fail
                  refine HNX2.out.mono ?_
                  rintro e w2 ⟨rfl, hr2, hb2⟩
                  have HBT3 := hideB (HBT.out.trans hb2)
                  clear hr2 hb2
                  go_wp2_with fail
                  exact ⟨rfl, .inr ⟨.inr HEQ.out, rfl⟩, HBT3.out⟩
              · have HEQ0 := tx_step HQ2.out (by rw [HCC.out]; exact d1) (by rw [HCC.out]; exact d2) (by rw [HCC.out]; exact d3)
                rw [HCC.out] at HEQ0
                have HEQ := hideB HEQ0
                have r3 : ¬ (c : Int) < 32 := by omega
                have r4 : ¬ (127 : Int) < (c : Int) := by omega
                clear HEQ0
                go_wp2_with fail
                refine HNX2.out.mono ?_
                rintro e w2 ⟨rfl, hr2, hb2⟩
                have HR4 := hideB hr2
                have HBT4 := hideB (HBT.out.trans hb2)
                have HW4 := hideB (HW.out.read hb2 hrb)
                have hbv : ((UInt8.ofNat c).toNat : Int) = (c : Int) := by rw [UInt8.toNat_ofNat', Nat.mod_eq_of_lt (by omega)]
                have HBY := hideB (fb_byte ft_bld HW4.out.fb (UInt8.ofNat c) (by omega) (by have := HBT4.out.size; omega))
                rw [hbv] at HBY
                clear hr2 hb2 hbv
                go_wp2_with fail
                refine HBY.out.mono ?_
                rintro e w9 ⟨rfl, hf9, hb9, _⟩
                have HF9 : Hid (Wr w bb (l ++ [UInt8.ofNat c]) w9) := ⟨hf9, fun e => by simp at e⟩
                have HR9 := hideB (Wr.apartF (b := bb) (l := l) HR4.out hrb hb9)
                have HB9 := hideB (HBT4.out.belowN hb9)
                clear hf9 hb9
                go_wp2_with fail
                go_roundw
                case rel => exact ⟨q + 1, l ++ [UInt8.ofNat c], HR9.out, HF9.out, HB9.out, by omega, by simp; omega, by rw [Hid, HT.out, HEQ.out]; exact tx_push⟩
                case measure => rw [HS.out.placeOf, HR9.out.placeOf]; omega
        · obtain rfl : q = s.size := by omega
          have HEQ : Hid (txJ s.data.toList (p + 1) = none) := by rw [Hid, HT.out, txJ_past (by rw [HLN.out]; omega)]; rfl
          have HNX2 := hideB (next_no HS.out.br (by omega))
          go_wp2_with fail
          refine HNX2.out.mono ?_
          rintro e w2 ⟨rfl, _, hb2⟩
          have HBT3 := hideB (HBT.out.trans hb2)
          clear hb2
          unfold gup
          go_wp2_with fail
          exact ⟨rfl, .inr ⟨.inr HEQ.out, rfl⟩, HBT3.out⟩
    · have q1 : ((c : Int) != 34) = true := by simp; omega
      have q1' : ¬ (c : Int) = 34 := by omega
      have HIS : Hid (isAt s.data.toList p 34 = false) := isAt_no.2 (fun e => c1 (by rw [← HC.out]; exact e.2))
      go_enter Tryz.func109, Tryz.ntmps109
      go_wp2_with fail
      refine HNX.out.mono ?_
      rintro e w1 ⟨rfl, hr1, hb1⟩
      have HB1 := hideB hb1
      clear hr1 hb1
      go_wp2_with fail
      exact ⟨rfl, .inr ⟨.inl HIS.out, rfl⟩, HB1.out⟩
  · obtain rfl : p = s.size := by omega
    have HIS : Hid (isAt s.data.toList s.size 34 = false) := isAt_no.2 (fun e => by have := e.1; rw [HLN.out] at this; omega)
    have HNX := hideB (next_no H.out.br (by omega))
    go_enter Tryz.func109, Tryz.ntmps109
    go_wp2_with fail
    refine HNX.out.mono ?_
    rintro e w1 ⟨rfl, _, hb1⟩
    have HB1 := hideB hb1
    clear hb1
    unfold gup
    go_wp2_with fail
    exact ⟨rfl, .inr ⟨.inl HIS.out, rfl⟩, HB1.out⟩
end Go.Proofs.YtcidjhnogldgmaaGreatDoor
