/-
  The program's jsonReader: a list.
-/
import Derived.Test.YtagcgnhpdmhegaaGreatDoorJrX
import Derived.Test.YtagcgnhpdmhegaaGreatDoorCbY
import Derived.Test.YtagcgnhpdmhegaaGreatDoorRdI
namespace Go.Proofs.YtagcgnhpdmhegaaGreatDoor
open Go.RowKit
set_option linter.unusedSimpArgs false
set_option linter.unusedVariables false

/-- What a reading of signs answers: a tree in new memory, the reader further on; or it gives up. -/
def JOr (r : Option (VT × Nat)) (f rb : Nat) (s : ByteArray) (p : Nat) (w : World) (e : Ending) (w' : World) : Prop :=
  ((∃ t q x z, r = some (t, q) ∧ e = .returned x ∧ TreeP (NewB w w') w' f t x ∧ SrAt w' rb s z ∧ skipJ s.data.toList z = skipJ s.data.toList q ∧ p ≤ z) ∨ (r = none ∧ e = gup)) ∧ But rb w w'
/-- readAround, so far. -/
def AroundAll (f rb : Nat) (s : ByteArray) : Prop := ∀ p w, SrAt w rb s p → s.size < p + f → Calls Tryz.prog 51 #[.pointer (some ⟨rb, 0, none⟩)] w fun e w' =>
  ((∃ t q x, rdJ s.data.toList f p = some (t, q) ∧ e = .returned x ∧ TreeP (NewB w w') w' f t x ∧ SrAt w' rb s q ∧ p ≤ q) ∨ (rdJ s.data.toList f p = none ∧ e = gup)) ∧ But rb w w'
theorem SrAt.grown {a b : World} {rb q : Nat} {s : ByteArray} {row : Option Nat} (h : SrAt a rb s q) (hg : a.grownBy b row) (hr : ∀ x, row = some x → rb < x) : SrAt b rb s q :=
  h.keep (hg.block rb h.br.lt (fun e => by have := hr rb e.symm; omega)) hg.size
theorem its_push {X : Option (List VT × Nat)} {ts : List VT} {t : VT} : (X.map (fun y => (t :: y.1, y.2))).map (fun y => (ts ++ y.1, y.2)) = X.map (fun y => ((ts ++ [t]) ++ y.1, y.2)) := by cases X <;> simp
theorem itemsJ_end {L : List UInt8} {R : Nat → Option (VT × Nat)} {m p : Nat} {t : VT} {q : Nat} (h : R p = some (t, q)) (he : isAt L q 93 = true) : itemsJ L R (m + 1) p = some ([t], q + 1) := by rw [itemsJ, h]; simp [he]
theorem itemsJ_next {L : List UInt8} {R : Nat → Option (VT × Nat)} {m p : Nat} {t : VT} {q : Nat} (h : R p = some (t, q)) (he : isAt L q 93 = false) (hc : isAt L q 44 = true) : itemsJ L R (m + 1) p = (itemsJ L R m (q + 1)).map (fun y => (t :: y.1, y.2)) := by
  rw [itemsJ, h]
  simp only [he, hc, if_true, Bool.false_eq_true, if_false]
  cases itemsJ L R m (q + 1) <;> rfl
theorem itemsJ_bad {L : List UInt8} {R : Nat → Option (VT × Nat)} {m p : Nat} {t : VT} {q : Nat} (h : R p = some (t, q)) (he : isAt L q 93 = false) (hc : isAt L q 44 = false) : itemsJ L R (m + 1) p = none := by rw [itemsJ, h]; simp [he, hc]
theorem itemsJ_none {L : List UInt8} {R : Nat → Option (VT × Nat)} {m p : Nat} (h : R p = none) : itemsJ L R (m + 1) p = none := by rw [itemsJ, h]

set_option maxRecDepth 100000 in
set_option maxHeartbeats 6400000 in
theorem readList_any {f rb p : Nat} {s : ByteArray} {w : World} (hA : AroundAll f rb s) (h : SrAt w rb s p) (hs : s.size ≤ 4000) (hf : s.size < p + 1 + f) (hp : isAt s.data.toList p 91 = true) :
    Calls Tryz.prog 98 #[.pointer (some ⟨rb, 0, none⟩)] w (JOr (listJ s.data.toList (rdJ s.data.toList f) (p + 1)) (f + 1) rb s p w) := by
  have HA := hideIt hA
  have HLN := hideB (len_is s)
  have hrb := h.br.lt
  have HM := hideB (must_yes h (by omega) hp)
  obtain ⟨i1, hi1, hz1, hs1, hy1⟩ := info_parts infoV1
  have hps : p < s.size := by have := (isAt_yes.1 hp).1; rw [HLN.out] at this; exact this
  have HK1 := hideB (runJ_ge blankC s.data.toList (p + 1))
  clear h hp hA
  cases he : isAt s.data.toList (skipJ s.data.toList (p + 1)) 93
  · have HLI : Hid (listJ s.data.toList (rdJ s.data.toList f) (p + 1) = (itemsJ s.data.toList (rdJ s.data.toList f) (s.data.toList.length + 1) (p + 1)).map (fun y => (listT y.1, y.2))) := by
      rw [Hid]
      unfold listJ
      rw [if_neg (by rw [he]; simp)]
      cases itemsJ s.data.toList (rdJ s.data.toList f) (s.data.toList.length + 1) (p + 1) <;> rfl
    obtain ⟨y0, hy0⟩ : ∃ y0, skipJ s.data.toList (p + 1) = y0 := ⟨_, rfl⟩
    have HY0 : Hid (skipJ s.data.toList y0 = skipJ s.data.toList (p + 1)) := by rw [Hid, ← hy0]; exact runJ_idem _ _ _
    have hy1' : p + 1 ≤ y0 := by rw [← hy0]; exact HK1.out
    rw [hy0] at HM he
    have HE := hideB he
    clear hy0 he
    go_enter Tryz.func98, Tryz.ntmps98
    go_wp2_with fail
    refine HM.out.mono ?_
    rintro e w1 ⟨rfl, hr1, hb1⟩
    have HT := hideB (took_no hr1 (by omega) (by omega) HE.out)
    have HB1 := hideB hb1
    clear hr1 hb1
    go_wp2_with fail
    refine HT.out.mono ?_
    rintro e w2 ⟨rfl, hr2, hb2⟩
    have HR2 := hideB hr2
    have HB2 := hideB (HB1.out.trans hb2)
    clear hr2 hb2
    go_wp2_with fail
    go_loopw [3] (fun it wr => ∃ (m y pos : Nat) (ts : List VT) (xs : List Value), ts.length + m = s.size + 1 ∧ ts.length + (p + 1) ≤ y ∧ y ≤ s.size ∧ SrAt wr rb s y ∧ But rb w wr ∧ Its w wr f it (.slice none 0 0) ts xs [] ∧ Hid (skipJ s.data.toList y = skipJ s.data.toList pos) ∧ Hid (itemsJ s.data.toList (rdJ s.data.toList f) (s.data.toList.length + 1) (p + 1) = (itemsJ s.data.toList (rdJ s.data.toList f) m pos).map (fun z => (ts ++ z.1, z.2)))) (fun _ wr => s.size + 1 - placeOf wr rb)
    case atStart => exact ⟨s.size + 1, y0, p + 1, [], [], by simp, by simpa using hy1', HR2.out.br.le, HR2.out, HB2.out, Its.read (Its.nil w f) HB2.out hrb, HY0.out, by rw [Hid, HLN.out]; cases itemsJ s.data.toList (rdJ s.data.toList f) (s.size + 1) (p + 1) <;> simp⟩
    case round =>
      obtain ⟨m, y, pos, ts, xs, hmt, hty, hys, hsr, hbt, hit, HPO, HIJ⟩ := hrel
      obtain ⟨m, rfl⟩ : ∃ m', m = m' + 1 := ⟨m - 1, by omega⟩
      have HS := hideIt hsr
      have HBT := hideIt hbt
      have HIT := hideIt hit
      have zr := hbt.size
      obtain ⟨ai, ci, ei⟩ := own_slice hit.row
      obtain ⟨k, hlen⟩ : ∃ k, ts.length = k := ⟨_, rfl⟩
      rw [hlen] at ei hmt hty
      have HLEN := hideIt hlen
      subst ei
      have HC := hideIt (HA.out y wr hsr (by omega))
      have HRY : Hid (rdJ s.data.toList f y = rdJ s.data.toList f pos) := by rw [Hid, ← rdJ_skip _ _ y, HPO.out, rdJ_skip]
      clear hsr hbt hit hlen
      go_wp2_with fail
      refine HC.out.mono ?_
      rintro e w3 ⟨⟨t, q, x, hr, rfl, htr, hs3, hyq⟩ | ⟨hr, rfl⟩, hbt3⟩
      · obtain ⟨ty, xx, rfl⟩ := htr.iface
        rw [HRY.out] at hr
        have HRD := hideIt hr
        have HTR := hideIt htr
        have HIT2 := hideIt (HIT.out.read hbt3 hrb)
        have HBT2 := hideIt (HBT.out.trans hbt3)
        have HS2 := hideIt hs3
        have hqs := hs3.br.le
        have z2 := hbt3.size
        have HLT : Hid (∀ b, (Value.slice ai k ci).ownBlock = some b → w.heap.size ≤ b ∧ b < wr.heap.size) := fun b hb' => HIT.out.row.lt b hb'
        have HRO : Hid (w3.ownsRow w.heap.size 36 1 (.slice ai k ci) k xs) := by have := HIT2.out.row; rw [HLEN.out] at this; exact this
        clear hr htr hs3 hbt3
        go_wp2_with (at_builtin; refine wpList_append_own_at _ rfl _ _ 69 rfl w.heap.size 36 i1 .nilIface 1 16 Tryz.underlying69 hi1 hz1 hs1 hy1 rfl (by decide) _ _ _ rfl (HRO.out.alloc _) ⟨w3.heap.size, 0, none⟩ 1 1 [.iface ty xx] rfl rfl ?c1 ?c2 ?c3 ?c4 ?c5 ?_)
        case c1 => exact cell_one_new _ _ _
        case c2 => intro u hu; simp at hu; subst hu; rfl
        case c3 => unfold maxLen; omega
        case c4 => omega
        case c5 => simp; omega
        intro v' w5 hown hgrow _ hat
        have HIT5 := hideIt (HIT2.out.item (wr := wr) zr (fun b hb' => (HLT.out b (by rw [← hb'])).2) (fun b hb' => by simp [Value.ownBlock] at hb') HTR.out (by rw [HLEN.out]; exact hown) (by exact hgrow) (by exact hat))
        have hga := (World.grownBy_alloc w3 (.cells #[.iface ty xx] 36) (Value.slice ai k ci).ownBlock).trans hgrow
        have HBT5 := hideIt (HBT2.out.grown (base := 0) hga (fun x hx => (HLT.out x hx).1))
        have HS5 := hideIt (HS2.out.grown hga (fun x hx => by have := (HLT.out x hx).1; omega))
        obtain ⟨a5, c5, e5⟩ := own_slice hown
        subst e5
        clear hown hgrow hat hga
        cases he2 : isAt s.data.toList q 93
        · have HE2 := hideIt he2
          have HT2 := hideIt (took_no HS5.out (by omega) (by omega) he2)
          clear he2
          go_wp2_with fail
          refine HT2.out.mono ?_
          rintro e w6 ⟨rfl, hs6, hb6⟩
          have HS6 := hideIt hs6
          have HBT6 := hideIt (HBT5.out.trans hb6)
          have HIT6 := hideIt (HIT5.out.read hb6 hrb)
          clear hs6 hb6
          cases he3 : isAt s.data.toList q 44
          · have HNO : Hid (listJ s.data.toList (rdJ s.data.toList f) (p + 1) = none) := by rw [Hid, HLI.out, HIJ.out, itemsJ_bad HRD.out HE2.out he3]; rfl
            have HM2 := hideIt (must_no HS6.out (by omega) (by omega) he3)
            clear he3
            go_wp2_with fail
            refine HM2.out.mono ?_
            rintro e w7 ⟨rfl, hb7⟩
            have HBT7 := hideIt (HBT6.out.trans hb7)
            clear hb7
            unfold gup
            go_wp2_with fail
            exact ⟨rfl, .inr ⟨HNO.out, rfl⟩, HBT7.out⟩
          · have HIJ2 : Hid (itemsJ s.data.toList (rdJ s.data.toList f) (s.data.toList.length + 1) (p + 1) = (itemsJ s.data.toList (rdJ s.data.toList f) m (q + 1)).map (fun z => ((ts ++ [t]) ++ z.1, z.2))) := by rw [Hid, HIJ.out, itemsJ_next HRD.out HE2.out he3]; exact its_push
            have hq1 : q < s.size := by have := (isAt_yes.1 he3).1; rw [HLN.out] at this; exact this
            have HK2 := hideB (runJ_ge blankC s.data.toList (q + 1))
            have HK3 := hideB (runJ_le (P := blankC) (L := s.data.toList) (p := q + 1) (by rw [HLN.out]; omega))
            have HM2 := hideIt (must_yes HS6.out (by omega) he3)
            clear he3
            go_wp2_with fail
            refine HM2.out.mono ?_
            rintro e w7 ⟨rfl, hs7, hb7⟩
            have HS7 := hideIt hs7
            have HBT7 := hideIt (HBT6.out.trans hb7)
            have HIT7 := hideIt (HIT6.out.read hb7 hrb)
            clear hs7 hb7
            go_wp2_with fail
            go_roundw
            case rel =>
              have a1 : q + 1 ≤ skipJ s.data.toList (q + 1) := HK2.out
              have a2 : skipJ s.data.toList (q + 1) ≤ s.size := by have := HK3.out; rw [HLN.out] at this; exact this
              exact ⟨m, skipJ s.data.toList (q + 1), q + 1, ts ++ [t], _, by rw [List.length_append, HLEN.out]; simp; omega, by rw [List.length_append, HLEN.out]; simp; omega, a2, HS7.out, HBT7.out, HIT7.out, runJ_idem _ _ _, HIJ2.out⟩
            case measure =>
              have a1 : q + 1 ≤ skipJ s.data.toList (q + 1) := HK2.out
              have a2 : skipJ s.data.toList (q + 1) ≤ s.size := by have := HK3.out; rw [HLN.out] at this; exact this
              rw [HS.out.placeOf, HS7.out.placeOf]; omega
        · have HYES : Hid (listJ s.data.toList (rdJ s.data.toList f) (p + 1) = some (listT (ts ++ [t]), q + 1)) := by rw [Hid, HLI.out, HIJ.out, itemsJ_end HRD.out he2]; rfl
          have HT2 := hideIt (took_yes HS5.out (by omega) he2)
          have HK2 := hideB (runJ_ge blankC s.data.toList (q + 1))
          clear he2
          go_wp2_with fail
          refine HT2.out.mono ?_
          rintro e w6 ⟨rfl, hs6, hb6⟩
          have HS6 := hideIt hs6
          have HBT6 := hideIt (HBT5.out.trans hb6)
          have HIT6 := hideIt (HIT5.out.read hb6 hrb)
          have HL6 := hideIt (HIT6.out.list (by rw [List.length_append, HLEN.out]; simp; omega))
          clear hs6 hb6
          go_wp2_with fail
          go_ret
          exact ⟨.inl ⟨listT (ts ++ [t]), q + 1, _, skipJ s.data.toList (q + 1), HYES.out, rfl, HL6.out, HS6.out, runJ_idem _ _ _, by have : q + 1 ≤ skipJ s.data.toList (q + 1) := HK2.out; omega⟩, HBT6.out⟩
      · rw [HRY.out] at hr
        have HNO : Hid (listJ s.data.toList (rdJ s.data.toList f) (p + 1) = none) := by rw [Hid, HLI.out, HIJ.out, itemsJ_none hr]; rfl
        have HBT3 := hideIt (HBT.out.trans hbt3)
        clear hr hbt3
        unfold gup
        go_wp2_with fail
        exact ⟨rfl, .inr ⟨HNO.out, rfl⟩, HBT3.out⟩
  · have HLI : Hid (listJ s.data.toList (rdJ s.data.toList f) (p + 1) = some (listT [], skipJ s.data.toList (p + 1) + 1)) := by rw [Hid]; unfold listJ; rw [if_pos he]
    have HE := hideB he
    have HK2 := hideB (runJ_ge blankC s.data.toList (skipJ s.data.toList (p + 1) + 1))
    clear he
    go_enter Tryz.func98, Tryz.ntmps98
    go_wp2_with fail
    refine HM.out.mono ?_
    rintro e w1 ⟨rfl, hr1, hb1⟩
    have HT := hideB (took_yes hr1 (by omega) HE.out)
    have HB1 := hideB hb1
    clear hr1 hb1
    go_wp2_with fail
    refine HT.out.mono ?_
    rintro e w2 ⟨rfl, hr2, hb2⟩
    have HR2 := hideB hr2
    have HB2 := hideB (HB1.out.trans hb2)
    have HL2 := hideIt ((Its.read (Its.nil w f) HB2.out hrb).list (by simp))
    clear hr2 hb2
    go_wp2_with fail
    go_ret
    refine ⟨.inl ⟨listT [], _, _, _, HLI.out, rfl, HL2.out, HR2.out, runJ_idem _ _ _, ?_⟩, HB2.out⟩
    have a1 : p + 1 ≤ skipJ s.data.toList (p + 1) := HK1.out
    have a2 : skipJ s.data.toList (p + 1) + 1 ≤ skipJ s.data.toList (skipJ s.data.toList (p + 1) + 1) := HK2.out
    omega
end Go.Proofs.YtagcgnhpdmhegaaGreatDoor

/-
  The program's readPairs, over whatever reads a value.
-/
namespace Go.Proofs.YtagcgnhpdmhegaaGreatDoor
open Go.RowKit
set_option linter.unusedSimpArgs false
set_option linter.unusedVariables false

theorem tw_null_text (x : Value) (w : World) : (Instr.typeAssert (.iface 73 x) 36 82 true).run Tryz.prog w = .ok (.tuple #[.agg #[.string ByteArray.empty], .bool false]) w := by kernel_rfl
theorem tw_bool_text (x : Value) (w : World) : (Instr.typeAssert (.iface 77 x) 36 82 true).run Tryz.prog w = .ok (.tuple #[.agg #[.string ByteArray.empty], .bool false]) w := by kernel_rfl
theorem tw_int_text (x : Value) (w : World) : (Instr.typeAssert (.iface 79 x) 36 82 true).run Tryz.prog w = .ok (.tuple #[.agg #[.string ByteArray.empty], .bool false]) w := by kernel_rfl
/-- Is it a text? -/
theorem TreeP.text {P : Nat → Prop} {w : World} {f : Nat} {t : VT} {v : Value} (h : TreeP P w f t v) : (∃ z, textOf t = some z ∧ v = .iface 82 (.agg #[.string z])) ∨ (textOf t = none ∧ ∀ w, (Instr.typeAssert v 36 82 true).run Tryz.prog w = .ok (.tuple #[.agg #[.string ByteArray.empty], .bool false]) w) := by
  cases f with
  | zero => exact h.elim
  | succ f =>
    obtain ⟨kind, n, s, keys, kids⟩ := t
    rcases h with ⟨rfl, _, _, _, _, rfl⟩ | ⟨rfl, _, _, _, rfl⟩ | ⟨rfl, _, _, _, rfl⟩ | ⟨rfl, _, _, _, rfl⟩ | ⟨rfl, _, _, _, _, rfl, _⟩ | ⟨rfl, _, _, _, _, rfl, _⟩
    · exact .inr ⟨rfl, tw_null_text _⟩
    · exact .inr ⟨rfl, tw_bool_text _⟩
    · exact .inr ⟨rfl, tw_int_text _⟩
    · exact .inl ⟨s, rfl, rfl⟩
    · exact .inr ⟨rfl, tw_list_text _⟩
    · exact .inr ⟨rfl, tw_map_text _⟩
theorem getD_vals {xs : List Value} {n j : Nat} {ty : TypeId} {x : Value} (h : xs[j]? = some (.iface ty x)) : xs.getD j .nilIface = .iface ty x := by rw [List.getD_eq_getElem?_getD, h]; rfl
/-- The rows as sortedMap reads them. -/
theorem Its.strs {w wr : World} {f : Nat} {it kv : Value} {ts : List VT} {xs : List Value} {ks : List ByteArray} (h : Its w wr f it kv ts xs ks) (hn : ks.length ≤ 100000) (hz : ∀ i, i < ks.length → (keyAt ks i).size ≤ 100000) : StrsAt wr.heap.size wr kv ks := by
  obtain ⟨a, c, e⟩ := own_slice h.krow
  refine ⟨by omega, fun i hi => by have := hz i hi; omega, a, c, e, fun hp => ?_⟩
  obtain ⟨g, cap, e2, hge, hlt⟩ := h.krow.form hp
  have ea : a = some ⟨g, 0, none⟩ := by rw [e2] at e; injection e with e _ _; exact e.symm
  refine ⟨g, 0, ea, hlt, fun i hi => ?_⟩
  have := h.krow
  rw [e2] at this
  rw [Nat.zero_add, this.cellAt i (by omega), List.getElem?_map, List.getElem?_eq_getElem hi]
  simp [keyAt, hi]
theorem Its.its {w wr : World} {f : Nat} {it kv : Value} {ts : List VT} {xs : List Value} {ks : List ByteArray} (h : Its w wr f it kv ts xs ks) : ItsAt wr it ts.length (fun j => xs.getD j .nilIface) := by
  obtain ⟨a, c, e⟩ := own_slice h.row
  refine ⟨a, c, e, fun hp => ?_⟩
  obtain ⟨g, cap, e2, hge, hlt⟩ := h.row.form hp
  have ea : a = some ⟨g, 0, none⟩ := by rw [e2] at e; injection e with e _ _; exact e.symm
  refine ⟨g, ea, hlt, fun j hj => ?_⟩
  obtain ⟨ty, x, h1, _⟩ := h.trees j hj
  have := h.row
  rw [e2] at this
  have e9 : (fun j => xs.getD j Value.nilIface) j = .iface ty x := getD_vals (n := 0) h1
  rw [this.cellAt j (by omega), h1, e9]
  exact ⟨rfl, ty, x, rfl⟩
theorem keysTo_at {l : List ByteArray} {g : Nat → Int} {n i : Nat} (h : i < n) : (keysTo l g n)[i]? = some (.string (keyAt l (g i).toNat)) := by simp [keysTo, h]
theorem itemsTo_at {V : Nat → Value} {g : Nat → Int} {n i : Nat} (h : i < n) : (itemsTo V g n)[i]? = some (V (g i).toNat) := by simp [itemsTo, h]
/-- The map of what was gathered. -/
theorem Its.map {w wr w' : World} {f : Nat} {it kv k2 i2 : Value} {ts : List VT} {xs : List Value} {ks : List ByteArray} {g : Nat → Int} (h : Its w wr f it kv ts xs ks) (hl : ks.length = ts.length) (hw : w.heap.size ≤ wr.heap.size) (hn : ts.length ≤ 100000) (hz : ∀ i, i < ks.length → (keyAt ks i).size ≤ 100000)
    (hg : Blk (RK ks) (fun p => (p : Int)) g 0 ks.length) (hk : w'.ownsRow wr.heap.size 9 1 k2 ks.length (keysTo ks g ks.length)) (hi : w'.ownsRow wr.heap.size 36 1 i2 ks.length (itemsTo (fun j => xs.getD j .nilIface) g ks.length)) (hb : Below wr.heap.size wr w') :
    TreeP (NewB w w') w' (f + 1) (mapT ks ts) (.iface 87 (.agg #[k2, i2])) := by
  have hsl := srt_len ks
  have hgj : ∀ j, j < ks.length → (g j).toNat = (srt ks).getD j 0 := fun j hj => by rw [blk_at hg hj, Int.toNat_natCast]
  refine .inr (.inr (.inr (.inr (.inr ⟨rfl, rfl, rfl, k2, i2, rfl, ?_, ?_⟩))))
  · obtain ⟨a, c, e⟩ := own_slice hk
    have hat : ∀ j, j < ks.length → keyAt ((srt ks).map (keyAt ks)) j = keyAt ks ((srt ks).getD j 0) := fun j hj => by
      conv => lhs; unfold keyAt
      rw [List.getD_eq_getElem?_getD, List.getElem?_map, List.getElem?_eq_getElem (by omega), List.getD_eq_getElem?_getD (l := srt ks), List.getElem?_eq_getElem (show j < (srt ks).length by omega)]
      rfl
    refine ⟨by rw [List.length_map, hsl]; omega, fun i hi' => ?_, a, c, by rw [List.length_map, hsl]; exact e, fun hp => ?_⟩
    · rw [List.length_map, hsl] at hi'
      rw [hat i hi']
      have := hz _ (srt_lt hi')
      omega
    · rw [List.length_map, hsl] at hp
      obtain ⟨b, cap, e2, hge, hlt⟩ := hk.form hp
      have ea : a = some ⟨b, 0, none⟩ := by rw [e2] at e; injection e with e _ _; exact e.symm
      refine ⟨b, 0, ea, ⟨Nat.le_trans hw hge, hlt⟩, fun i hi' => ?_⟩
      rw [List.length_map, hsl] at hi'
      rw [hat i hi']
      have := hk
      rw [e2] at this
      rw [Nat.zero_add, this.cellAt i (by omega), keysTo_at hi', hgj i hi']
  · rw [List.length_map, hsl]
    obtain ⟨a, c, e⟩ := own_slice hi
    refine ⟨by omega, a, c, e, fun hp => ?_⟩
    obtain ⟨b, cap, e2, hge, hlt⟩ := hi.form hp
    have ea : a = some ⟨b, 0, none⟩ := by rw [e2] at e; injection e with e _ _; exact e.symm
    refine ⟨b, ea, ⟨Nat.le_trans hw hge, hlt⟩, fun j hj => ?_⟩
    have hsj := srt_lt hj
    obtain ⟨ty, x, h1, h2⟩ := h.trees ((srt ks).getD j 0) (by omega)
    refine ⟨ty, x, ?_, ?_⟩
    · have := hi
      rw [e2] at this
      rw [this.cellAt j (by omega), itemsTo_at hj, hgj j hj, getD_vals (n := 0) h1]
    · show TreeP (NewB w w') w' f (kidT ((srt ks).map (kidT ts)) j) (.iface ty x)
      rw [kid_srt hj]
      exact h2.keep (fun b hb' => hb.block b hb'.1.2) (fun b hb' => ⟨hb'.1.1, Nat.lt_of_lt_of_le hb'.1.2 hb.size⟩)

theorem key_snoc_le {ks : List ByteArray} {s : ByteArray} {N : Nat} (h : ∀ i, i < ks.length → (keyAt ks i).size ≤ N) (hs : s.size ≤ N) : ∀ i, i < (ks ++ [s]).length → (keyAt (ks ++ [s]) i).size ≤ N := by
  intro i hi
  rw [List.length_append, List.length_cons, List.length_nil] at hi
  by_cases e : i < ks.length
  · have : keyAt (ks ++ [s]) i = keyAt ks i := by simp [keyAt, List.getElem?_append_left e]
    rw [this]; exact h i e
  · obtain rfl : i = ks.length := by omega
    have : keyAt (ks ++ [s]) ks.length = s := by simp [keyAt]
    rw [this]; exact hs

end Go.Proofs.YtagcgnhpdmhegaaGreatDoor

/-
  The program's jsonReader: a map.
-/
namespace Go.Proofs.YtagcgnhpdmhegaaGreatDoor
open Go.RowKit
set_option linter.unusedSimpArgs false
set_option linter.unusedVariables false

theorem keyJ_yes {L : List UInt8} {p q : Nat} {l : List UInt8} (h1 : isAt L (skipJ L p) 34 = true) (h2 : txJ L (skipJ L p + 1) = some (l, q)) (h3 : isAt L (skipJ L q) 58 = true) : keyR L p = some (txt l, skipJ L q + 1) := by
  unfold keyR; rw [if_pos h1, h2]; dsimp only; rw [if_pos h3]
theorem keyJ_no {L : List UInt8} {p : Nat} (h : isAt L (skipJ L p) 34 = false ∨ txJ L (skipJ L p + 1) = none) : keyR L p = none := by
  unfold keyR
  rcases h with h | h
  · rw [if_neg (by rw [h]; simp)]
  · split
    · rw [h]
    · rfl
theorem keyJ_bad {L : List UInt8} {p q : Nat} {l : List UInt8} (h1 : isAt L (skipJ L p) 34 = true) (h2 : txJ L (skipJ L p + 1) = some (l, q)) (h3 : isAt L (skipJ L q) 58 = false) : keyR L p = none := by
  unfold keyR; rw [if_pos h1, h2]; dsimp only; rw [if_neg (by rw [h3]; simp)]
theorem prs_push {X : Option (List ByteArray × List VT × Nat)} {ks : List ByteArray} {ts : List VT} {k : ByteArray} {t : VT} : (X.map (fun y => (k :: y.1, t :: y.2.1, y.2.2))).map (fun y => (ks ++ y.1, ts ++ y.2.1, y.2.2)) = X.map (fun y => ((ks ++ [k]) ++ y.1, (ts ++ [t]) ++ y.2.1, y.2.2)) := by cases X <;> simp
theorem pairsJ_end {L : List UInt8} {R : Nat → Option (VT × Nat)} {m p : Nat} {z : ByteArray} {a : Nat} {t : VT} {q : Nat} (hk : keyR L p = some (z, a)) (h : R a = some (t, q)) (he : isAt L q 125 = true) : pairsJ L R (m + 1) p = some ([z], [t], q + 1) := by rw [pairsJ, hk]; simp [he, h]
theorem pairsJ_next {L : List UInt8} {R : Nat → Option (VT × Nat)} {m p : Nat} {z : ByteArray} {a : Nat} {t : VT} {q : Nat} (hk : keyR L p = some (z, a)) (h : R a = some (t, q)) (he : isAt L q 125 = false) (hc : isAt L q 44 = true) : pairsJ L R (m + 1) p = (pairsJ L R m (q + 1)).map (fun y => (z :: y.1, t :: y.2.1, y.2.2)) := by
  rw [pairsJ, hk]
  simp only [h, he, hc, if_true, Bool.false_eq_true, if_false]
  cases pairsJ L R m (q + 1) <;> rfl
theorem pairsJ_bad {L : List UInt8} {R : Nat → Option (VT × Nat)} {m p : Nat} {z : ByteArray} {a : Nat} {t : VT} {q : Nat} (hk : keyR L p = some (z, a)) (h : R a = some (t, q)) (he : isAt L q 125 = false) (hc : isAt L q 44 = false) : pairsJ L R (m + 1) p = none := by rw [pairsJ, hk]; simp [h, he, hc]
theorem pairsJ_none {L : List UInt8} {R : Nat → Option (VT × Nat)} {m p : Nat} {z : ByteArray} {a : Nat} (hk : keyR L p = some (z, a)) (h : R a = none) : pairsJ L R (m + 1) p = none := by rw [pairsJ, hk]; simp [h]
theorem pairsJ_nokey {L : List UInt8} {R : Nat → Option (VT × Nat)} {m p : Nat} (hk : keyR L p = none) : pairsJ L R (m + 1) p = none := by rw [pairsJ, hk]
theorem map_none (P : Nat → Prop) (w : World) (f : Nat) : TreeP P w (f + 1) (mapT [] []) (.iface 87 (.agg #[.slice none 0 0, .slice none 0 0])) := by
  have e : mapT [] [] = .mk 6 0 ByteArray.empty [] [] := by
    have h0 : srt [] = [] := List.eq_nil_of_length_eq_zero (srt_len [])
    unfold mapT; rw [h0]; rfl
  rw [e]
  exact .inr (.inr (.inr (.inr (.inr ⟨rfl, rfl, rfl, _, _, rfl, ⟨by simp, fun i hi => absurd hi (by simp), none, 0, rfl, fun hp => absurd hp (by simp)⟩, ⟨by simp, none, 0, rfl, fun hp => absurd hp (by simp)⟩⟩))))

set_option maxRecDepth 100000 in
set_option maxHeartbeats 6400000 in
theorem readMap_any {f rb p : Nat} {s : ByteArray} {w : World} (hA : AroundAll f rb s) (h : SrAt w rb s p) (hs : s.size ≤ 4000) (hf : s.size < p + 1 + f) (hp : isAt s.data.toList p 123 = true) :
    Calls Tryz.prog 99 #[.pointer (some ⟨rb, 0, none⟩)] w (JOr (mapJ s.data.toList (rdJ s.data.toList f) (p + 1)) (f + 1) rb s p w) := by
  have HA := hideIt hA
  have HLN := hideB (len_is s)
  have hrb := h.br.lt
  have HM := hideB (must_yes h (by omega) hp)
  obtain ⟨i1, hi1, hz1, hs1, hy1⟩ := info_parts infoV1
  obtain ⟨j1, hj1, hzj, hsj, hyj⟩ := info_parts infoS1
  have hps : p < s.size := by have := (isAt_yes.1 hp).1; rw [HLN.out] at this; exact this
  have HK1 := hideB (runJ_ge blankC s.data.toList (p + 1))
  clear h hp hA
  cases he : isAt s.data.toList (skipJ s.data.toList (p + 1)) 125
  · have HLI : Hid (mapJ s.data.toList (rdJ s.data.toList f) (p + 1) = (pairsJ s.data.toList (rdJ s.data.toList f) (s.data.toList.length + 1) (p + 1)).map (fun y => (mapT y.1 y.2.1, y.2.2))) := by
      rw [Hid]
      unfold mapJ
      rw [if_neg (by rw [he]; simp)]
      cases pairsJ s.data.toList (rdJ s.data.toList f) (s.data.toList.length + 1) (p + 1) <;> rfl
    obtain ⟨y0, hy0⟩ : ∃ y0, skipJ s.data.toList (p + 1) = y0 := ⟨_, rfl⟩
    have HY0 : Hid (skipJ s.data.toList (p + 1) = y0) := hy0
    have hy1' : p + 1 ≤ y0 := by rw [← hy0]; exact HK1.out
    rw [hy0] at HM he
    have HE := hideB he
    clear hy0 he
    go_enter Tryz.func99, Tryz.ntmps99
    go_wp2_with fail
    refine HM.out.mono ?_
    rintro e w1 ⟨rfl, hr1, hb1⟩
    have HT := hideB (took_no hr1 (by omega) (by omega) HE.out)
    have HB1 := hideB hb1
    clear hr1 hb1
    go_wp2_with fail
    refine HT.out.mono ?_
    rintro e w2 ⟨rfl, hr2, hb2⟩
    have HR2 := hideB hr2
    have HB2 := hideB (HB1.out.trans hb2)
    clear hr2 hb2
    go_wp2_with fail
    go_loopw [3, 4] (fun kv it wr => ∃ (m y pos : Nat) (ts : List VT) (xs : List Value) (ks : List ByteArray), ts.length + m = s.size + 1 ∧ ts.length + (p + 1) ≤ y ∧ y ≤ s.size ∧ SrAt wr rb s y ∧ But rb w wr ∧ Its w wr f it kv ts xs ks ∧ ks.length = ts.length ∧ (∀ i, i < ks.length → (keyAt ks i).size ≤ 4000) ∧ Hid (skipJ s.data.toList pos = y) ∧ Hid (pairsJ s.data.toList (rdJ s.data.toList f) (s.data.toList.length + 1) (p + 1) = (pairsJ s.data.toList (rdJ s.data.toList f) m pos).map (fun z => (ks ++ z.1, ts ++ z.2.1, z.2.2)))) (fun _ _ wr => s.size + 1 - placeOf wr rb)
    case atStart => exact ⟨s.size + 1, y0, p + 1, [], [], [], by simp, by simpa using hy1', HR2.out.br.le, HR2.out, HB2.out, Its.read (Its.nil w f) HB2.out hrb, rfl, fun i hi => absurd hi (by simp), HY0.out, by rw [Hid, HLN.out]; cases pairsJ s.data.toList (rdJ s.data.toList f) (s.size + 1) (p + 1) <;> simp⟩
    case round =>
      obtain ⟨m, y, pos, ts, xs, ks, hmt, hty, hys, hsr, hbt, hit, hkl, hkz, HPO, HIJ⟩ := hrel
      obtain ⟨m, rfl⟩ : ∃ m', m = m' + 1 := ⟨m - 1, by omega⟩
      have HS := hideIt hsr
      have HBT := hideIt hbt
      have HIT := hideIt hit
      have HKZ := hideIt hkz
      have zr := hbt.size
      obtain ⟨ai, ci, ei⟩ := own_slice hit.row
      obtain ⟨ak, ck, ek⟩ := own_slice hit.krow
      obtain ⟨k, hlen⟩ : ∃ k, ts.length = k := ⟨_, rfl⟩
      rw [hkl, hlen] at ek
      rw [hlen] at ei hmt hty hkl
      have HLEN := hideIt hlen
      have HKL := hideIt hkl
      subst ei ek
      have HC := hideIt (readText_any hsr hs)
      clear hsr hbt hit hlen hkl hkz
      go_wp2_with fail
      refine HC.out.mono ?_
      rintro e w3 ⟨⟨l, q1, hq34, htx, rfl, hs3⟩ | ⟨hno, rfl⟩, hbt3⟩
      · have HQ34 := hideIt hq34
        have HTX := hideIt htx
        obtain ⟨x1, x2, x3, _⟩ := txJ_says _ _ _ _ (Nat.le_refl _) htx
        rw [HLN.out] at x2
        have hz4 : (txt l).size ≤ 4000 := by rw [txt_size]; omega
        obtain ⟨z, hz⟩ : ∃ z, txt l = z := ⟨_, rfl⟩
        have HZ := hideIt hz
        rw [hz] at hz4 ⊢
        have HS3 := hideIt hs3
        have HIT3 := hideIt (HIT.out.read hbt3 hrb)
        have HBT3 := hideIt (HBT.out.trans hbt3)
        have z3 := hbt3.size
        have HLK : Hid (∀ b, (Value.slice ak k ck).ownBlock = some b → w.heap.size ≤ b ∧ b < wr.heap.size) := fun b hb' => HIT.out.krow.lt b hb'
        have HLI2 : Hid (∀ b, (Value.slice ai k ci).ownBlock = some b → w.heap.size ≤ b ∧ b < wr.heap.size) := fun b hb' => HIT.out.row.lt b hb'
        have HRO : Hid (w3.ownsRow w.heap.size 9 1 (.slice ak k ck) k (ks.map Value.string)) := by have := HIT3.out.krow; rw [HKL.out] at this; exact this
        clear hq34 htx hz hs3 hbt3
        go_wp2_with (at_builtin; refine wpList_append_own_at _ rfl _ _ 52 rfl w.heap.size 9 j1 (.string ByteArray.empty) 1 16 Tryz.underlying52 hj1 hzj hsj hyj rfl (by decide) _ _ _ rfl (HRO.out.alloc _) ⟨w3.heap.size, 0, none⟩ 1 1 [.string z] rfl rfl ?c1 ?c2 ?c3 ?c4 ?c5 ?_)
        case c1 => exact cell_one_new _ _ _
        case c2 => intro u hu; simp at hu; subst hu; rfl
        case c3 => unfold maxLen; omega
        case c4 => omega
        case c5 => simp; omega
        intro v' w5 hown hgrow _ hat
        have HIT5 := hideIt (HIT3.out.key (s := z) (by rw [HKL.out]; exact hown) (by exact hgrow) (by simpa using hat))
        have hga := (World.grownBy_alloc w3 (.cells #[.string z] 9) (Value.slice ak k ck).ownBlock).trans hgrow
        have HBT5 := hideIt (HBT3.out.grown (base := 0) hga (fun x hx => (HLK.out x hx).1))
        have HS5 := hideIt (HS3.out.grown hga (fun x hx => by have := (HLK.out x hx).1; omega))
        have z5 := hga.size
        have HKB : Hid (∀ b, v'.ownBlock = some b → b < w5.heap.size) := fun b hb' => (hown.lt b hb').2
        obtain ⟨ak5, ck5, ek5⟩ := own_slice hown
        subst ek5
        have HSK := hideIt (skip_any HS5.out (by omega))
        have HKK := hideB (runJ_ge blankC s.data.toList q1)
        obtain ⟨y1, hyq1⟩ : ∃ y1, skipJ s.data.toList q1 = y1 := ⟨_, rfl⟩
        have HY1 := hideIt hyq1
        rw [hyq1] at HSK
        have hqy : q1 ≤ y1 := by have a1 : q1 ≤ skipJ s.data.toList q1 := HKK.out; rw [hyq1] at a1; exact a1
        clear hown hgrow hat hga hyq1
        go_wp2_with fail
        refine HSK.out.mono ?_
        rintro e w6 ⟨rfl, hs6, hb6⟩
        have HS6 := hideIt hs6
        have HBT6 := hideIt (HBT5.out.trans hb6)
        have HIT6 := hideIt (HIT5.out.read hb6 hrb)
        have z6 := hb6.size
        clear hs6 hb6
        cases h58 : isAt s.data.toList y1 58
        · have HNO : Hid (mapJ s.data.toList (rdJ s.data.toList f) (p + 1) = none) := by rw [Hid, HLI.out, HIJ.out, pairsJ_nokey (keyJ_bad (by rw [HPO.out]; exact HQ34.out) (by rw [HPO.out]; exact HTX.out) (by rw [HY1.out]; exact h58))]; rfl
          have HM2 := hideIt (must_no HS6.out (by omega) (by omega) h58)
          clear h58
          go_wp2_with fail
          refine HM2.out.mono ?_
          rintro e w7 ⟨rfl, hb7⟩
          have HBT7 := hideIt (HBT6.out.trans hb7)
          clear hb7
          unfold gup
          go_wp2_with fail
          exact ⟨rfl, .inr ⟨HNO.out, rfl⟩, HBT7.out⟩
        · have HKEY : Hid (keyR s.data.toList pos = some (z, y1 + 1)) := by
            have := keyJ_yes (L := s.data.toList) (p := pos) (by rw [HPO.out]; exact HQ34.out) (by rw [HPO.out]; exact HTX.out) (by rw [HY1.out]; exact h58)
            rw [HZ.out, HY1.out] at this
            exact this
          have HM2 := hideIt (must_yes HS6.out (by omega) h58)
          have HK5 := hideB (runJ_ge blankC s.data.toList (y1 + 1))
          obtain ⟨y2, hy2⟩ : ∃ y2, skipJ s.data.toList (y1 + 1) = y2 := ⟨_, rfl⟩
          have hyy : y1 + 1 ≤ y2 := by have a1 : y1 + 1 ≤ skipJ s.data.toList (y1 + 1) := HK5.out; rw [hy2] at a1; exact a1
          have HRY : Hid (rdJ s.data.toList f y2 = rdJ s.data.toList f (y1 + 1)) := by rw [Hid, ← hy2, rdJ_skip]
          rw [hy2] at HM2
          clear h58 hy2
          go_wp2_with fail
          refine HM2.out.mono ?_
          rintro e w7 ⟨rfl, hs7, hb7⟩
          have HBT7 := hideIt (HBT6.out.trans hb7)
          have HIT7 := hideIt (HIT6.out.read hb7 hrb)
          have z7 := hb7.size
          have HC2 := hideIt (HA.out y2 w7 hs7 (by omega))
          clear hs7 hb7
          go_wp2_with fail
          refine HC2.out.mono ?_
          rintro e w8 ⟨⟨t, q, x, hr, rfl, htr, hs8, hyq⟩ | ⟨hr, rfl⟩, hbt8⟩
          · obtain ⟨ty, xx, rfl⟩ := htr.iface
            rw [HRY.out] at hr
            have HRD := hideIt hr
            have HTR := hideIt htr
            have HIT8 := hideIt (HIT7.out.read hbt8 hrb)
            have HBT8 := hideIt (HBT7.out.trans hbt8)
            have HS8 := hideIt hs8
            have hqs := hs8.br.le
            have z8 := hbt8.size
            have HRO2 : Hid (w8.ownsRow w.heap.size 36 1 (.slice ai k ci) k xs) := by have := HIT8.out.row; rw [HLEN.out] at this; exact this
            have HKZ2 := hideIt (key_snoc_le HKZ.out hz4)
            have zz7 : wr.heap.size ≤ w7.heap.size := by omega
            have zz5 : w5.heap.size ≤ w7.heap.size := by omega
            clear hr htr hs8 hbt8
            go_wp2_with (at_builtin; refine wpList_append_own_at _ rfl _ _ 69 rfl w.heap.size 36 i1 .nilIface 1 16 Tryz.underlying69 hi1 hz1 hs1 hy1 rfl (by decide) _ _ _ rfl (HRO2.out.alloc _) ⟨w8.heap.size, 0, none⟩ 1 1 [.iface ty xx] rfl rfl ?d1 ?d2 ?d3 ?d4 ?d5 ?_)
            case d1 => exact cell_one_new _ _ _
            case d2 => intro u hu; simp at hu; subst hu; rfl
            case d3 => unfold maxLen; omega
            case d4 => omega
            case d5 => simp; omega
            intro v6 w9 hown hgrow _ hat
            have HIT9 := hideIt (HIT8.out.item (wr := w7) (Nat.le_trans zr zz7) (fun b hb' => Nat.lt_of_lt_of_le (HLI2.out b (by rw [← hb'])).2 zz7) (fun b hb' => Nat.lt_of_lt_of_le (HKB.out b hb') zz5) HTR.out (by rw [HLEN.out]; exact hown) (by exact hgrow) (by exact hat))
            have hga := (World.grownBy_alloc w8 (.cells #[.iface ty xx] 36) (Value.slice ai k ci).ownBlock).trans hgrow
            have HBT9 := hideIt (HBT8.out.grown (base := 0) hga (fun x hx => (HLI2.out x hx).1))
            have HS9 := hideIt (HS8.out.grown hga (fun x hx => by have := (HLI2.out x hx).1; omega))
            obtain ⟨a9, c9, e9⟩ := own_slice hown
            subst e9
            clear hown hgrow hat hga
            cases he2 : isAt s.data.toList q 125
            · have HE2 := hideIt he2
              have HT2 := hideIt (took_no HS9.out (by omega) (by omega) he2)
              clear he2
              go_wp2_with fail
              refine HT2.out.mono ?_
              rintro e wA ⟨rfl, hsA, hbA⟩
              have HSA := hideIt hsA
              have HBTA := hideIt (HBT9.out.trans hbA)
              have HITA := hideIt (HIT9.out.read hbA hrb)
              clear hsA hbA
              cases he3 : isAt s.data.toList q 44
              · have HNO : Hid (mapJ s.data.toList (rdJ s.data.toList f) (p + 1) = none) := by rw [Hid, HLI.out, HIJ.out, pairsJ_bad HKEY.out HRD.out HE2.out he3]; rfl
                have HM3 := hideIt (must_no HSA.out (by omega) (by omega) he3)
                clear he3
                go_wp2_with fail
                refine HM3.out.mono ?_
                rintro e wB ⟨rfl, hbB⟩
                have HBTB := hideIt (HBTA.out.trans hbB)
                clear hbB
                unfold gup
                go_wp2_with fail
                exact ⟨rfl, .inr ⟨HNO.out, rfl⟩, HBTB.out⟩
              · have HIJ2 : Hid (pairsJ s.data.toList (rdJ s.data.toList f) (s.data.toList.length + 1) (p + 1) = (pairsJ s.data.toList (rdJ s.data.toList f) m (q + 1)).map (fun y => ((ks ++ [z]) ++ y.1, (ts ++ [t]) ++ y.2.1, y.2.2))) := by rw [Hid, HIJ.out, pairsJ_next HKEY.out HRD.out HE2.out he3]; exact prs_push
                have hq1 : q < s.size := by have := (isAt_yes.1 he3).1; rw [HLN.out] at this; exact this
                have HK2 := hideB (runJ_ge blankC s.data.toList (q + 1))
                have HK3 := hideB (runJ_le (P := blankC) (L := s.data.toList) (p := q + 1) (by rw [HLN.out]; omega))
                have HM3 := hideIt (must_yes HSA.out (by omega) he3)
                clear he3
                go_wp2_with fail
                refine HM3.out.mono ?_
                rintro e wB ⟨rfl, hsB, hbB⟩
                have HSB := hideIt hsB
                have HBTB := hideIt (HBTA.out.trans hbB)
                have HITB := hideIt (HITA.out.read hbB hrb)
                clear hsB hbB
                go_wp2_with fail
                go_roundw
                case rel =>
                  have a1 : q + 1 ≤ skipJ s.data.toList (q + 1) := HK2.out
                  have a2 : skipJ s.data.toList (q + 1) ≤ s.size := by have := HK3.out; rw [HLN.out] at this; exact this
                  exact ⟨m, skipJ s.data.toList (q + 1), q + 1, ts ++ [t], _, ks ++ [z], by rw [List.length_append, HLEN.out]; simp; omega, by rw [List.length_append, HLEN.out]; simp; omega, a2, HSB.out, HBTB.out, HITB.out, by rw [List.length_append, List.length_append, HLEN.out, HKL.out]; rfl, HKZ2.out, rfl, HIJ2.out⟩
                case measure =>
                  have a1 : q + 1 ≤ skipJ s.data.toList (q + 1) := HK2.out
                  have a2 : skipJ s.data.toList (q + 1) ≤ s.size := by have := HK3.out; rw [HLN.out] at this; exact this
                  rw [HS.out.placeOf, HSB.out.placeOf]; omega
            · have HYES : Hid (mapJ s.data.toList (rdJ s.data.toList f) (p + 1) = some (mapT (ks ++ [z]) (ts ++ [t]), q + 1)) := by rw [Hid, HLI.out, HIJ.out, pairsJ_end HKEY.out HRD.out he2]; rfl
              have HT2 := hideIt (took_yes HS9.out (by omega) he2)
              have HK2 := hideB (runJ_ge blankC s.data.toList (q + 1))
              clear he2
              go_wp2_with fail
              refine HT2.out.mono ?_
              rintro e wA ⟨rfl, hsA, hbA⟩
              have HSA := hideIt hsA
              have HBTA := hideIt (HBT9.out.trans hbA)
              have HITA := hideIt (HIT9.out.read hbA hrb)
              have zA := HBTA.out.size
              have HL1 : Hid ((ks ++ [z]).length = k + 1) := by rw [Hid, List.length_append, HKL.out]; rfl
              have HL2 : Hid ((ts ++ [t]).length = k + 1) := by rw [Hid, List.length_append, HLEN.out]; rfl
              obtain ⟨K2, hK2⟩ : ∃ K2, ks ++ [z] = K2 := ⟨_, rfl⟩
              obtain ⟨T2, hT2⟩ : ∃ T2, ts ++ [t] = T2 := ⟨_, rfl⟩
              rw [hK2] at HL1 HITA HYES HKZ2
              rw [hT2] at HL2 HITA HYES
              have HST := hideIt (HITA.out.strs (by rw [HL1.out]; omega) (fun i hi => by have := HKZ2.out i hi; omega))
              have HI : Hid (ItsAt wA (.slice a9 (k + 1) c9) K2.length (fun j => (xs ++ [Value.iface ty xx]).getD j .nilIface)) := by have := HITA.out.its; rw [HL2.out] at this; rw [HL1.out]; exact this
              clear hsA hbA hK2 hT2
              go_wp2_with fail
              refine (sortedMap_any wA.heap.size _ _ K2 _ wA HST.out HI.out (Nat.le_refl _) (by rw [HL1.out]; omega)).mono ?_
              rintro e wB ⟨g, k2, i2, rfl, hg, hok, hoi, hb2⟩
              have HMP := hideIt (HITA.out.map (by rw [HL1.out, HL2.out]) zA (by rw [HL2.out]; omega) (fun i hi => by have := HKZ2.out i hi; omega) hg hok hoi hb2)
              have HBTB := hideIt (HBTA.out.next (hb2.mono zA))
              have HSB := hideIt (HSA.out.below hb2)
              clear hg hok hoi hb2
              go_wp2_with fail
              go_ret
              exact ⟨.inl ⟨mapT K2 T2, q + 1, _, skipJ s.data.toList (q + 1), HYES.out, rfl, HMP.out, HSB.out, runJ_idem _ _ _, by have : q + 1 ≤ skipJ s.data.toList (q + 1) := HK2.out; omega⟩, HBTB.out⟩
          · rw [HRY.out] at hr
            have HNO : Hid (mapJ s.data.toList (rdJ s.data.toList f) (p + 1) = none) := by rw [Hid, HLI.out, HIJ.out, pairsJ_none HKEY.out hr]; rfl
            have HBT8 := hideIt (HBT7.out.trans hbt8)
            clear hr hbt8
            unfold gup
            go_wp2_with fail
            exact ⟨rfl, .inr ⟨HNO.out, rfl⟩, HBT8.out⟩
      · have HNO : Hid (mapJ s.data.toList (rdJ s.data.toList f) (p + 1) = none) := by rw [Hid, HLI.out, HIJ.out, pairsJ_nokey (keyJ_no (by rw [HPO.out]; exact hno))]; rfl
        have HBT3 := hideIt (HBT.out.trans hbt3)
        clear hno hbt3
        unfold gup
        go_wp2_with fail
        exact ⟨rfl, .inr ⟨HNO.out, rfl⟩, HBT3.out⟩
  · have HLI : Hid (mapJ s.data.toList (rdJ s.data.toList f) (p + 1) = some (mapT [] [], skipJ s.data.toList (p + 1) + 1)) := by rw [Hid]; unfold mapJ; rw [if_pos he]
    have HE := hideB he
    have HK2 := hideB (runJ_ge blankC s.data.toList (skipJ s.data.toList (p + 1) + 1))
    clear he
    go_enter Tryz.func99, Tryz.ntmps99
    go_wp2_with fail
    refine HM.out.mono ?_
    rintro e w1 ⟨rfl, hr1, hb1⟩
    have HT := hideB (took_yes hr1 (by omega) HE.out)
    have HB1 := hideB hb1
    clear hr1 hb1
    go_wp2_with fail
    refine HT.out.mono ?_
    rintro e w2 ⟨rfl, hr2, hb2⟩
    have HR2 := hideB hr2
    have HB2 := hideB (HB1.out.trans hb2)
    have HL2 := hideIt (map_none (NewB w w2) w2 f)
    clear hr2 hb2
    go_wp2_with fail
    go_ret
    refine ⟨.inl ⟨mapT [] [], _, _, _, HLI.out, rfl, HL2.out, HR2.out, runJ_idem _ _ _, ?_⟩, HB2.out⟩
    have a1 : p + 1 ≤ skipJ s.data.toList (p + 1) := HK1.out
    have a2 : skipJ s.data.toList (p + 1) + 1 ≤ skipJ s.data.toList (skipJ s.data.toList (p + 1) + 1) := HK2.out
    omega
end Go.Proofs.YtagcgnhpdmhegaaGreatDoor
