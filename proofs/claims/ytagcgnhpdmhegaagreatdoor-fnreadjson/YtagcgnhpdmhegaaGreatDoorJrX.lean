/-
  The program's jsonReader: a word, a number.
-/
import Derived.Test.YtagcgnhpdmhegaaGreatDoorJrW
namespace Go.Proofs.YtagcgnhpdmhegaaGreatDoor
open Go.RowKit
set_option linter.unusedSimpArgs false
set_option linter.unusedVariables false

set_option maxRecDepth 100000 in
set_option maxHeartbeats 1600000 in
theorem prefix0_any (t u : ByteArray) (w : World) (ht : t.size ≤ 1048576) (hu : u.size ≤ 1048576) :
    Calls Tryz.prog 121 #[.string t, .string u] w fun e w' => e = .returned (.bool (decide (t.data.toList.take u.size = u.data.toList))) ∧ w' = w := by
  have HLT := hideB (len_is t)
  have HLU := hideB (len_is u)
  by_cases hl : u.size ≤ t.size
  · have hl' : (u.size : Int) ≤ (t.size : Int) := by omega
    go_enter Tryz.func121, Tryz.ntmps121
    go_wp2_with fail
    go_ret
    refine ⟨?_, rfl⟩
    have e1 : ∀ b c : Bool, b = c → Ending.returned (.bool b) = Ending.returned (.bool c) := fun b c h => by rw [h]
    refine e1 _ _ ?_
    rw [Lib.toList_data, Lib.toList_data, cut_txt, bytes_txt, List.drop_zero, Nat.sub_zero]
    rw [Bool.eq_iff_iff]
    simp
  · have hl' : ¬ (u.size : Int) ≤ (t.size : Int) := by omega
    have HE : Hid (decide (t.data.toList.take u.size = u.data.toList) = false) := by
      rw [Hid, decide_eq_false_iff_not]
      intro e
      have := congrArg List.length e
      rw [List.length_take, HLT.out, HLU.out] at this
      omega
    rw [HE.out]
    go_enter Tryz.func121, Tryz.ntmps121
    go_wp2_with fail
    go_ret
    exact ⟨rfl, rfl⟩

set_option maxRecDepth 100000 in
set_option maxHeartbeats 1600000 in
theorem prefix_any (t u : ByteArray) (w : World) (ht : t.size ≤ 1048576) (hu : u.size ≤ 1048576) :
    Calls Tryz.prog 109 #[.string t, .string u] w fun e w' => e = .returned (.bool (decide (t.data.toList.take u.size = u.data.toList))) ∧ w' = w := by
  have HP := hideB (prefix0_any t u w ht hu)
  go_enter Tryz.func109, Tryz.ntmps109
  go_wp2_with fail
  refine HP.out.mono ?_
  rintro e w1 ⟨rfl, rfl⟩
  go_wp2_with fail
  go_ret
  exact ⟨rfl, rfl⟩
theorem word_prefix {s u : ByteArray} {p : Nat} : decide ((s.extract p s.size).data.toList.take u.size = u.data.toList) = wordAt s.data.toList p u.data.toList := by
  unfold wordAt
  rw [cut_txt, bytes_txt, len_is]
  have e : (s.data.toList.drop p).take (s.size - p) = s.data.toList.drop p := List.take_of_length_le (by rw [List.length_drop, len_is]; omega)
  rw [e]

set_option maxRecDepth 100000 in
set_option maxHeartbeats 1600000 in
theorem readWord_any {rb p : Nat} {s : ByteArray} {w : World} (h : SrAt w rb s p) (hs : s.size ≤ 1048576) (u : ByteArray) (hu : u.size ≤ 1000) (hu0 : u.data.toList ≠ []) :
    Calls Tryz.prog 96 #[.pointer (some ⟨rb, 0, none⟩), .string u] w fun e w' => ((wordAt s.data.toList p u.data.toList = true ∧ e = .returned (.tuple #[]) ∧ SrAt w' rb s (p + u.size)) ∨ (wordAt s.data.toList p u.data.toList = false ∧ e = gup)) ∧ But rb w w' := by
  have H := hideB h
  have h1 := h.br.src
  have h2 := h.br.place
  have h4 := h.br.lt
  have h5 := h.br.le
  clear h
  have HPX : Hid (∀ w, Calls Tryz.prog 109 #[.string (s.extract p s.size), .string u] w fun e w' => e = .returned (.bool (wordAt s.data.toList p u.data.toList)) ∧ w' = w) := fun w => by
    have := prefix_any (s.extract p s.size) u w (by simp; omega) (by omega)
    rw [word_prefix] at this
    exact this
  have HLE : Hid (wordAt s.data.toList p u.data.toList = true → p + u.size ≤ s.size) := fun e => by
    have := wordAt_le e hu0
    rw [len_is, len_is] at this
    exact this
  obtain ⟨b, hb⟩ : ∃ b, wordAt s.data.toList p u.data.toList = b := ⟨_, rfl⟩
  rw [hb] at HPX HLE ⊢
  clear hb
  go_enter Tryz.func96, Tryz.ntmps96
  go_wp2_with fail
  go_quiet ((go_at_call 109; exact Calls.quiet_of_same (HPX.out _)))
  have HD := hideB (below_drewB (w := w) nq)
  have HR := hideB (H.out.below HD.out)
  have k2 := HR.out.br.place
  have k3 := HR.out.br.free
  have k4 := HR.out.br.lt
  generalize w.drewN nq = W1 at HR HD k2 k3 k4 ⊢
  clear nq h1 h2
  cases b
  · go_wp2_with fail
    first
      | exact ⟨rfl, .inr ⟨rfl, rfl⟩, But.of_below HD.out⟩
      | exact ⟨rfl, rfl, But.of_below HD.out⟩
      | exact ⟨rfl, ⟨rfl, But.of_below HD.out⟩⟩
  · have hle := HLE.out rfl
    have e1 : ((p : Int) + (u.size : Int)) = ((p + u.size : Nat) : Int) := by omega
    obtain ⟨W2, hW2⟩ : ∃ W2, W1.setCell ⟨rb, 1, none⟩ (.int .i64 ((p : Int) + (u.size : Int))) = W2 := ⟨_, rfl⟩
    have HR2 : Hid (SrAt W2 rb s (p + u.size)) := by rw [Hid, ← hW2, e1]; exact HR.out.to hle
    have HB2 : Hid (But rb w W2) := (But.of_below HD.out).trans (by rw [← hW2]; exact But.of_set _ _)
    clear e1
    go_wp2_with fail
    go_end0
    first
      | exact ⟨.inl ⟨rfl, rfl, HR2.out⟩, HB2.out⟩
      | exact ⟨⟨rfl, HR2.out⟩, HB2.out⟩
theorem retN {a b : Int} (h : a = b) : Ending.returned (.int .i64 a) = .returned (.int .i64 b) := by rw [h]
theorem numJ_of {L : List UInt8} {p q z : Nat} {neg : Bool} (hn : isAt L p 45 = neg) (hq : q = if neg = true then p + 1 else p) (hz : dgJ L q = z) :
    numJ L p = if z = q ∨ (q + 1 < z ∧ byAt L q = 48) ∨ 1000000000000000 < valF L q (z - q) then none else some (if neg = true then -((valF L q (z - q) : Nat) : Int) else ((valF L q (z - q) : Nat) : Int), z) := by
  have e : numAt L p = q := by unfold numAt; rw [hn, hq]
  unfold numJ
  rw [e, hz, hn]

set_option maxRecDepth 100000 in
set_option maxHeartbeats 3200000 in
theorem readNumber_any {rb p : Nat} {s : ByteArray} {w : World} (h : SrAt w rb s p) (hs : s.size ≤ 4000) :
    Calls Tryz.prog 100 #[.pointer (some ⟨rb, 0, none⟩)] w fun e w' => ((∃ v q, numJ s.data.toList p = some (v, q) ∧ e = .returned (.int .i64 v) ∧ SrAt w' rb s q) ∨ (numJ s.data.toList p = none ∧ e = gup)) ∧ But rb w w' := by
  have H := hideB h
  have hps := h.br.le
  have HLN := hideB (len_is s)
  have HPK := hideB (peek_any h.br (by omega))
  clear h
  obtain ⟨neg, hneg⟩ : ∃ neg, isAt s.data.toList p 45 = neg := ⟨_, rfl⟩
  have HNG := hideB hneg
  have HBY : Hid ((neg = true → byAt s.data.toList p = 45 ∧ p < s.size) ∧ (neg = false → byAt s.data.toList p ≠ 45)) := by
    refine ⟨fun e => ?_, fun e h45 => ?_⟩
    · rw [e] at hneg; have := isAt_yes.1 hneg; rw [HLN.out] at this; exact ⟨this.2, this.1⟩
    · rw [e] at hneg
      by_cases hp : p < s.data.toList.length
      · exact isAt_no.1 hneg ⟨hp, h45⟩
      · rw [byAt_past (by omega)] at h45; omega
  obtain ⟨c, hc⟩ : ∃ c, byAt s.data.toList p = c := ⟨_, rfl⟩
  rw [hc] at HPK HBY
  clear hc hneg
  cases neg
  · have hne := HBY.out.2 rfl
    have q1 : ((c : Int) == 45) = false := by simp; omega
    have q1' : ¬ (c : Int) = 45 := by omega
    go_enter Tryz.func100, Tryz.ntmps100
    go_wp2_with fail
    refine HPK.out.mono ?_
    rintro e w1 ⟨rfl, hb1⟩
    have HR2 := hideB (H.out.below hb1)
    have HB2 : Hid (But rb w w1) := But.of_below hb1
    have k2 := HR2.out.br.place
    clear hb1
    obtain ⟨q0, hq0⟩ : ∃ q0, q0 = if false = true then p + 1 else p := ⟨_, rfl⟩
    have HQ0 := hideB hq0
    have e0 : q0 = p := by rw [hq0]; rfl
    clear hq0
    rw [← e0] at HR2 k2 hps
    clear e0
    go_wp2_with fail
    go_loopw [5] (fun n wr => ∃ (k v : Nat), n = .int .i64 (v : Int) ∧ Hid (v = valF s.data.toList q0 k) ∧ v ≤ 1000000000000000 ∧ q0 + k ≤ s.size ∧ Hid (dgJ s.data.toList q0 = dgJ s.data.toList (q0 + k)) ∧ SrAt wr rb s (q0 + k) ∧ But rb w wr) (fun _ wr => s.size + 1 - placeOf wr rb)
    case atStart => exact ⟨0, 0, rfl, rfl, by omega, by omega, rfl, HR2.out, HB2.out⟩
    case round =>
      obtain ⟨k, v, rfl, HV, hv, hqk, HDG, hsr, hbt⟩ := hrel
      have HS := hideB hsr
      have HBT := hideB hbt
      clear hsr hbt
      obtain ⟨c, hc⟩ : ∃ c, byAt s.data.toList (q0 + k) = c := ⟨_, rfl⟩
      have HC := hideB hc
      have hc256 := byAt_lt s.data.toList (q0 + k)
      have HPK1 := hideB (peek_any HS.out.br (by omega))
      rw [hc] at HPK1 hc256
      clear hc
      by_cases hdig : 48 ≤ c ∧ c ≤ 57
      · obtain ⟨g1, g2⟩ := hdig
        have g1' : (48 : Int) ≤ (c : Int) := by omega
        have g2' : (c : Int) ≤ 57 := by omega
        have hlt : q0 + k < s.size := by
          by_cases e : q0 + k < s.size
          · exact e
          · have := HC.out
            rw [byAt_past (by rw [HLN.out]; omega)] at this
            omega
        have HVS : Hid (10 * v + (c - 48) = valF s.data.toList q0 (k + 1)) := by rw [Hid, valF, ← HV.out, HC.out]
        have HDS : Hid (dgJ s.data.toList q0 = dgJ s.data.toList (q0 + (k + 1))) := by
          rw [Hid, HDG.out]
          exact runJ_yes (by rw [HLN.out]; exact hlt) (by rw [HC.out]; unfold digC; simp; omega)
        go_wp2_with fail
        refine HPK1.out.mono ?_
        rintro e w3 ⟨rfl, hb3⟩
        have HB3 := hideB hb3
        have HS3 := hideB (HS.out.below hb3)
        have HPK2 := hideB (peek_any HS3.out.br (by omega))
        rw [HC.out] at HPK2
        clear hb3
        go_wp2_with fail
        refine HPK2.out.mono ?_
        rintro e w4 ⟨rfl, hb4⟩
        have HB4 := hideB (HB3.out.trans (hb4.mono HB3.out.size))
        have HS4 := hideB (HS3.out.below hb4)
        have HNX := hideB (nextS_yes HS4.out hlt (by omega))
        rw [byS hlt, HC.out] at HNX
        clear hb4
        go_wp2_with fail
        refine HNX.out.mono ?_
        rintro e w5 ⟨rfl, hr5, hb5⟩
        have HR5 := hideB hr5
        have HB5 := hideB ((HBT.out.trans (But.of_below HB4.out)).trans hb5)
        have hw1 : IntKind.u8.wrap ((c : Int) - 48) = (c : Int) - 48 := u8_wrap (by omega) (by omega)
        clear hr5 hb5
        by_cases hbig : 1000000000000000 < 10 * v + (c - 48)
        · have hbig' : (1000000000000000 : Int) < 10 * (v : Int) + ((c : Int) - 48) := by omega
          have HNO : Hid (numJ s.data.toList p = none) := by
            rw [Hid, numJ_of HNG.out HQ0.out rfl, if_pos]
            refine .inr (.inr ?_)
            have h1 := runJ_ge digC s.data.toList (q0 + (k + 1))
            have h2 := HDS.out
            have h3 : valF s.data.toList q0 (k + 1) ≤ valF s.data.toList q0 (dgJ s.data.toList q0 - q0) := valF_mono _ _ (by show k + 1 ≤ runJ digC s.data.toList q0 - q0; have h2' : runJ digC s.data.toList q0 = runJ digC s.data.toList (q0 + (k + 1)) := h2; omega)
            rw [← HVS.out] at h3
            omega
          go_wp2_with fail
          exact ⟨rfl, .inr ⟨HNO.out, rfl⟩, HB5.out⟩
        · have hbig' : ¬ (1000000000000000 : Int) < 10 * (v : Int) + ((c : Int) - 48) := by omega
          go_wp2_with fail
          go_roundw
          case rel => exact ⟨k + 1, 10 * v + (c - 48), by rw [show ((10 * v + (c - 48) : Nat) : Int) = 10 * (v : Int) + ((c : Int) - 48) by omega], HVS.out, by omega, by omega, HDS.out, HR5.out, HB5.out⟩
          case measure => rw [HS.out.placeOf, HR5.out.placeOf]; omega
      · have HZ : Hid (dgJ s.data.toList q0 = q0 + k) := by
          rw [Hid, HDG.out]
          refine runJ_no (fun e => hdig ?_)
          have := e.2
          rw [HC.out] at this
          unfold digC at this
          simpa using this
        have HNJ := hideB (numJ_of HNG.out HQ0.out HZ.out)
        rw [show q0 + k - q0 = k by omega, ← HV.out] at HNJ
        obtain ⟨z, hz⟩ : ∃ z, q0 + k = z := ⟨_, rfl⟩
        rw [hz] at HS HNJ hqk
        have hqz : q0 ≤ z := by omega
        have HEND : Hid (∀ W, Below wr.heap.size wr W → SrAt W rb s z ∧ But rb w W) := fun W hb => ⟨HS.out.below hb, HBT.out.trans (But.of_below hb)⟩
        obtain ⟨T, hT⟩ : ∃ T, s.extract q0 z = T := ⟨_, rfl⟩
        have hTl : T.data.toList = (s.data.toList.drop q0).take k := by rw [← hT, cut_txt, bytes_txt, show z - q0 = k by omega]
        have hTs : T.size = k := by rw [← len_is, hTl, List.length_take, List.length_drop, HLN.out]; omega
        have HT0 : Hid (∀ h : 0 < T.size, T[0].toNat = byAt s.data.toList q0) := fun h => by
          rw [byS h, hTl]
          unfold byAt
          rw [List.getD_eq_getElem?_getD, List.getD_eq_getElem?_getD, List.getElem?_take, if_pos (by omega), List.getElem?_drop, Nat.add_zero]
        have hTE : (T.toList == ([] : List UInt8)) = decide (k = 0) := by
          have hl : T.data.toList.length = k := by rw [len_is]; exact hTs
          rw [Lib.toList_data]
          by_cases hk0 : k = 0
          · rw [decide_eq_true hk0, List.eq_nil_of_length_eq_zero (l := T.data.toList) (by rw [hl]; exact hk0)]; rfl
          · rw [decide_eq_false hk0]
            cases hh : T.data.toList with
            | nil => rw [hh] at hl; simp at hl; omega
            | cons a b => rfl
        have hnil : (⟨#[]⟩ : ByteArray).toList = [] := by rw [Lib.toList_data]
        have hTE2 : (T.toList == (⟨#[]⟩ : ByteArray).toList) = decide (k = 0) := by rw [hnil]; exact hTE
        clear hnil
        have HZE := hideB hz
        have HTS := hideB hTs
        clear hTl HV hz
        have HFIN : Hid (∀ W, Below wr.heap.size wr W → ((∃ v1 q1, numJ s.data.toList p = some (v1, q1) ∧ v1 = ((v : Int)) ∧ SrAt W rb s q1) ∨ numJ s.data.toList p = none) ∧ But rb w W) := fun W hb => ⟨by
          cases hn : numJ s.data.toList p with
          | none => exact .inr rfl
          | some x =>
            obtain ⟨v1, q1⟩ := x
            rw [HNJ.out] at hn
            split at hn
            · cases hn
            · simp only [Option.some.injEq, Prod.mk.injEq] at hn
              obtain ⟨rfl, rfl⟩ := hn
              exact .inl ⟨_, _, rfl, by simp, (HEND.out W hb).1⟩, (HEND.out W hb).2⟩
        have HSTART : Hid (∀ (Q : World → Prop), True) := fun _ => trivial
        by_cases hlo : c < 48
        · have g1' : ¬ (48 : Int) ≤ (c : Int) := by omega
          go_wp2_with fail
          refine HPK1.out.mono ?_
          rintro e w3 ⟨rfl, hb3⟩
          have HB3 := hideB hb3
          have HS3 := hideB (HS.out.below hb3)
          have n1 := HS3.out.br.src
          have n2 := HS3.out.br.place
          clear hb3
          go_wp2_with fail
          go_quiet (fail)
          have HD := hideB (below_drewB (w := w3) nq)
          have HBQ : Hid (Below wr.heap.size wr (w3.drewN nq)) := HB3.out.trans (HD.out.mono HB3.out.size)
          generalize w3.drewN nq = W at HBQ HD ⊢
          clear nq n1 n2
          by_cases hk0 : k = 0
          · have hd0 : decide (k = 0) = true := decide_eq_true hk0
            rw [hd0] at hTE hTE2
            have HNO : Hid (numJ s.data.toList p = none) := by rw [Hid, HNJ.out, if_pos (.inl (by have := HZE.out; omega))]
            clear hk0 hd0
            go_wp2_with fail
            exact ⟨rfl, .inr ⟨HNO.out, rfl⟩, (HEND.out W HBQ.out).2⟩
          · have hd0 : decide (k = 0) = false := decide_eq_false hk0
            rw [hd0] at hTE hTE2
            by_cases hk1 : 1 < k
            · have hk1' : (1 : Int) < (k : Int) := by omega
              have hT0p : 0 < T.size := by rw [hTs]; omega
              have HB0 := hideB (HT0.out hT0p)
              obtain ⟨c0, hc0⟩ : ∃ c0, T[0].toNat = c0 := ⟨_, rfl⟩
              have HC0 := hideB hc0
              by_cases h48 : c0 = 48
              · have HNO : Hid (numJ s.data.toList p = none) := by rw [Hid, HNJ.out, if_pos (.inr (.inl ⟨by have := HZE.out; omega, by rw [← HB0.out, HC0.out]; exact h48⟩))]
                subst h48
                go_wp2_with fail
                exact ⟨rfl, .inr ⟨HNO.out, rfl⟩, (HEND.out W HBQ.out).2⟩
              · have h48' : ((c0 : Int) == 48) = false := by simp; omega
                have HYES : Hid (∃ x, numJ s.data.toList p = some x) := by
                  rw [Hid, HNJ.out, if_neg]
                  · exact ⟨_, rfl⟩
                  · rintro (e | e | e)
                    · have := HZE.out; omega
                    · exact h48 (by rw [← HC0.out, HB0.out]; exact e.2)
                    · omega
                go_wp2_with fail
                go_ret
                refine ⟨.inl ?_, (HEND.out W HBQ.out).2⟩
                rcases (HFIN.out W HBQ.out).1 with ⟨v1, q1, n1, n2, n3⟩ | h
                · exact ⟨v1, q1, n1, retN n2.symm, n3⟩
                · obtain ⟨x, hx⟩ := HYES.out; rw [hx] at h; cases h
            · have hk1' : ¬ (1 : Int) < (k : Int) := by omega
              have HYES : Hid (∃ x, numJ s.data.toList p = some x) := by
                rw [Hid, HNJ.out, if_neg]
                · exact ⟨_, rfl⟩
                · rintro (e | e | e)
                  · have := HZE.out; omega
                  · have := HZE.out; omega
                  · omega
              go_wp2_with fail
              go_ret
              refine ⟨.inl ?_, (HEND.out W HBQ.out).2⟩
              rcases (HFIN.out W HBQ.out).1 with ⟨v1, q1, n1, n2, n3⟩ | h
              · exact ⟨v1, q1, n1, retN n2.symm, n3⟩
              · obtain ⟨x, hx⟩ := HYES.out; rw [hx] at h; cases h
        · have g1' : (48 : Int) ≤ (c : Int) := by omega
          have g2' : ¬ (c : Int) ≤ 57 := by omega
          go_wp2_with fail
          refine HPK1.out.mono ?_
          rintro e w2 ⟨rfl, hb2⟩
          have HB2' := hideB hb2
          have HS2 := hideB (HS.out.below hb2)
          have HPK2 := hideB (peek_any HS2.out.br (by omega))
          rw [← HZE.out, HC.out] at HPK2
          clear hb2
          go_wp2_with fail
          refine HPK2.out.mono ?_
          rintro e w3 ⟨rfl, hb3⟩
          have HB3 := hideB (HB2'.out.trans (hb3.mono HB2'.out.size))
          have HS3 := hideB (HS2.out.below hb3)
          have n1 := HS3.out.br.src
          have n2 := HS3.out.br.place
          clear hb3
          go_wp2_with fail
          go_quiet (fail)
          have HD := hideB (below_drewB (w := w3) nq)
          have HBQ : Hid (Below wr.heap.size wr (w3.drewN nq)) := HB3.out.trans (HD.out.mono HB3.out.size)
          generalize w3.drewN nq = W at HBQ HD ⊢
          clear nq n1 n2
          by_cases hk0 : k = 0
          · have hd0 : decide (k = 0) = true := decide_eq_true hk0
            rw [hd0] at hTE hTE2
            have HNO : Hid (numJ s.data.toList p = none) := by rw [Hid, HNJ.out, if_pos (.inl (by have := HZE.out; omega))]
            clear hk0 hd0
            go_wp2_with fail
            exact ⟨rfl, .inr ⟨HNO.out, rfl⟩, (HEND.out W HBQ.out).2⟩
          · have hd0 : decide (k = 0) = false := decide_eq_false hk0
            rw [hd0] at hTE hTE2
            by_cases hk1 : 1 < k
            · have hk1' : (1 : Int) < (k : Int) := by omega
              have hT0p : 0 < T.size := by rw [hTs]; omega
              have HB0 := hideB (HT0.out hT0p)
              obtain ⟨c0, hc0⟩ : ∃ c0, T[0].toNat = c0 := ⟨_, rfl⟩
              have HC0 := hideB hc0
              by_cases h48 : c0 = 48
              · have HNO : Hid (numJ s.data.toList p = none) := by rw [Hid, HNJ.out, if_pos (.inr (.inl ⟨by have := HZE.out; omega, by rw [← HB0.out, HC0.out]; exact h48⟩))]
                subst h48
                go_wp2_with fail
                exact ⟨rfl, .inr ⟨HNO.out, rfl⟩, (HEND.out W HBQ.out).2⟩
              · have h48' : ((c0 : Int) == 48) = false := by simp; omega
                have HYES : Hid (∃ x, numJ s.data.toList p = some x) := by
                  rw [Hid, HNJ.out, if_neg]
                  · exact ⟨_, rfl⟩
                  · rintro (e | e | e)
                    · have := HZE.out; omega
                    · exact h48 (by rw [← HC0.out, HB0.out]; exact e.2)
                    · omega
                go_wp2_with fail
                go_ret
                refine ⟨.inl ?_, (HEND.out W HBQ.out).2⟩
                rcases (HFIN.out W HBQ.out).1 with ⟨v1, q1, n1, n2, n3⟩ | h
                · exact ⟨v1, q1, n1, retN n2.symm, n3⟩
                · obtain ⟨x, hx⟩ := HYES.out; rw [hx] at h; cases h
            · have hk1' : ¬ (1 : Int) < (k : Int) := by omega
              have HYES : Hid (∃ x, numJ s.data.toList p = some x) := by
                rw [Hid, HNJ.out, if_neg]
                · exact ⟨_, rfl⟩
                · rintro (e | e | e)
                  · have := HZE.out; omega
                  · have := HZE.out; omega
                  · omega
              go_wp2_with fail
              go_ret
              refine ⟨.inl ?_, (HEND.out W HBQ.out).2⟩
              rcases (HFIN.out W HBQ.out).1 with ⟨v1, q1, n1, n2, n3⟩ | h
              · exact ⟨v1, q1, n1, retN n2.symm, n3⟩
              · obtain ⟨x, hx⟩ := HYES.out; rw [hx] at h; cases h
  · obtain ⟨hc45, hlt0⟩ := HBY.out.1 rfl
    subst hc45
    go_enter Tryz.func100, Tryz.ntmps100
    go_wp2_with fail
    refine HPK.out.mono ?_
    rintro e w1 ⟨rfl, hb1⟩
    have HR1 := hideB (H.out.below hb1)
    have k2 := HR1.out.br.place
    have k3 := HR1.out.br.free
    have k4 := HR1.out.br.lt
    obtain ⟨q0, hq0⟩ : ∃ q0, q0 = if true = true then p + 1 else p := ⟨_, rfl⟩
    have HQ0 := hideB hq0
    have e0 : q0 = p + 1 := by rw [hq0]; rfl
    clear hq0
    have e1 : ((p : Int) + 1) = (q0 : Int) := by omega
    obtain ⟨W2, hW2⟩ : ∃ W2, w1.setCell ⟨rb, 1, none⟩ (.int .i64 (q0 : Int)) = W2 := ⟨_, rfl⟩
    have HR2 : Hid (SrAt W2 rb s q0) := by rw [Hid, ← hW2]; exact HR1.out.to (by omega)
    have HB2 : Hid (But rb w W2) := (But.of_below hb1).trans (by rw [← hW2]; exact But.of_set _ _)
    have m2 := HR2.out.br.place
    clear hb1
    have hps : q0 ≤ s.size := by omega
    have HE0 := hideB e0
    clear e0
    go_wp2_with fail
    go_loopw [5] (fun n wr => ∃ (k v : Nat), n = .int .i64 (v : Int) ∧ Hid (v = valF s.data.toList q0 k) ∧ v ≤ 1000000000000000 ∧ q0 + k ≤ s.size ∧ Hid (dgJ s.data.toList q0 = dgJ s.data.toList (q0 + k)) ∧ SrAt wr rb s (q0 + k) ∧ But rb w wr) (fun _ wr => s.size + 1 - placeOf wr rb)
    case atStart => exact ⟨0, 0, rfl, rfl, by omega, by omega, rfl, HR2.out, HB2.out⟩
    case round =>
      obtain ⟨k, v, rfl, HV, hv, hqk, HDG, hsr, hbt⟩ := hrel
      have HS := hideB hsr
      have HBT := hideB hbt
      clear hsr hbt
      obtain ⟨c, hc⟩ : ∃ c, byAt s.data.toList (q0 + k) = c := ⟨_, rfl⟩
      have HC := hideB hc
      have hc256 := byAt_lt s.data.toList (q0 + k)
      have HPK1 := hideB (peek_any HS.out.br (by omega))
      rw [hc] at HPK1 hc256
      clear hc
      by_cases hdig : 48 ≤ c ∧ c ≤ 57
      · obtain ⟨g1, g2⟩ := hdig
        have g1' : (48 : Int) ≤ (c : Int) := by omega
        have g2' : (c : Int) ≤ 57 := by omega
        have hlt : q0 + k < s.size := by
          by_cases e : q0 + k < s.size
          · exact e
          · have := HC.out
            rw [byAt_past (by rw [HLN.out]; omega)] at this
            omega
        have HVS : Hid (10 * v + (c - 48) = valF s.data.toList q0 (k + 1)) := by rw [Hid, valF, ← HV.out, HC.out]
        have HDS : Hid (dgJ s.data.toList q0 = dgJ s.data.toList (q0 + (k + 1))) := by
          rw [Hid, HDG.out]
          exact runJ_yes (by rw [HLN.out]; exact hlt) (by rw [HC.out]; unfold digC; simp; omega)
        go_wp2_with fail
        refine HPK1.out.mono ?_
        rintro e w3 ⟨rfl, hb3⟩
        have HB3 := hideB hb3
        have HS3 := hideB (HS.out.below hb3)
        have HPK2 := hideB (peek_any HS3.out.br (by omega))
        rw [HC.out] at HPK2
        clear hb3
        go_wp2_with fail
        refine HPK2.out.mono ?_
        rintro e w4 ⟨rfl, hb4⟩
        have HB4 := hideB (HB3.out.trans (hb4.mono HB3.out.size))
        have HS4 := hideB (HS3.out.below hb4)
        have HNX := hideB (nextS_yes HS4.out hlt (by omega))
        rw [byS hlt, HC.out] at HNX
        clear hb4
        go_wp2_with fail
        refine HNX.out.mono ?_
        rintro e w5 ⟨rfl, hr5, hb5⟩
        have HR5 := hideB hr5
        have HB5 := hideB ((HBT.out.trans (But.of_below HB4.out)).trans hb5)
        have hw1 : IntKind.u8.wrap ((c : Int) - 48) = (c : Int) - 48 := u8_wrap (by omega) (by omega)
        clear hr5 hb5
        by_cases hbig : 1000000000000000 < 10 * v + (c - 48)
        · have hbig' : (1000000000000000 : Int) < 10 * (v : Int) + ((c : Int) - 48) := by omega
          have HNO : Hid (numJ s.data.toList p = none) := by
            rw [Hid, numJ_of HNG.out HQ0.out rfl, if_pos]
            refine .inr (.inr ?_)
            have h1 := runJ_ge digC s.data.toList (q0 + (k + 1))
            have h2 := HDS.out
            have h3 : valF s.data.toList q0 (k + 1) ≤ valF s.data.toList q0 (dgJ s.data.toList q0 - q0) := valF_mono _ _ (by show k + 1 ≤ runJ digC s.data.toList q0 - q0; have h2' : runJ digC s.data.toList q0 = runJ digC s.data.toList (q0 + (k + 1)) := h2; omega)
            rw [← HVS.out] at h3
            omega
          go_wp2_with fail
          exact ⟨rfl, .inr ⟨HNO.out, rfl⟩, HB5.out⟩
        · have hbig' : ¬ (1000000000000000 : Int) < 10 * (v : Int) + ((c : Int) - 48) := by omega
          go_wp2_with fail
          go_roundw
          case rel => exact ⟨k + 1, 10 * v + (c - 48), by rw [show ((10 * v + (c - 48) : Nat) : Int) = 10 * (v : Int) + ((c : Int) - 48) by omega], HVS.out, by omega, by omega, HDS.out, HR5.out, HB5.out⟩
          case measure => rw [HS.out.placeOf, HR5.out.placeOf]; omega
      · have HZ : Hid (dgJ s.data.toList q0 = q0 + k) := by
          rw [Hid, HDG.out]
          refine runJ_no (fun e => hdig ?_)
          have := e.2
          rw [HC.out] at this
          unfold digC at this
          simpa using this
        have HNJ := hideB (numJ_of HNG.out HQ0.out HZ.out)
        rw [show q0 + k - q0 = k by omega, ← HV.out] at HNJ
        obtain ⟨z, hz⟩ : ∃ z, q0 + k = z := ⟨_, rfl⟩
        rw [hz] at HS HNJ hqk
        have hqz : q0 ≤ z := by omega
        have HEND : Hid (∀ W, Below wr.heap.size wr W → SrAt W rb s z ∧ But rb w W) := fun W hb => ⟨HS.out.below hb, HBT.out.trans (But.of_below hb)⟩
        obtain ⟨T, hT⟩ : ∃ T, s.extract q0 z = T := ⟨_, rfl⟩
        have hTl : T.data.toList = (s.data.toList.drop q0).take k := by rw [← hT, cut_txt, bytes_txt, show z - q0 = k by omega]
        have hTs : T.size = k := by rw [← len_is, hTl, List.length_take, List.length_drop, HLN.out]; omega
        have HT0 : Hid (∀ h : 0 < T.size, T[0].toNat = byAt s.data.toList q0) := fun h => by
          rw [byS h, hTl]
          unfold byAt
          rw [List.getD_eq_getElem?_getD, List.getD_eq_getElem?_getD, List.getElem?_take, if_pos (by omega), List.getElem?_drop, Nat.add_zero]
        have hTE : (T.toList == ([] : List UInt8)) = decide (k = 0) := by
          have hl : T.data.toList.length = k := by rw [len_is]; exact hTs
          rw [Lib.toList_data]
          by_cases hk0 : k = 0
          · rw [decide_eq_true hk0, List.eq_nil_of_length_eq_zero (l := T.data.toList) (by rw [hl]; exact hk0)]; rfl
          · rw [decide_eq_false hk0]
            cases hh : T.data.toList with
            | nil => rw [hh] at hl; simp at hl; omega
            | cons a b => rfl
        have hnil : (⟨#[]⟩ : ByteArray).toList = [] := by rw [Lib.toList_data]
        have hTE2 : (T.toList == (⟨#[]⟩ : ByteArray).toList) = decide (k = 0) := by rw [hnil]; exact hTE
        clear hnil
        have HZE := hideB hz
        have HTS := hideB hTs
        clear hTl HV hz
        have HFIN : Hid (∀ W, Below wr.heap.size wr W → ((∃ v1 q1, numJ s.data.toList p = some (v1, q1) ∧ v1 = (-(v : Int)) ∧ SrAt W rb s q1) ∨ numJ s.data.toList p = none) ∧ But rb w W) := fun W hb => ⟨by
          cases hn : numJ s.data.toList p with
          | none => exact .inr rfl
          | some x =>
            obtain ⟨v1, q1⟩ := x
            rw [HNJ.out] at hn
            split at hn
            · cases hn
            · simp only [Option.some.injEq, Prod.mk.injEq] at hn
              obtain ⟨rfl, rfl⟩ := hn
              exact .inl ⟨_, _, rfl, by simp, (HEND.out W hb).1⟩, (HEND.out W hb).2⟩
        have HSTART : Hid (∀ (Q : World → Prop), True) := fun _ => trivial
        by_cases hlo : c < 48
        · have g1' : ¬ (48 : Int) ≤ (c : Int) := by omega
          go_wp2_with fail
          refine HPK1.out.mono ?_
          rintro e w3 ⟨rfl, hb3⟩
          have HB3 := hideB hb3
          have HS3 := hideB (HS.out.below hb3)
          have n1 := HS3.out.br.src
          have n2 := HS3.out.br.place
          clear hb3
          go_wp2_with fail
          go_quiet (fail)
          have HD := hideB (below_drewB (w := w3) nq)
          have HBQ : Hid (Below wr.heap.size wr (w3.drewN nq)) := HB3.out.trans (HD.out.mono HB3.out.size)
          generalize w3.drewN nq = W at HBQ HD ⊢
          clear nq n1 n2
          by_cases hk0 : k = 0
          · have hd0 : decide (k = 0) = true := decide_eq_true hk0
            rw [hd0] at hTE hTE2
            have HNO : Hid (numJ s.data.toList p = none) := by rw [Hid, HNJ.out, if_pos (.inl (by have := HZE.out; omega))]
            clear hk0 hd0
            go_wp2_with fail
            exact ⟨rfl, .inr ⟨HNO.out, rfl⟩, (HEND.out W HBQ.out).2⟩
          · have hd0 : decide (k = 0) = false := decide_eq_false hk0
            rw [hd0] at hTE hTE2
            by_cases hk1 : 1 < k
            · have hk1' : (1 : Int) < (k : Int) := by omega
              have hT0p : 0 < T.size := by rw [hTs]; omega
              have HB0 := hideB (HT0.out hT0p)
              obtain ⟨c0, hc0⟩ : ∃ c0, T[0].toNat = c0 := ⟨_, rfl⟩
              have HC0 := hideB hc0
              by_cases h48 : c0 = 48
              · have HNO : Hid (numJ s.data.toList p = none) := by rw [Hid, HNJ.out, if_pos (.inr (.inl ⟨by have := HZE.out; omega, by rw [← HB0.out, HC0.out]; exact h48⟩))]
                subst h48
                go_wp2_with fail
                exact ⟨rfl, .inr ⟨HNO.out, rfl⟩, (HEND.out W HBQ.out).2⟩
              · have h48' : ((c0 : Int) == 48) = false := by simp; omega
                have HYES : Hid (∃ x, numJ s.data.toList p = some x) := by
                  rw [Hid, HNJ.out, if_neg]
                  · exact ⟨_, rfl⟩
                  · rintro (e | e | e)
                    · have := HZE.out; omega
                    · exact h48 (by rw [← HC0.out, HB0.out]; exact e.2)
                    · omega
                go_wp2_with fail
                go_ret
                refine ⟨.inl ?_, (HEND.out W HBQ.out).2⟩
                rcases (HFIN.out W HBQ.out).1 with ⟨v1, q1, n1, n2, n3⟩ | h
                · exact ⟨v1, q1, n1, retN n2.symm, n3⟩
                · obtain ⟨x, hx⟩ := HYES.out; rw [hx] at h; cases h
            · have hk1' : ¬ (1 : Int) < (k : Int) := by omega
              have HYES : Hid (∃ x, numJ s.data.toList p = some x) := by
                rw [Hid, HNJ.out, if_neg]
                · exact ⟨_, rfl⟩
                · rintro (e | e | e)
                  · have := HZE.out; omega
                  · have := HZE.out; omega
                  · omega
              go_wp2_with fail
              go_ret
              refine ⟨.inl ?_, (HEND.out W HBQ.out).2⟩
              rcases (HFIN.out W HBQ.out).1 with ⟨v1, q1, n1, n2, n3⟩ | h
              · exact ⟨v1, q1, n1, retN n2.symm, n3⟩
              · obtain ⟨x, hx⟩ := HYES.out; rw [hx] at h; cases h
        · have g1' : (48 : Int) ≤ (c : Int) := by omega
          have g2' : ¬ (c : Int) ≤ 57 := by omega
          go_wp2_with fail
          refine HPK1.out.mono ?_
          rintro e w2 ⟨rfl, hb2⟩
          have HB2' := hideB hb2
          have HS2 := hideB (HS.out.below hb2)
          have HPK2 := hideB (peek_any HS2.out.br (by omega))
          rw [← HZE.out, HC.out] at HPK2
          clear hb2
          go_wp2_with fail
          refine HPK2.out.mono ?_
          rintro e w3 ⟨rfl, hb3⟩
          have HB3 := hideB (HB2'.out.trans (hb3.mono HB2'.out.size))
          have HS3 := hideB (HS2.out.below hb3)
          have n1 := HS3.out.br.src
          have n2 := HS3.out.br.place
          clear hb3
          go_wp2_with fail
          go_quiet (fail)
          have HD := hideB (below_drewB (w := w3) nq)
          have HBQ : Hid (Below wr.heap.size wr (w3.drewN nq)) := HB3.out.trans (HD.out.mono HB3.out.size)
          generalize w3.drewN nq = W at HBQ HD ⊢
          clear nq n1 n2
          by_cases hk0 : k = 0
          · have hd0 : decide (k = 0) = true := decide_eq_true hk0
            rw [hd0] at hTE hTE2
            have HNO : Hid (numJ s.data.toList p = none) := by rw [Hid, HNJ.out, if_pos (.inl (by have := HZE.out; omega))]
            clear hk0 hd0
            go_wp2_with fail
            exact ⟨rfl, .inr ⟨HNO.out, rfl⟩, (HEND.out W HBQ.out).2⟩
          · have hd0 : decide (k = 0) = false := decide_eq_false hk0
            rw [hd0] at hTE hTE2
            by_cases hk1 : 1 < k
            · have hk1' : (1 : Int) < (k : Int) := by omega
              have hT0p : 0 < T.size := by rw [hTs]; omega
              have HB0 := hideB (HT0.out hT0p)
              obtain ⟨c0, hc0⟩ : ∃ c0, T[0].toNat = c0 := ⟨_, rfl⟩
              have HC0 := hideB hc0
              by_cases h48 : c0 = 48
              · have HNO : Hid (numJ s.data.toList p = none) := by rw [Hid, HNJ.out, if_pos (.inr (.inl ⟨by have := HZE.out; omega, by rw [← HB0.out, HC0.out]; exact h48⟩))]
                subst h48
                go_wp2_with fail
                exact ⟨rfl, .inr ⟨HNO.out, rfl⟩, (HEND.out W HBQ.out).2⟩
              · have h48' : ((c0 : Int) == 48) = false := by simp; omega
                have HYES : Hid (∃ x, numJ s.data.toList p = some x) := by
                  rw [Hid, HNJ.out, if_neg]
                  · exact ⟨_, rfl⟩
                  · rintro (e | e | e)
                    · have := HZE.out; omega
                    · exact h48 (by rw [← HC0.out, HB0.out]; exact e.2)
                    · omega
                go_wp2_with fail
                go_ret
                refine ⟨.inl ?_, (HEND.out W HBQ.out).2⟩
                rcases (HFIN.out W HBQ.out).1 with ⟨v1, q1, n1, n2, n3⟩ | h
                · exact ⟨v1, q1, n1, retN n2.symm, n3⟩
                · obtain ⟨x, hx⟩ := HYES.out; rw [hx] at h; cases h
            · have hk1' : ¬ (1 : Int) < (k : Int) := by omega
              have HYES : Hid (∃ x, numJ s.data.toList p = some x) := by
                rw [Hid, HNJ.out, if_neg]
                · exact ⟨_, rfl⟩
                · rintro (e | e | e)
                  · have := HZE.out; omega
                  · have := HZE.out; omega
                  · omega
              go_wp2_with fail
              go_ret
              refine ⟨.inl ?_, (HEND.out W HBQ.out).2⟩
              rcases (HFIN.out W HBQ.out).1 with ⟨v1, q1, n1, n2, n3⟩ | h
              · exact ⟨v1, q1, n1, retN n2.symm, n3⟩
              · obtain ⟨x, hx⟩ := HYES.out; rw [hx] at h; cases h
end Go.Proofs.YtagcgnhpdmhegaaGreatDoor
