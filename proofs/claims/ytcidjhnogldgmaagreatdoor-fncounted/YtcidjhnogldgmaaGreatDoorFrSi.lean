import Derived.Test.YtcidjhnogldgmaaGreatDoorFrH2
import Derived.Test.YtcidjhnogldgmaaGreatDoorShF
import Derived.Test.YtcidjhnogldgmaaGreatDoorPick
import Derived.Test.YtcidjhnogldgmaaGreatDoorIFj
import Derived.Maps.RangeRun
import Derived.Carry
namespace Go.Proofs.YtcidjhnogldgmaaGreatDoor
open Go.RowKit
set_option linter.unusedSimpArgs false
set_option linter.unusedVariables false
set_option maxRecDepth 100000 in
set_option maxHeartbeats 1600000 in
theorem readDec_any {s : ByteArray} (hs : s.size ≤ 4000) (w : World) (ht : Tabs w.heap.size w) :
    Calls Tryz.prog 146 #[.string s] w fun e w' => Below w.heap.size w w' ∧ ((∃ v, decW s.data.toList = some v ∧ e = .returned (.int .i64 v)) ∨ (decW s.data.toList = none ∧ e = gup)) := by
  have HT := hideIt ht
  obtain ⟨⟨ev1, he1, hf1⟩, ⟨ev2, he2, hf2⟩⟩ := ht.er w (Below.refl _ _)
  clear ht
  cases hp : Lib.parseIntB 64 s.data.toList with
  | «syntax» =>
    have HD : Hid (decW s.data.toList = none) := by rw [Hid]; unfold decW; rw [hp]
    have HC := hideIt (Tryz.strconv_ParseInt_10_at64_syntax s (by omega) hp ev1 w he1 hf1)
    clear hp he1 he2
    go_enter Tryz.func146, Tryz.ntmps146
    go_wp2_with fail
    refine HC.out.mono ?_
    rintro e w1 ⟨N, rfl, _, _, hb1⟩
    have HB1 := hideIt hb1
    clear hb1
    go_wp2_with fail
    exact ⟨rfl, HB1.out, .inr ⟨HD.out, rfl⟩⟩
  | range =>
    have HD : Hid (decW s.data.toList = none) := by rw [Hid]; unfold decW; rw [hp]
    have HC := hideIt (Tryz.strconv_ParseInt_10_at64_range s (by omega) hp ev2 w he2 hf2)
    clear hp he1 he2
    go_enter Tryz.func146, Tryz.ntmps146
    go_wp2_with fail
    refine HC.out.mono ?_
    rintro e w1 ⟨N, rfl, _, _, hb1⟩
    have HB1 := hideIt hb1
    clear hb1
    go_wp2_with fail
    exact ⟨rfl, HB1.out, .inr ⟨HD.out, rfl⟩⟩
  | ok v =>
    have hb := Lib.parseIntB_bounds hp
    have HC := hideIt (Tryz.strconv_ParseInt_10_at64_ok s (by omega) v hp w)
    have h1 : -9223372036854775808 ≤ v := by have := hb.1; omega
    have h2 : v ≤ 9223372036854775807 := by have := hb.2; omega
    clear hb he1 he2
    by_cases hi : Lib.itoa v = s.data.toList
    · have HD : Hid (decW s.data.toList = some v) := by rw [Hid]; unfold decW; rw [hp]; simp only; rw [if_pos hi]
      have e1 : (⟨(Lib.itoa v).toArray⟩ : ByteArray) = s := by rw [hi]
      have hss : (s.toList == s.toList) = true := by simp
      have hsn : (s.toList != s.toList) = false := by simp
      clear hp hi
      go_enter Tryz.func146, Tryz.ntmps146
      go_wp2_with fail
      refine HC.out.mono ?_
      rintro e w1 ⟨rfl, hw1⟩
      have HB1 : Hid (Below w.heap.size w w1) := by
        rcases hw1 with rfl | ⟨t, rfl⟩
        · exact Below.refl _ _
        · exact Lib.bytesWorld_below _ _ _
      clear hw1
      have HF := hideIt (formatInt_any v h1 h2 w1 (HT.out.tab w1 HB1.out))
      rw [e1] at HF
      go_wp2_with fail
      refine HF.out.mono ?_
      rintro e w2 ⟨rfl, hb2⟩
      have HB2 := hideIt (HB1.out.trans (hb2.mono HB1.out.size))
      clear hb2
      go_wp2_with fail
      go_ret
      exact ⟨HB2.out, .inl ⟨v, HD.out, rfl⟩⟩
    · have HD : Hid (decW s.data.toList = none) := by rw [Hid]; unfold decW; rw [hp]; simp only; rw [if_neg hi]
      obtain ⟨t, ht⟩ : ∃ t, (⟨(Lib.itoa v).toArray⟩ : ByteArray) = t := ⟨_, rfl⟩
      have hne : ¬ t = s := fun e => hi (by rw [← e, ← ht])
      have q0 : ¬ t.toList = s.toList := fun e => hne (str_eq (by rw [e]; simp))
      have q1 : (t.toList == s.toList) = false := by simpa using q0
      have q2 : (t.toList != s.toList) = true := by simpa using q0
      clear hp hi hne
      go_enter Tryz.func146, Tryz.ntmps146
      go_wp2_with fail
      refine HC.out.mono ?_
      rintro e w1 ⟨rfl, hw1⟩
      have HB1 : Hid (Below w.heap.size w w1) := by
        rcases hw1 with rfl | ⟨t, rfl⟩
        · exact Below.refl _ _
        · exact Lib.bytesWorld_below _ _ _
      clear hw1
      have HF := hideIt (formatInt_any v h1 h2 w1 (HT.out.tab w1 HB1.out))
      rw [ht] at HF
      go_wp2_with fail
      refine HF.out.mono ?_
      rintro e w2 ⟨rfl, hb2⟩
      have HB2 := hideIt (HB1.out.trans (hb2.mono HB1.out.size))
      clear hb2
      go_wp2_with fail
      exact ⟨rfl, HB2.out, .inr ⟨HD.out, rfl⟩⟩
end Go.Proofs.YtcidjhnogldgmaaGreatDoor

namespace Go.Proofs.YtcidjhnogldgmaaGreatDoor
open Go.RowKit
set_option linter.unusedSimpArgs false
set_option linter.unusedVariables false
theorem step_call1p {P : Program} {w : World} {ops : Array Oper} {o : Oper} {a : Act} {K : Act → World → Prop} {Q : Exit → Act → World → Prop} {E : Prop} (hgd : o.guard = none) (F : FuncId) (x : Operand) (T : TypeId)
    (ho : o.op = .call { callee := .value (.func F), args := #[x], argTypes := #[T] }) (v : Value) (hx : a.eval x = v) (hcf : ∀ w, (callFunc F #[v]).run P w = .ok (.enter F #[v]) w) {R : Ending → World → Prop} (hc : Calls P F #[v] w R)
    (h : ∀ e w', R e w' → (∃ u, e = .returned u ∧ K (a.put o.dst u) w') ∨ ∃ c, e = .panicked c ∧ Q (.panic c) a w') :
    if Region.wanted o (yielded ops a.tmps) = true then Oper.wp P o a w K Q else E := by
  have hw : Region.wanted o (yielded ops a.tmps) = true := by simp [Region.wanted, hgd]
  rw [if_pos hw]
  unfold Oper.wp execOp
  have e1 : a.eval (.func F) = .func (.func F) #[] #[] := rfl
  simp [ho, resolve, invoke, hx, e1, Deferred.ofValue, hcf, Result.andThen, Oper.upon_enter]
  refine hc.mono fun e w' hr => ?_
  rcases h e w' hr with ⟨u, rfl, hk⟩ | ⟨c, rfl, hk⟩
  · exact hk
  · exact hk
theorem call_dec (x : Value) : ∀ w, (callFunc 146 #[x]).run Tryz.prog w = .ok (.enter 146 #[x]) w := fun w => by kernel_rfl
theorem FrAt.tabs {w : World} {rb mb base : Nat} {Z : Nat → Prop} {s : ByteArray} {p : Nat} {fs : List FN} (h : FrAt w rb mb base Z s p fs) : Tabs w.heap.size w := h.box.tb.wide (by have := h.box.rb_lt; have := h.box.sz; omega)
set_option maxRecDepth 100000 in
set_option maxHeartbeats 6400000 in
theorem readInt_any {rb mb base p : Nat} {Z : Nat → Prop} {s : ByteArray} {fs : List FN} {w : World} (h : FrAt w rb mb base Z s p fs) (hs : s.size ≤ 4000) :
    Calls Tryz.prog 111 #[.pointer (some ⟨rb, 0, none⟩)] w fun e w' => ButF rb base w w' ∧ ((∃ v, decW (numW s.data.toList p) = some v ∧ e = .returned (.int .i64 v) ∧ FrAt w' rb mb base Z s (skF s.data.toList (dgJ s.data.toList (numAt s.data.toList p))) fs) ∨ (decW (numW s.data.toList p) = none ∧ e = gup)) := by
  have H := hideB h
  have HLN := hideB (len_is s)
  have hp := h.le
  have HPK := hideB (fPeek_any h hs)
  have hc256 := byAt_lt s.data.toList p
  obtain ⟨c, hc⟩ : ∃ c, byAt s.data.toList p = c := ⟨_, rfl⟩
  have HC := hideB hc
  rw [hc] at HPK hc256
  obtain ⟨c0, c1, f1, lt0⟩ := h.cells
  clear h hc
  obtain ⟨q0, hq0⟩ : ∃ q0, numAt s.data.toList p = q0 := ⟨_, rfl⟩
  have HQ0 := hideB hq0
  have HQP : Hid (q0 = if c = 45 then p + 1 else p) := by
    rw [Hid, ← hq0]; unfold numAt
    by_cases e : c = 45
    · rw [if_pos e, if_pos]
      refine isAt_yes.2 ⟨?_, by rw [HC.out]; exact e⟩
      rcases Nat.lt_or_ge p s.data.toList.length with h | h
      · exact h
      · have := byAt_past h; rw [HC.out] at this; omega
    · rw [if_neg e, if_neg (fun e2 => e (by rw [← HC.out]; exact (isAt_yes.1 e2).2))]
  have hq0s : q0 ≤ s.size := by rw [← hq0, ← HLN.out]; exact numAt_le (by rw [HLN.out]; exact hp)
  have hpq0 : p ≤ q0 := by rw [← hq0]; exact numAt_ge _ _
  clear hq0
  have HEND : Hid (numW s.data.toList p = (s.data.toList.drop p).take (dgJ s.data.toList q0 - p)) := by rw [Hid]; unfold numW; rw [HQ0.out]
  go_enter Tryz.func111, Tryz.ntmps111
  go_wp2_with fail
  refine HPK.out.mono ?_
  rintro e w1 ⟨rfl, hr1, hb1⟩
  have HR1 := hideB hr1
  have HB1 := hideB hb1
  clear c0 c1 f1 lt0
  obtain ⟨c0, c1, f1, lt0⟩ := hr1.cells
  clear hr1 hb1 HPK
  by_cases h45 : c = 45
  focus
    subst h45
    have e1 : ((p + 1 : Nat) : Int) = (p : Int) + 1 := by omega
    have hq1 : q0 = p + 1 := by rw [HQP.out]; rfl
    have HR2 := hideB (HR1.out.to (q := p + 1) (by omega))
    have HB2 := hideB (HB1.out.trans (ButF.of_set 1 (.int .i64 ((p + 1 : Nat) : Int))))
    rw [e1] at HR2 HB2
    rw [← hq1] at HR2
    have HQ1 := hideB hq1
    clear hq1 e1
    go_wp2_with fail
    obtain ⟨W2, hW2⟩ : ∃ W2, w1.setCell ⟨rb, 1, none⟩ (.int .i64 ((p : Int) + 1)) = W2 := ⟨_, rfl⟩
    rw [hW2] at HR2 HB2 ⊢
    clear hW2 c0 c1 f1 lt0
  rotate_left
  focus
    have n45 : ((c : Int) == 45) = false := by simp; omega
    have n45' : ¬ (c : Int) = 45 := by omega
    have hq1 : q0 = p := by rw [HQP.out, if_neg h45]
    have HR2 : Hid (FrAt w1 rb mb base Z s q0 fs) := by rw [hq1]; exact HR1.out
    have HB2 := HB1
    have HQ1 := hideB hq1
    clear hq1
    go_wp2_with fail
    obtain ⟨W2, hW2⟩ : ∃ W2, w1 = W2 := ⟨_, rfl⟩
    rw [hW2] at HR2 HB2 ⊢
    clear hW2 c0 c1 f1 lt0
  all_goals
    go_loopw [32, 33] (fun _ _ wr => ∃ q, FrAt wr rb mb base Z s q fs ∧ Hid (dgJ s.data.toList q = dgJ s.data.toList q0) ∧ ButF rb base w wr ∧ p ≤ q) (fun _ _ wr => s.size - placeOf wr rb)
    case atStart => exact ⟨q0, HR2.out, rfl, HB2.out, hpq0⟩
    case round =>
      obtain ⟨q, hsr, HK, hbt, hpq⟩ := hrel
      have HS := hideB hsr
      have HBT := hideB hbt
      have hqs := hsr.le
      have HPK := hideB (fPeek_any hsr hs)
      have hd256 := byAt_lt s.data.toList q
      obtain ⟨d, hd⟩ : ∃ d, byAt s.data.toList q = d := ⟨_, rfl⟩
      have HDD := hideB hd
      rw [hd] at HPK hd256
      obtain ⟨c0, c1, f1, lt0⟩ := hsr.cells
      clear hsr hbt hd
      go_wp2_with fail
      refine HPK.out.mono ?_
      rintro e w3 ⟨rfl, hr3, hb3⟩
      have HR3 := hideB hr3
      have HB3 := hideB hb3
      clear c0 c1 f1 lt0
      obtain ⟨c0, c1, f1, lt0⟩ := hr3.cells
      clear hr3 hb3
      go_wp2_with fail
      refine (isDigit_any d w3 hd256).mono ?_
      rintro e w4 ⟨rfl, rfl⟩
      cases hn : digN d
      · have hdc : digC d = false := by rw [← hn]; unfold digC digN; rw [Bool.eq_iff_iff]; simp
        have HZ : Hid (dgJ s.data.toList q0 = q) := by rw [Hid, ← HK.out]; exact runJ_no (fun e => by rw [HDD.out, hdc] at e; cases e.2)
        obtain ⟨T, hT⟩ : ∃ T, txt ((s.data.toList.drop p).take (q - p)) = T := ⟨_, rfl⟩
        have HTT : Hid (T.data.toList = numW s.data.toList p) := by rw [Hid, HEND.out, HZ.out, ← hT, bytes_txt]
        have hTs : T.size ≤ 4000 := by rw [← len_is, HTT.out]; unfold numW; rw [List.length_take, List.length_drop, HLN.out]; omega
        have hcut : ∀ w, (Instr.slice 9 (.string s) (some (.int .i64 (p : Int))) (some (.int .i64 (q : Int))) none).run Tryz.prog w = .ok (.string T) w := fun w => by
          rw [run_cut (P := Tryz.prog) (t := 9) s p q Tryz.underlying9 hpq hqs w, hT]
        have HDQ : Hid (dgJ s.data.toList (numAt s.data.toList p) = q) := by rw [Hid, HQ0.out]; exact HZ.out
        have HRW : Hid (FrAt w4.drew rb mb base Z s q fs) := HR3.out.below (Below.refl _ _).drew
        have HBT2 : Hid (ButF rb base w w4.drew) := (HBT.out.trans HB3.out).trans (ButF.of_below (Below.refl _ _).drew)
        have HDC := hideB (readDec_any hTs w4.drew HRW.out.tabs)
        clear hn hdc hT
        go_wp2_with fail
        refine wp_region_any (by kernel_rfl) ?_
        change wpAny _ _ _ _ _ _ _ (World.drew _)
        refine wpAny_take (i := 0) (v := .pointer (some ⟨rb, 0, none⟩)) rfl (by kernel_rfl) (by kernel_rfl) (by kernel_rfl) (fun _ _ _ h => h) (Or.inl ⟨by kernel_rfl, fun w => ?_⟩) ?_
        · go_simp
        refine wpAny_take (i := 1) (v := .pointer (some ⟨rb, 0, none⟩)) rfl (by kernel_rfl) (by kernel_rfl) (by kernel_rfl) (fun _ _ _ h => h) (Or.inl ⟨by kernel_rfl, fun w => ?_⟩) ?_
        · go_simp
        refine wpAny_take (i := 2) (v := .pointer (some ⟨rb, 0, none⟩)) rfl (by kernel_rfl) (by kernel_rfl) (by kernel_rfl) (fun _ _ _ h => h) (Or.inl ⟨by kernel_rfl, fun w => ?_⟩) ?_
        · go_simp
        refine wpAny_take (i := 3) (v := .pointer (some ⟨rb, 0, none⟩)) rfl (by kernel_rfl) (by kernel_rfl) (by kernel_rfl) (fun _ _ _ h => h) (Or.inl ⟨by kernel_rfl, fun w => ?_⟩) ?_
        · go_simp
        refine wpAny_take (i := 4) (v := .pointer (some ⟨rb, 0, none⟩)) rfl (by kernel_rfl) (by kernel_rfl) (by kernel_rfl) (fun _ _ _ h => h) (Or.inl ⟨by kernel_rfl, fun w => ?_⟩) ?_
        · go_simp
        refine wpAny_take (i := 6) (v := .int .i64 (p : Int)) rfl (by kernel_rfl) (by kernel_rfl) (by kernel_rfl) (fun _ _ _ h => h) (Or.inl ⟨by kernel_rfl, fun w => ?_⟩) ?_
        · go_simp
        refine wpAny_take (i := 7) (v := .pointer (some ⟨rb, 0, none⟩)) rfl (by kernel_rfl) (by kernel_rfl) (by kernel_rfl) (fun _ _ _ h => h) (Or.inl ⟨by kernel_rfl, fun w => ?_⟩) ?_
        · go_simp
        refine wpAny_take (i := 8) (v := .pointer (some ⟨rb, 0, none⟩)) rfl (by kernel_rfl) (by kernel_rfl) (by kernel_rfl) (fun _ _ _ h => h) (Or.inl ⟨by kernel_rfl, fun w => ?_⟩) ?_
        · go_simp
        refine wpAny_take (i := 9) (v := .pointer (some ⟨rb, 0, none⟩)) rfl (by kernel_rfl) (by kernel_rfl) (by kernel_rfl) (fun _ _ _ h => h) (Or.inl ⟨by kernel_rfl, fun w => ?_⟩) ?_
        · go_simp
        refine wpAny_take (i := 10) (v := .pointer (some ⟨rb, 0, none⟩)) rfl (by kernel_rfl) (by kernel_rfl) (by kernel_rfl) (fun _ _ _ h => h) (Or.inl ⟨by kernel_rfl, fun w => ?_⟩) ?_
        · go_simp
        refine wpAny_take (i := 11) (v := .pointer (some ⟨rb, 1, none⟩)) rfl (by kernel_rfl) (by kernel_rfl) (by kernel_rfl) (fun _ _ _ h => h) (Or.inl ⟨by kernel_rfl, fun w => ?_⟩) ?_
        · go_simp
        refine wpAny_ready (rs := [5, 12]) (by kernel_rfl) (by simp) ?_
        refine AllReady.cons rfl (fun K hK => ?_) (AllReady.cons rfl (fun K hK => ?_) AllReady.nil)
        · skip
          go_simp
          refine hK _ _ ?_
          clear K hK
          refine wpAny_ready (rs := [12]) (by kernel_rfl) (by simp) ?_
          refine AllReady.cons rfl (fun K hK => ?_) AllReady.nil
          go_simp
          refine hK _ _ ?_
          clear K hK
          refine wpAny_take (i := 13) (v := .string T) rfl (by kernel_rfl) (by kernel_rfl) (by kernel_rfl) (fun _ _ _ h => h) (Or.inl ⟨by kernel_rfl, fun w => ?_⟩) ?_
          · go_simp
          refine wpAny_ready (rs := [14]) (by kernel_rfl) (by simp) ?_
          refine AllReady.cons rfl (fun K hK => ?_) AllReady.nil
          refine step_call1p (by kernel_rfl) 146 (.tmp 58) 9 (by kernel_rfl) (.string T) (by kernel_rfl) (call_dec _) HDC.out ?_
          rintro e w5 ⟨hb5, ⟨vv, hd5, rfl⟩ | ⟨hd5, rfl⟩⟩
          rotate_left
          · exact .inr ⟨_, rfl, rfl, HBT2.out.trans (ButF.of_below hb5), .inr ⟨by rw [← HTT.out]; exact hd5, rfl⟩⟩
          refine .inl ⟨_, rfl, hK _ _ ?_⟩
          clear K hK
          have HD5 := hideB hd5
          have HB5 := hideB (HBT2.out.trans (ButF.of_below hb5))
          have HR5 := hideB (HRW.out.below hb5)
          clear hb5 hd5
          refine wpAny_take (i := 15) (v := .int .i64 vv) rfl (by kernel_rfl) (by kernel_rfl) (by kernel_rfl) (fun _ _ _ h => h) (Or.inl ⟨by kernel_rfl, fun w => ?_⟩) ?_
          · go_simp
          refine wpAny_done (by kernel_rfl) ?_ _
          go_simp
          have HSK := hideB (fSkip_any HR5.out hs)
          go_wp2_with fail
          refine HSK.out.mono ?_
          rintro e w6 ⟨rfl, hr6, hb6⟩
          have HR6 := hideB hr6
          have HB6 := hideB (HB5.out.trans hb6)
          clear hr6 hb6
          go_wp2_with fail
          go_ret
          exact ⟨HB6.out, .inl ⟨vv, by rw [← HTT.out]; exact HD5.out, rfl, by rw [HDQ.out]; exact HR6.out⟩⟩
        · skip
          go_simp
          refine hK _ _ ?_
          clear K hK
          refine wpAny_ready (rs := [5]) (by kernel_rfl) (by simp) ?_
          refine AllReady.cons rfl (fun K hK => ?_) AllReady.nil
          go_simp
          refine hK _ _ ?_
          clear K hK
          refine wpAny_take (i := 13) (v := .string T) rfl (by kernel_rfl) (by kernel_rfl) (by kernel_rfl) (fun _ _ _ h => h) (Or.inl ⟨by kernel_rfl, fun w => ?_⟩) ?_
          · go_simp
          refine wpAny_ready (rs := [14]) (by kernel_rfl) (by simp) ?_
          refine AllReady.cons rfl (fun K hK => ?_) AllReady.nil
          refine step_call1p (by kernel_rfl) 146 (.tmp 58) 9 (by kernel_rfl) (.string T) (by kernel_rfl) (call_dec _) HDC.out ?_
          rintro e w5 ⟨hb5, ⟨vv, hd5, rfl⟩ | ⟨hd5, rfl⟩⟩
          rotate_left
          · exact .inr ⟨_, rfl, rfl, HBT2.out.trans (ButF.of_below hb5), .inr ⟨by rw [← HTT.out]; exact hd5, rfl⟩⟩
          refine .inl ⟨_, rfl, hK _ _ ?_⟩
          clear K hK
          have HD5 := hideB hd5
          have HB5 := hideB (HBT2.out.trans (ButF.of_below hb5))
          have HR5 := hideB (HRW.out.below hb5)
          clear hb5 hd5
          refine wpAny_take (i := 15) (v := .int .i64 vv) rfl (by kernel_rfl) (by kernel_rfl) (by kernel_rfl) (fun _ _ _ h => h) (Or.inl ⟨by kernel_rfl, fun w => ?_⟩) ?_
          · go_simp
          refine wpAny_done (by kernel_rfl) ?_ _
          go_simp
          have HSK := hideB (fSkip_any HR5.out hs)
          go_wp2_with fail
          refine HSK.out.mono ?_
          rintro e w6 ⟨rfl, hr6, hb6⟩
          have HR6 := hideB hr6
          have HB6 := hideB (HB5.out.trans hb6)
          clear hr6 hb6
          go_wp2_with fail
          go_ret
          exact ⟨HB6.out, .inl ⟨vv, by rw [← HTT.out]; exact HD5.out, rfl, by rw [HDQ.out]; exact HR6.out⟩⟩
      · have hdc : digC d = true := by rw [← hn]; unfold digC digN; rw [Bool.eq_iff_iff]; simp
        have hq : q < s.size := by
          rcases Nat.lt_or_ge q s.size with h | h
          · exact h
          · exfalso
            have : byAt s.data.toList q = 0 := byAt_past (by rw [HLN.out]; omega)
            rw [HDD.out] at this
            subst this
            revert hn; decide
        have HNX : Hid (dgJ s.data.toList q = dgJ s.data.toList (q + 1)) := runJ_yes (by rw [HLN.out]; exact hq) (by rw [HDD.out]; exact hdc)
        have e1 : ((q + 1 : Nat) : Int) = (q : Int) + 1 := by omega
        have HR5 := hideB (HR3.out.to (q := q + 1) hq)
        rw [e1] at HR5
        have HB5 := hideB ((HBT.out.trans HB3.out).trans (ButF.of_set 1 (.int .i64 ((q : Int) + 1))))
        clear hn hdc e1
        go_wp2_with fail
        go_roundw
        case rel => exact ⟨q + 1, HR5.out, by rw [Hid, ← HNX.out]; exact HK.out, HB5.out, by omega⟩
        case measure => rw [HS.out.place, HR5.out.place]; omega
end Go.Proofs.YtcidjhnogldgmaaGreatDoor

namespace Go.Proofs.YtcidjhnogldgmaaGreatDoor
open Go.RowKit
set_option linter.unusedSimpArgs false
set_option linter.unusedVariables false
theorem addF_P (x : FN) (fs : List FN) (q : Nat) : addF WPr x fs q = some ((fs.length : Int), fs ++ [x], q) := by
  unfold addF; rw [if_neg (fun e => by cases e.1)]
theorem FrOr.add {x : FN} {fs : List FN} {q rb mb base : Nat} {Z : Nat → Prop} {s : ByteArray} {w w' : World} (h : FrAt w' rb mb base Z s q (fs ++ [x])) (hb : ButF rb base w w') : FrOr (addF WPr x fs q) rb mb base Z s w (.returned (.int .i64 (fs.length : Int))) w' :=
  ⟨hb, .inl ⟨_, _, _, addF_P _ _ _, rfl, h⟩⟩
theorem FrOr.of {r r' : RF} {rb mb base : Nat} {Z : Nat → Prop} {s : ByteArray} {w w' : World} {e : Ending} (hr : r = r') (h : FrOr r' rb mb base Z s w e w') : FrOr r rb mb base Z s w e w' := by rw [hr]; exact h
theorem FrOr.no {r : RF} {rb mb base : Nat} {Z : Nat → Prop} {s : ByteArray} {w w' : World} (hr : r = none) (h : ButF rb base w w') : FrOr r rb mb base Z s w gup w' := ⟨h, .inr ⟨hr, rfl⟩⟩
theorem mustF_y {L : List UInt8} {q c : Nat} {k : Nat → RF} (h : isAt L q c = true) : mustF L q c k = k (skF L (q + 1)) := by unfold mustF; rw [if_pos h]
theorem mustF_n {L : List UInt8} {q c : Nat} {k : Nat → RF} (h : isAt L q c = false) : mustF L q c k = none := by unfold mustF; rw [if_neg (by rw [h]; simp)]
theorem addK_any {rb mb base p : Nat} {Z : Nat → Prop} {s : ByteArray} {fs : List FN} {w : World} (h : FrAt w rb mb base Z s p fs) (hl : fs.length ≤ 4000) (k : Int) (nm : ByteArray) (pl : Int) :
    Calls Tryz.prog 78 #[.pointer (some ⟨rb, 0, none⟩), .agg #[.int .i64 k, .string nm, .int .i64 pl, .slice none 0 0, .slice none 0 0, .slice none 0 0], .slice none 0 0] w fun e w' => e = .returned (.int .i64 (fs.length : Int)) ∧ FrAt w' rb mb base Z s p (fs ++ [⟨k, nm, pl, [], [], []⟩]) ∧ ButF rb base w w' :=
  frAdd_any (x := ⟨k, nm, pl, [], [], []⟩) h (nestNil _ _) (World.ownsRow_nil _ _ _ _) (World.ownsRow_nil _ _ _ _) (fun y hy => by rcases hy with e | e | e <;> cases e) (fun y hy => ⟨hy, fun e => by rcases e with e | e | e <;> cases e⟩) hl
theorem lit_ints (w : World) (base : Nat) (ks : List Int) (hb : base ≤ w.heap.size) (hn : ks.length ≤ 1000) : (w.alloc (.cells (ks.map (Value.int .i64)).toArray 2)).ownsRow base 2 1 (.slice (some ⟨w.heap.size, 0, none⟩) ks.length ks.length) ks.length (ks.map (.int .i64)) := by
  have := World.ownsRow_lit (base := base) (e := 2) (size := 1) w (ks.map (Value.int .i64)).toArray ks.length hb (by unfold maxLen; omega) (by simp)
  simpa using this
theorem addR_any {rb mb base p : Nat} {Z : Nat → Prop} {s : ByteArray} {fs : List FN} {w : World} (h : FrAt w rb mb base Z s p fs) (hZ : ∀ x, Z x → x < w.heap.size) (hl : fs.length ≤ 4000) (k : Int) (ks : List Int) (hn : ks.length ≤ 1000) :
    Calls Tryz.prog 78 #[.pointer (some ⟨rb, 0, none⟩), .agg #[.int .i64 k, .string ByteArray.empty, .int .i64 0, .slice none 0 0, .slice none 0 0, .slice none 0 0], .slice (some ⟨w.heap.size, 0, none⟩) ks.length ks.length] (w.alloc (.cells (ks.map (Value.int .i64)).toArray 2)) fun e w' => e = .returned (.int .i64 (fs.length : Int)) ∧ FrAt w' rb mb base Z s p (fs ++ [nodeR k ks]) ∧ ButF rb base w w' := by
  have hb : Below w.heap.size w (w.alloc (.cells (ks.map (Value.int .i64)).toArray 2)) := (Below.refl _ _).alloc (Nat.le_refl _) _
  refine (frAdd_any (Z := fun x => Z x ∨ x = w.heap.size) (Z' := Z) (x := nodeR k ks) (h.fresh hb (fun x hx => by rcases hx with hx | hx; exact .inl hx; exact .inr (.inl (by omega)))) (nestNil _ _) (World.ownsRow_nil _ _ _ _) (lit_ints w base ks h.box.sz hn) (fun y hy => ?_) (fun y hy => ⟨.inl hy, fun e => ?_⟩) hl).mono ?_
  · rcases hy with e | e | e
    · cases e
    · cases e
    · simp [Value.ownBlock] at e; exact .inr e.symm
  · rcases e with e | e | e
    · cases e
    · cases e
    · simp [Value.ownBlock] at e; have := hZ y hy; omega
  · rintro e w' ⟨rfl, h1, h2⟩
    exact ⟨rfl, h1, (ButF.of_below hb).trans h2⟩
theorem addC_any {rb mb base p : Nat} {Z : Nat → Prop} {s : ByteArray} {fs : List FN} {w : World} (h : FrAt w rb mb base Z s p fs) (hZ : ∀ x, Z x → x < w.heap.size) (hl : fs.length ≤ 4000) (k n : Int) (t : ByteArray) :
    Calls Tryz.prog 78 #[.pointer (some ⟨rb, 0, none⟩), .agg #[.int .i64 5, .string ByteArray.empty, .int .i64 0, .slice (some ⟨w.heap.size, 0, none⟩) 1 1, .slice none 0 0, .slice none 0 0], .slice none 0 0] (w.alloc (.cells #[.int .i64 k, .int .i64 n, .string t, .slice none 0 0, .slice none 0 0] 32)) fun e w' => e = .returned (.int .i64 (fs.length : Int)) ∧ FrAt w' rb mb base Z s p (fs ++ [nodeC ⟨k, n, t, [], []⟩]) ∧ ButF rb base w w' := by
  have hb : Below w.heap.size w (w.alloc (.cells #[.int .i64 k, .int .i64 n, .string t, .slice none 0 0, .slice none 0 0] 32)) := (Below.refl _ _).alloc (Nat.le_refl _) _
  have hnest : Nest base (w.alloc (.cells #[.int .i64 k, .int .i64 n, .string t, .slice none 0 0, .slice none 0 0] 32)) (.slice (some ⟨w.heap.size, 0, none⟩) 1 1) [⟨k, n, t, [], []⟩] nilV nilV := by
    refine ⟨?_, fun i hi => ?_, fun i hi => ?_, fun i j hi hj e => ?_, fun i j hi hj e => ?_⟩
    · have := World.ownsRow_lit (base := base) (e := 32) (size := 5) w #[.int .i64 k, .int .i64 n, .string t, .slice none 0 0, .slice none 0 0] 1 h.box.sz (by unfold maxLen; omega) (by simp)
      have e : nestCells [⟨k, n, t, [], []⟩] nilV nilV = [.int .i64 k, .int .i64 n, .string t, .slice none 0 0, .slice none 0 0] := by
        have h := nestCells_snoc [] ⟨k, n, t, [], []⟩ nilV nilV (.slice none 0 0) (.slice none 0 0)
        have e2 : upd nilV ([] : List VN).length (.slice none 0 0) = nilV := by funext i; unfold upd nilV; split <;> rfl
        rw [e2] at h
        exact h
      rw [e]; exact this
    · have : i = 0 := by simpa using hi
      subst this; exact World.ownsRow_nil _ _ _ _
    · have : i = 0 := by simpa using hi
      subst this; exact World.ownsRow_nil _ _ _ _
    · simp at hi hj; omega
    · simp at hi hj; omega
  refine (frAdd_any (Z := fun x => Z x ∨ x = w.heap.size) (Z' := Z) (x := nodeC ⟨k, n, t, [], []⟩) (h.fresh hb (fun x hx => by rcases hx with hx | hx; exact .inl hx; exact .inr (.inl (by omega)))) hnest (World.ownsRow_nil _ _ _ _) (World.ownsRow_nil _ _ _ _) (fun y hy => ?_) (fun y hy => ⟨.inl hy, fun e => ?_⟩) hl).mono ?_
  · rcases hy with e | e | e
    · simp [Value.ownBlock] at e; exact .inr e.symm
    · cases e
    · cases e
  · rcases e with e | e | e
    · simp [Value.ownBlock] at e; have := hZ y hy; omega
    · cases e
    · cases e
  · rintro e w' ⟨rfl, h1, h2⟩
    exact ⟨rfl, h1, (ButF.of_below hb).trans h2⟩
set_option maxRecDepth 100000 in
set_option maxHeartbeats 3200000 in
theorem addConst_any {rb mb base p : Nat} {Z : Nat → Prop} {s : ByteArray} {fs : List FN} {w : World} (h : FrAt w rb mb base Z s p fs) (hZ : ∀ x, Z x → x < w.heap.size) (hs : s.size ≤ 4000) (hl : fs.length ≤ 4000) (k n : Int) (t : ByteArray) :
    Calls Tryz.prog 108 #[.pointer (some ⟨rb, 0, none⟩), .agg #[.int .i64 k, .int .i64 n, .string t, .slice none 0 0, .slice none 0 0]] w (FrOr (addF WPr (nodeC ⟨k, n, t, [], []⟩) fs (skF s.data.toList p)) rb mb base Z s w) := by
  obtain ⟨W1, hW1⟩ : ∃ W1, w.alloc (.cells #[.int .i64 k, .int .i64 n, .string t, .slice none 0 0, .slice none 0 0] 32) = W1 := ⟨_, rfl⟩
  have hb1 : Below w.heap.size w W1 := by rw [← hW1]; exact (Below.refl _ _).alloc (Nat.le_refl _) _
  have hx1 : W1.heap[w.heap.size]? = some (.cells #[.int .i64 k, .int .i64 n, .string t, .slice none 0 0, .slice none 0 0] 32 (0, 0)) := by rw [← hW1]; exact heap_alloc_new w _
  have hz1 : w.heap.size < W1.heap.size := by rw [← hW1]; simp
  have HB1 := hideB hb1
  have HX1 := hideB hx1
  have HF1 := hideB (h.below hb1)
  have HZ : Hid (∀ x, Z x → x < w.heap.size) := hZ
  have HSK := hideB (fSkip_any HF1.out hs)
  have hlt := h.cells.2.2.2
  have HRB : Hid (w.heap.size ≠ rb) := by rw [Hid]; omega
  have HBS := hideB h.box.sz
  clear h hZ hb1 hx1
  go_enter Tryz.func108, Tryz.ntmps108
  go_wp2_with fail
  refine HSK.out.mono ?_
  rintro e w2 ⟨rfl, h2, b2⟩
  have HF2 := hideB h2
  have HB2 := hideB b2
  have z2 := b2.size
  have hx2 : w2.heap[w.heap.size]? = some (.cells #[.int .i64 k, .int .i64 n, .string t, .slice none 0 0, .slice none 0 0] 32 (0, 0)) := (b2.block _ hz1 HRB.out (fun _ ⟨cs, z, e⟩ => by rw [HX1.out] at e; simp at e)).trans HX1.out
  have x0 := cellAt hx2 (i := 0) rfl
  have x1 := cellAt hx2 (i := 1) rfl
  have x2 := cellAt hx2 (i := 2) rfl
  have x3 := cellAt hx2 (i := 3) rfl
  have x4 := cellAt hx2 (i := 4) rfl
  have HC := hideB (addC_any h2 (fun x hx => by have := HZ.out x hx; omega) hl k n t)
  clear h2 b2 hx2
  go_wp2_with fail
  refine HC.out.mono ?_
  rintro e w3 ⟨rfl, h3, b3⟩
  have HF3 := hideB h3
  have HB3 := hideB (((ButF.of_below HB1.out).trans HB2.out).trans b3)
  clear h3 b3
  go_wp2_with fail
  go_ret
  exact FrOr.add HF3.out HB3.out
set_option maxRecDepth 100000 in
set_option maxHeartbeats 3200000 in
theorem readPlace_any {rb mb base p : Nat} {Z : Nat → Prop} {s : ByteArray} {fs : List FN} {w : World} (h : FrAt w rb mb base Z s p fs) (hs : s.size ≤ 4000) (hl : fs.length ≤ 4000) :
    Calls Tryz.prog 140 #[.pointer (some ⟨rb, 0, none⟩)] w (FrOr (placeF WPr s.data.toList fs p) rb mb base Z s w) := by
  have HT := hideB (fTook_any (c := 93) h hs (by omega))
  clear h
  cases hi : isAt s.data.toList p 93
  · rw [hi] at HT
    have HE : Hid (placeF WPr s.data.toList fs p = decF WPr s.data.toList p fun n q => mustF s.data.toList q 93 fun q => addF WPr ⟨3, ByteArray.empty, n, [], [], []⟩ fs q) := by rw [Hid]; unfold placeF; rw [if_neg (by rw [hi]; simp)]
    clear hi
    go_enter Tryz.func140, Tryz.ntmps140
    go_wp2_with fail
    refine HT.out.mono ?_
    rintro e w1 ⟨rfl, h1, b1⟩
    have HB1 := hideB b1
    have HI := hideB (readInt_any (p := p) h1 hs)
    clear h1 b1
    go_wp2_with fail
    refine HI.out.mono ?_
    rintro e w2 ⟨b2, ⟨v, hd, rfl, h2⟩ | ⟨hd, rfl⟩⟩
    · have HB2 := hideB (HB1.out.trans b2)
      have HD : Hid (decF WPr s.data.toList p (fun n q => mustF s.data.toList q 93 fun q => addF WPr ⟨3, ByteArray.empty, n, [], [], []⟩ fs q) = mustF s.data.toList (skF s.data.toList (dgJ s.data.toList (numAt s.data.toList p))) 93 fun q => addF WPr ⟨3, ByteArray.empty, v, [], [], []⟩ fs q) := by rw [Hid]; unfold decF; rw [show WPr.dec = decW from rfl, hd]
      obtain ⟨q, hq⟩ : ∃ q, skF s.data.toList (dgJ s.data.toList (numAt s.data.toList p)) = q := ⟨_, rfl⟩
      rw [hq] at h2 HD
      have HM := hideB (fMust_any (c := 93) h2 hs (by omega))
      clear h2 b2 hd hq
      go_wp2_with fail
      refine HM.out.mono ?_
      rintro e w3 ⟨b3, ⟨hi, rfl, h3⟩ | ⟨hi, rfl⟩⟩
      · have HB3 := hideB (HB2.out.trans b3)
        have HI3 := hideB hi
        have HA := hideB (addK_any h3 hl 3 ByteArray.empty v)
        clear h3 b3 hi
        go_wp2_with fail
        refine HA.out.mono ?_
        rintro e w4 ⟨rfl, h4, b4⟩
        have HF4 := hideB h4
        have HB4 := hideB (HB3.out.trans b4)
        clear h4 b4
        go_wp2_with fail
        go_ret
        exact FrOr.of (by rw [HE.out, HD.out, mustF_y HI3.out]) (FrOr.add HF4.out HB4.out)
      · have HB3 := hideB (HB2.out.trans b3)
        have HI3 := hideB hi
        clear b3 hi
        unfold gup
        go_wp2_with fail
        exact ⟨rfl, FrOr.no (by rw [HE.out, HD.out, mustF_n HI3.out]) HB3.out⟩
    · have HB2 := hideB (HB1.out.trans b2)
      have HD : Hid (decF WPr s.data.toList p (fun n q => mustF s.data.toList q 93 fun q => addF WPr ⟨3, ByteArray.empty, n, [], [], []⟩ fs q) = none) := by rw [Hid]; unfold decF; rw [show WPr.dec = decW from rfl, hd]
      clear b2 hd
      unfold gup
      go_wp2_with fail
      exact ⟨rfl, FrOr.no (by rw [HE.out, HD.out]) HB2.out⟩
  · rw [hi] at HT
    have HE : Hid (placeF WPr s.data.toList fs p = addF WPr (nodeK 4) fs (skF s.data.toList (p + 1))) := by rw [Hid]; unfold placeF; rw [if_pos hi]
    clear hi
    go_enter Tryz.func140, Tryz.ntmps140
    go_wp2_with fail
    refine HT.out.mono ?_
    rintro e w1 ⟨rfl, h1, b1⟩
    have HB1 := hideB b1
    have HA := hideB (addK_any h1 hl 4 ByteArray.empty 0)
    clear h1 b1
    go_wp2_with fail
    refine HA.out.mono ?_
    rintro e w4 ⟨rfl, h4, b4⟩
    have HF4 := hideB h4
    have HB4 := hideB (HB1.out.trans b4)
    clear h4 b4
    go_wp2_with fail
    go_ret
    exact FrOr.of HE.out (FrOr.add HF4.out HB4.out)
end Go.Proofs.YtcidjhnogldgmaaGreatDoor

namespace Go.Proofs.YtcidjhnogldgmaaGreatDoor
open Go.RowKit
set_option linter.unusedSimpArgs false
set_option linter.unusedVariables false
set_option linter.unusedSectionVars false
def RdsF (R : RD) (f rb mb base : Nat) (s : ByteArray) : Prop := ∀ (least : Int) (Z : Nat → Prop) (fs : List FN) (p : Nat) (w : World), 1 ≤ least → least ≤ 6 → (∀ x, Z x → x < w.heap.size) → FrAt w rb mb base Z s p fs → fs.length ≤ p → s.size < p + f → Calls Tryz.prog 57 #[.pointer (some ⟨rb, 0, none⟩), .int .i64 least] w (FrOr (R least fs p) rb mb base Z s w)
theorem bindF_y {a : RF} {k : Int → List FN → Nat → RF} {n : Int} {fs : List FN} {q : Nat} (h : a = some (n, fs, q)) : bindF a k = k n fs q := by rw [h]; rfl
theorem bindF_n {a : RF} {k : Int → List FN → Nat → RF} (h : a = none) : bindF a k = none := by rw [h]; rfl
set_option maxRecDepth 100000 in
set_option maxHeartbeats 3200000 in
theorem readPoint_any {rb mb base p : Nat} {Z : Nat → Prop} {s : ByteArray} {fs : List FN} {w : World} (h : FrAt w rb mb base Z s p fs) (hs : s.size ≤ 4000) (hl : fs.length ≤ 4000) (hp : p < s.size) :
    Calls Tryz.prog 104 #[.pointer (some ⟨rb, 0, none⟩)] w (FrOr (pointF WPr s.data.toList fs (p + 1)) rb mb base Z s w) := by
  have HLN := hideB (len_is s)
  obtain ⟨c0, c1, f1, lt0⟩ := h.cells
  have e1 : ((p + 1 : Nat) : Int) = (p : Int) + 1 := by omega
  have h1 := h.to (q := p + 1) hp
  rw [e1] at h1
  obtain ⟨W1, hW1⟩ : ∃ W1, w.setCell ⟨rb, 1, none⟩ (.int .i64 ((p : Int) + 1)) = W1 := ⟨_, rfl⟩
  rw [hW1] at h1
  have HF1 := hideB h1
  have HB1 : Hid (ButF rb base w W1) := by rw [Hid, ← hW1]; exact ButF.of_set _ _
  have HPK := hideB (fPeek_any h1 hs)
  obtain ⟨c, hc⟩ : ∃ c, byAt s.data.toList (p + 1) = c := ⟨_, rfl⟩
  have hc256 : c < 256 := by rw [← hc]; exact byAt_lt _ _
  have HC := hideB hc
  rw [hc] at HPK
  clear h h1 hc e1
  go_enter Tryz.func104, Tryz.ntmps104
  go_wp2_with fail
  refine HPK.out.mono ?_
  rintro e w2 ⟨rfl, h2, b2⟩
  have HF2 := hideB h2
  have HB2 := hideB (HB1.out.trans b2)
  clear h2 b2
  go_wp2_with fail
  refine (beginsPlain_any c w2 hc256).mono ?_
  rintro e w3 ⟨rfl, rfl⟩
  cases hn : letN c
  · have HLA : Hid (¬ letAt s.data.toList (p + 1) = true) := by rw [Hid]; unfold letAt; rw [HC.out, hn]; simp
    have HT := hideB (fTook_any (c := 91) HF2.out hs (by omega))
    cases hi : isAt s.data.toList (p + 1) 91
    · rw [hi] at HT
      have HE : Hid (pointF WPr s.data.toList fs (p + 1) = addF WPr (nodeK 1) fs (skF s.data.toList (p + 1))) := by rw [Hid]; unfold pointF; rw [if_neg HLA.out, if_neg (by rw [hi]; simp)]
      clear hi hn
      go_wp2_with fail
      refine HT.out.mono ?_
      rintro e w4 ⟨rfl, h4, b4⟩
      have HB4 := hideB (HB2.out.trans b4)
      have HSK := hideB (fSkip_any (p := p + 1) h4 hs)
      clear h4 b4
      go_wp2_with fail
      refine HSK.out.mono ?_
      rintro e w5 ⟨rfl, h5, b5⟩
      have HB5 := hideB (HB4.out.trans b5)
      have HA := hideB (addK_any h5 hl 1 ByteArray.empty 0)
      clear h5 b5
      go_wp2_with fail
      refine HA.out.mono ?_
      rintro e w6 ⟨rfl, h6, b6⟩
      have HF6 := hideB h6
      have HB6 := hideB (HB5.out.trans b6)
      clear h6 b6
      go_wp2_with fail
      go_ret
      exact FrOr.of HE.out (FrOr.add HF6.out HB6.out)
    · rw [hi] at HT
      have HE : Hid (pointF WPr s.data.toList fs (p + 1) = placeF WPr s.data.toList fs (skF s.data.toList (p + 1 + 1))) := by rw [Hid]; unfold pointF; rw [if_neg HLA.out, if_pos hi]
      clear hi hn
      go_wp2_with fail
      refine HT.out.mono ?_
      rintro e w4 ⟨rfl, h4, b4⟩
      have HB4 := hideB (HB2.out.trans b4)
      have HP := hideB (readPlace_any (p := skF s.data.toList (p + 1 + 1)) h4 hs hl)
      clear h4 b4
      go_wp2_with fail
      refine HP.out.mono ?_
      rintro e w5 ⟨b5, ⟨n, fs', q, hr, rfl, h5⟩ | ⟨hr, rfl⟩⟩
      · have HF5 := hideB h5
        have HR := hideB hr
        have HB5 := hideB (HB4.out.trans b5)
        clear h5 b5 hr
        go_wp2_with fail
        go_ret
        exact ⟨HB5.out, .inl ⟨n, fs', q, by rw [HE.out]; exact HR.out, rfl, HF5.out⟩⟩
      · have HR := hideB hr
        have HB5 := hideB (HB4.out.trans b5)
        clear b5 hr
        unfold gup
        go_wp2_with fail
        exact ⟨rfl, FrOr.no (by rw [HE.out]; exact HR.out) HB5.out⟩
  · have HLA : Hid (letAt s.data.toList (p + 1) = true) := by
      rw [Hid]; unfold letAt; rw [HC.out, hn, Bool.and_true, decide_eq_true_eq]
      rcases Nat.lt_or_ge (p + 1) s.data.toList.length with h | h
      · exact h
      · exfalso
        have := byAt_past h
        rw [HC.out] at this
        subst this
        revert hn; decide
    have HE : Hid (pointF WPr s.data.toList fs (p + 1) = addF WPr ⟨2, txt (nameF s.data.toList (p + 1)), 0, [], [], []⟩ fs (skF s.data.toList (nmJ s.data.toList (p + 1)))) := by rw [Hid]; unfold pointF; rw [if_pos HLA.out]
    have HN := hideB (readName_any HF2.out hs)
    obtain ⟨T, hT⟩ : ∃ T, txt (nameF s.data.toList (p + 1)) = T := ⟨_, rfl⟩
    rw [hT] at HN HE
    clear hn hT
    go_wp2_with fail
    refine HN.out.mono ?_
    rintro e w4 ⟨rfl, h4, b4⟩
    have HB4 := hideB (HB2.out.trans b4)
    have HA := hideB (addK_any h4 hl 2 T 0)
    clear h4 b4
    go_wp2_with fail
    refine HA.out.mono ?_
    rintro e w6 ⟨rfl, h6, b6⟩
    have HF6 := hideB h6
    have HB6 := hideB (HB4.out.trans b6)
    clear h6 b6
    go_wp2_with fail
    go_ret
    exact FrOr.of HE.out (FrOr.add HF6.out HB6.out)
section
variable {R : RD} {f rb mb base : Nat} {s : ByteArray} (HR : RdsF R f rb mb base s) (HG : GoesF s.data.toList R)
include HR HG
set_option maxRecDepth 100000 in
set_option maxHeartbeats 3200000 in
theorem readAround_any {p : Nat} {Z : Nat → Prop} {fs : List FN} {w : World} (h : FrAt w rb mb base Z s p fs) (hZ : ∀ x, Z x → x < w.heap.size) (hs : s.size ≤ 4000) (hl : fs.length ≤ p) (hf : s.size ≤ p + f) :
    Calls Tryz.prog 105 #[.pointer (some ⟨rb, 0, none⟩), .int .u8 40, .int .u8 41] w (FrOr (mustF s.data.toList p 40 fun q => aroundF R s.data.toList 41 fs q) rb mb base Z s w) := by
  have HM := hideB (fMust_any (c := 40) h hs (by omega))
  have HZ : Hid (∀ x, Z x → x < w.heap.size) := hZ
  have HHR := hideB HR
  have HHG := hideB HG
  clear h hZ HR HG
  go_enter Tryz.func105, Tryz.ntmps105
  go_wp2_with fail
  refine HM.out.mono ?_
  rintro e w1 ⟨b1, ⟨hi, rfl, h1⟩ | ⟨hi, rfl⟩⟩
  rotate_left
  · have HB1 := hideB b1
    have HI := hideB hi
    clear b1 hi
    unfold gup
    go_wp2_with fail
    exact ⟨rfl, FrOr.no (mustF_n HI.out) HB1.out⟩
  obtain ⟨q, hq⟩ : ∃ q, skF s.data.toList (p + 1) = q := ⟨_, rfl⟩
  have HQ := hideB hq
  have hpq : p + 1 ≤ q := by rw [← hq]; exact skF_ge _ _
  have HB1 := hideB b1
  have HI := hideB hi
  rw [hq] at h1
  have HRD := hideB (HHR.out 1 Z fs q w1 (by decide) (by decide) (fun x hx => Nat.lt_of_lt_of_le (HZ.out x hx) b1.size) h1 (by omega) (by omega))
  clear h1 b1 hi hq
  go_wp2_with fail
  refine HRD.out.mono ?_
  rintro e w2 ⟨b2, ⟨n, fs', q2, hr, rfl, h2⟩ | ⟨hr, rfl⟩⟩
  rotate_left
  · have HB2 := hideB (HB1.out.trans b2)
    have HRR := hideB hr
    clear b2 hr
    unfold gup
    go_wp2_with fail
    exact ⟨rfl, FrOr.no (by rw [mustF_y HI.out, HQ.out]; exact bindF_n HRR.out) HB2.out⟩
  have HB2 := hideB (HB1.out.trans b2)
  have HRR := hideB hr
  have HM2 := hideB (fMust_any (c := 41) h2 hs (by omega))
  clear h2 b2 hr
  go_wp2_with fail
  refine HM2.out.mono ?_
  rintro e w3 ⟨b3, ⟨hi, rfl, h3⟩ | ⟨hi, rfl⟩⟩
  rotate_left
  · have HB3 := hideB (HB2.out.trans b3)
    have HI3 := hideB hi
    clear b3 hi
    unfold gup
    go_wp2_with fail
    exact ⟨rfl, FrOr.no (by rw [mustF_y HI.out, HQ.out]; show aroundF R s.data.toList 41 fs q = none; unfold aroundF; rw [bindF_y HRR.out, mustF_n HI3.out]) HB3.out⟩
  have HB3 := hideB (HB2.out.trans b3)
  have HF3 := hideB h3
  have HI3 := hideB hi
  clear b3 hi h3
  go_wp2_with fail
  go_ret
  exact ⟨HB3.out, .inl ⟨n, fs', _, by rw [mustF_y HI.out, HQ.out]; show aroundF R s.data.toList 41 fs q = _; unfold aroundF; rw [bindF_y HRR.out, mustF_y HI3.out], rfl, HF3.out⟩⟩
set_option maxRecDepth 100000 in
set_option maxHeartbeats 3200000 in
theorem readFList_any {p : Nat} {Z : Nat → Prop} {fs : List FN} {w : World} (h : FrAt w rb mb base Z s p fs) (hZ : ∀ x, Z x → x < w.heap.size) (hs : s.size ≤ 1000) (hl : fs.length ≤ p) (hf : s.size ≤ p + f) (hi : isAt s.data.toList p 91 = true) :
    Calls Tryz.prog 106 #[.pointer (some ⟨rb, 0, none⟩)] w (FrOr (listF WPr R s.data.toList fs (skF s.data.toList (p + 1))) rb mb base Z s w) := by
  have HLN := hideB (len_is s)
  have hps : p < s.size := by rw [← HLN.out]; exact (isAt_yes.1 hi).1
  have HM := hideB (fMust_any (c := 91) h (by omega) (by omega))
  have HZ : Hid (∀ x, Z x → x < w.heap.size) := hZ
  have HHR := hideB HR
  have HHG := hideB HG
  have HI := hideB hi
  clear h hZ HR HG hi
  obtain ⟨q, hq⟩ : ∃ q, skF s.data.toList (p + 1) = q := ⟨_, rfl⟩
  have hpq : p + 1 ≤ q := by rw [← hq]; exact skF_ge _ _
  have hql : q ≤ s.size := by rw [← hq, ← HLN.out]; exact skF_le (by rw [HLN.out]; omega)
  rw [hq] at HM ⊢
  clear hq
  go_enter Tryz.func106, Tryz.ntmps106
  go_wp2_with fail
  refine HM.out.mono ?_
  rintro e w1 ⟨b1, ⟨hi, rfl, h1⟩ | ⟨hi, rfl⟩⟩
  rotate_left
  · exfalso; rw [HI.out] at hi; cases hi
  have HB1 := hideB b1
  have HT := hideB (fTook_any (c := 93) h1 (by omega) (by omega))
  have HZ1 : Hid (∀ x, Z x → x < w1.heap.size) := fun x hx => Nat.lt_of_lt_of_le (HZ.out x hx) b1.size
  clear h1 b1 hi
  cases h93 : isAt s.data.toList q 93
  · rw [h93] at HT
    have HE : Hid (listF WPr R s.data.toList fs q = bindF (R 1 fs q) fun n fs q => mustF s.data.toList q 93 fun q => addF WPr (nodeR 8 [n]) fs q) := by rw [Hid]; unfold listF; rw [if_neg (by rw [h93]; simp)]
    clear h93
    go_wp2_with fail
    refine HT.out.mono ?_
    rintro e w2 ⟨rfl, h2, b2⟩
    have HB2 := hideB (HB1.out.trans b2)
    have HZ2 : Hid (∀ x, Z x → x < w2.heap.size) := fun x hx => Nat.lt_of_lt_of_le (HZ1.out x hx) b2.size
    have HRD := hideB (HHR.out 1 Z fs q w2 (by decide) (by decide) HZ2.out h2 (by omega) (by omega))
    clear h2 b2
    go_wp2_with fail
    refine HRD.out.mono ?_
    rintro e w3 ⟨b3, ⟨n, fs', q2, hr, rfl, h3⟩ | ⟨hr, rfl⟩⟩
    rotate_left
    · have HB3 := hideB (HB2.out.trans b3)
      have HRR := hideB hr
      clear b3 hr
      unfold gup
      go_wp2_with fail
      exact ⟨rfl, FrOr.no (by rw [HE.out]; exact bindF_n HRR.out) HB3.out⟩
    have HB3 := hideB (HB2.out.trans b3)
    have wt := HHG.out 1 fs q n fs' q2 (by rw [HLN.out]; exact hql) hr
    have hcnt := wt.cnt
    have hle := wt.le
    rw [HLN.out] at hle
    have HRR := hideB hr
    have HM2 := hideB (fMust_any (c := 93) h3 (by omega) (by omega))
    have HZ3 : Hid (∀ x, Z x → x < w3.heap.size) := fun x hx => Nat.lt_of_lt_of_le (HZ2.out x hx) b3.size
    clear h3 b3 hr wt
    go_wp2_with fail
    refine HM2.out.mono ?_
    rintro e w4 ⟨b4, ⟨hi, rfl, h4⟩ | ⟨hi, rfl⟩⟩
    rotate_left
    · have HB4 := hideB (HB3.out.trans b4)
      have HI4 := hideB hi
      clear b4 hi
      unfold gup
      go_wp2_with fail
      exact ⟨rfl, FrOr.no (by rw [HE.out, bindF_y HRR.out, mustF_n HI4.out]) HB4.out⟩
    have HB4 := hideB (HB3.out.trans b4)
    have HI4 := hideB hi
    have HA := hideB (addR_any h4 (fun x hx => Nat.lt_of_lt_of_le (HZ3.out x hx) b4.size) (by omega) 8 [n] (by simp))
    clear b4 hi h4
    go_wp2_with fail
    refine HA.out.mono ?_
    rintro e w6 ⟨rfl, h6, b6⟩
    have HF6 := hideB h6
    have HB6 := hideB (HB4.out.trans b6)
    clear h6 b6
    go_wp2_with fail
    go_ret
    exact FrOr.of (by rw [HE.out, bindF_y HRR.out, mustF_y HI4.out]) (FrOr.add HF6.out HB6.out)
  · rw [h93] at HT
    have HE : Hid (listF WPr R s.data.toList fs q = addF WPr (nodeK 8) fs (skF s.data.toList (q + 1))) := by rw [Hid]; unfold listF; rw [if_pos h93]
    clear h93
    go_wp2_with fail
    refine HT.out.mono ?_
    rintro e w2 ⟨rfl, h2, b2⟩
    have HB2 := hideB (HB1.out.trans b2)
    have HA := hideB (addK_any h2 (by omega) 8 ByteArray.empty 0)
    clear h2 b2
    go_wp2_with fail
    refine HA.out.mono ?_
    rintro e w6 ⟨rfl, h6, b6⟩
    have HF6 := hideB h6
    have HB6 := hideB (HB2.out.trans b6)
    clear h6 b6
    go_wp2_with fail
    go_ret
    exact FrOr.of HE.out (FrOr.add HF6.out HB6.out)
end
end Go.Proofs.YtcidjhnogldgmaaGreatDoor

namespace Go.Proofs.YtcidjhnogldgmaaGreatDoor
open Go.RowKit
set_option linter.unusedSimpArgs false
set_option linter.unusedVariables false
set_option linter.unusedSectionVars false
theorem infoS7 : (Tryz.prog.info? 9).map (fun i => (i.zero, i.size, i.bytes)) = some (some (.string ByteArray.empty), 1, 16) := by kernel_rfl
theorem infoI7 : (Tryz.prog.info? 2).map (fun i => (i.zero, i.size, i.bytes)) = some (some (.int .i64 0), 1, 8) := by kernel_rfl
theorem wordF_y {L : List UInt8} {w : List UInt8} {q : Nat} {k : Nat → RF} (h : nameF L q = w) : wordF L w q k = k (skF L (nmJ L q)) := by unfold wordF; rw [if_pos h]
theorem wordF_n {L : List UInt8} {w : List UInt8} {q : Nat} {k : Nat → RF} (h : nameF L q ≠ w) : wordF L w q k = none := by unfold wordF; rw [if_neg h]
section
variable {R : RD} {f rb mb base : Nat} {s : ByteArray} (HR : RdsF R f rb mb base s) (HG : GoesF s.data.toList R)
include HR HG
set_option maxRecDepth 100000 in
set_option maxHeartbeats 3200000 in
theorem readIf_any {p : Nat} {Z : Nat → Prop} {fs : List FN} {w : World} (h : FrAt w rb mb base Z s p fs) (hZ : ∀ x, Z x → x < w.heap.size) (hs : s.size ≤ 1000) (hl : fs.length ≤ p) (hf : s.size < p + f) :
    Calls Tryz.prog 147 #[.pointer (some ⟨rb, 0, none⟩)] w (FrOr (ifF WPr R s.data.toList fs p) rb mb base Z s w) := by
  have HLN := hideB (len_is s)
  have hps := h.le
  have HHR := hideB HR
  have HHG := hideB HG
  have HRD := hideB (HR 1 Z fs p w (by decide) (by decide) hZ h hl hf)
  have HZ : Hid (∀ x, Z x → x < w.heap.size) := hZ
  clear h hZ HR HG
  go_enter Tryz.func147, Tryz.ntmps147
  go_wp2_with fail
  refine HRD.out.mono ?_
  rintro e w1 ⟨b1, ⟨a, fs1, q1, hr, rfl, h1⟩ | ⟨hr, rfl⟩⟩
  rotate_left
  · have HB1 := hideB b1
    have HR1 := hideB hr
    clear b1 hr
    unfold gup
    go_wp2_with fail
    exact ⟨rfl, FrOr.no (by unfold ifF; exact bindF_n HR1.out) HB1.out⟩
  have HB1 := hideB b1
  have HR1 := hideB hr
  have wt := HHG.out _ _ _ _ _ _ (by rw [HLN.out]; exact hps) hr
  have w1lt := wt.lt
  have w1cn := wt.cnt
  have HM := hideB (mustWord_any (u := ⟨#[116, 104, 101, 110]⟩) h1 (by omega))
  have HZ1 : Hid (∀ x, Z x → x < w1.heap.size) := fun x hx => Nat.lt_of_lt_of_le (HZ.out x hx) b1.size
  clear h1 b1 hr wt
  go_wp2_with fail
  refine HM.out.mono ?_
  rintro e w2 ⟨b2, ⟨hi, rfl, h2⟩ | ⟨hi, rfl⟩⟩
  rotate_left
  · have HB2 := hideB (HB1.out.trans b2)
    have HI2 := hideB hi
    clear b2 hi
    unfold gup
    go_wp2_with fail
    exact ⟨rfl, FrOr.no (by unfold ifF; rw [bindF_y HR1.out]; exact wordF_n HI2.out) HB2.out⟩
  have HB2 := hideB (HB1.out.trans b2)
  have HI2 := hideB hi
  obtain ⟨q2, hq2⟩ : ∃ q, skF s.data.toList (nmJ s.data.toList q1) = q := ⟨_, rfl⟩
  have HQ2 := hideB hq2
  have hq12 : q1 ≤ q2 := by rw [← hq2]; exact Nat.le_trans (runJ_ge _ _ _) (skF_ge _ _)
  rw [hq2] at h2
  have hle2 := h2.le
  have HZ2 : Hid (∀ x, Z x → x < w2.heap.size) := fun x hx => Nat.lt_of_lt_of_le (HZ1.out x hx) b2.size
  have HRD2 := hideB (HHR.out 1 Z fs1 q2 w2 (by decide) (by decide) HZ2.out h2 (by omega) (by omega))
  clear h2 b2 hi hq2
  go_wp2_with fail
  refine HRD2.out.mono ?_
  rintro e w3 ⟨b3, ⟨b, fs3, q3, hr, rfl, h3⟩ | ⟨hr, rfl⟩⟩
  rotate_left
  · have HB3 := hideB (HB2.out.trans b3)
    have HR3 := hideB hr
    clear b3 hr
    unfold gup
    go_wp2_with fail
    exact ⟨rfl, FrOr.no (by unfold ifF; rw [bindF_y HR1.out]; refine (wordF_y HI2.out).trans ?_; rw [HQ2.out]; exact bindF_n HR3.out) HB3.out⟩
  have HB3 := hideB (HB2.out.trans b3)
  have HR3 := hideB hr
  have wt := HHG.out _ _ _ _ _ _ (by rw [HLN.out]; exact hle2) hr
  have w3lt := wt.lt
  have w3cn := wt.cnt
  have HM2 := hideB (mustWord_any (u := ⟨#[101, 108, 115, 101]⟩) h3 (by omega))
  have HZ3 : Hid (∀ x, Z x → x < w3.heap.size) := fun x hx => Nat.lt_of_lt_of_le (HZ2.out x hx) b3.size
  clear h3 b3 hr wt
  go_wp2_with fail
  refine HM2.out.mono ?_
  rintro e w4 ⟨b4, ⟨hi, rfl, h4⟩ | ⟨hi, rfl⟩⟩
  rotate_left
  · have HB4 := hideB (HB3.out.trans b4)
    have HI4 := hideB hi
    clear b4 hi
    unfold gup
    go_wp2_with fail
    exact ⟨rfl, FrOr.no (by unfold ifF; rw [bindF_y HR1.out]; refine (wordF_y HI2.out).trans ?_; rw [HQ2.out, bindF_y HR3.out]; exact wordF_n HI4.out) HB4.out⟩
  have HB4 := hideB (HB3.out.trans b4)
  have HI4 := hideB hi
  obtain ⟨q4, hq4⟩ : ∃ q, skF s.data.toList (nmJ s.data.toList q3) = q := ⟨_, rfl⟩
  have HQ4 := hideB hq4
  have hq34 : q3 ≤ q4 := by rw [← hq4]; exact Nat.le_trans (runJ_ge _ _ _) (skF_ge _ _)
  rw [hq4] at h4
  have hle4 := h4.le
  have HZ4 : Hid (∀ x, Z x → x < w4.heap.size) := fun x hx => Nat.lt_of_lt_of_le (HZ3.out x hx) b4.size
  have HRD4 := hideB (HHR.out 1 Z fs3 q4 w4 (by decide) (by decide) HZ4.out h4 (by omega) (by omega))
  clear h4 b4 hi hq4
  go_wp2_with fail
  refine HRD4.out.mono ?_
  rintro e w5 ⟨b5, ⟨c, fs5, q5, hr, rfl, h5⟩ | ⟨hr, rfl⟩⟩
  rotate_left
  · have HB5 := hideB (HB4.out.trans b5)
    have HR5 := hideB hr
    clear b5 hr
    unfold gup
    go_wp2_with fail
    exact ⟨rfl, FrOr.no (by unfold ifF; rw [bindF_y HR1.out]; refine (wordF_y HI2.out).trans ?_; rw [HQ2.out, bindF_y HR3.out]; refine (wordF_y HI4.out).trans ?_; rw [HQ4.out]; exact bindF_n HR5.out) HB5.out⟩
  have HB5 := hideB (HB4.out.trans b5)
  have HR5 := hideB hr
  have wt := HHG.out _ _ _ _ _ _ (by rw [HLN.out]; exact hle4) hr
  have w5lt := wt.lt
  have w5cn := wt.cnt
  have w5le := wt.le
  rw [HLN.out] at w5le
  have HM3 := hideB (mustWord_any (u := ⟨#[101, 110, 100]⟩) h5 (by omega))
  have HZ5 : Hid (∀ x, Z x → x < w5.heap.size) := fun x hx => Nat.lt_of_lt_of_le (HZ4.out x hx) b5.size
  clear h5 b5 hr wt
  go_wp2_with fail
  refine HM3.out.mono ?_
  rintro e w6 ⟨b6, ⟨hi, rfl, h6⟩ | ⟨hi, rfl⟩⟩
  rotate_left
  · have HB6 := hideB (HB5.out.trans b6)
    have HI6 := hideB hi
    clear b6 hi
    unfold gup
    go_wp2_with fail
    exact ⟨rfl, FrOr.no (by unfold ifF; rw [bindF_y HR1.out]; refine (wordF_y HI2.out).trans ?_; rw [HQ2.out, bindF_y HR3.out]; refine (wordF_y HI4.out).trans ?_; rw [HQ4.out, bindF_y HR5.out]; exact wordF_n HI6.out) HB6.out⟩
  have HB6 := hideB (HB5.out.trans b6)
  have HI6 := hideB hi
  have HA := hideB (addR_any h6 (fun x hx => Nat.lt_of_lt_of_le (HZ5.out x hx) b6.size) (by omega) 22 [a, b, c] (by simp))
  clear h6 b6 hi
  go_wp2_with fail
  refine HA.out.mono ?_
  rintro e w7 ⟨rfl, h7, b7⟩
  have HF7 := hideB h7
  have HB7 := hideB (HB6.out.trans b7)
  clear h7 b7
  go_wp2_with fail
  go_ret
  exact FrOr.of (by unfold ifF; rw [bindF_y HR1.out]; refine (wordF_y HI2.out).trans ?_; rw [HQ2.out, bindF_y HR3.out]; refine (wordF_y HI4.out).trans ?_; rw [HQ4.out, bindF_y HR5.out]; exact wordF_y HI6.out) (FrOr.add HF7.out HB7.out)
end
end Go.Proofs.YtcidjhnogldgmaaGreatDoor

namespace Go.Proofs.YtcidjhnogldgmaaGreatDoor
open Go.RowKit
open Go.ChangeMaps (setBlock)
set_option linter.unusedSimpArgs false
set_option linter.unusedVariables false
def SpB (B : Nat) (w : World) : Prop := ∀ w', Below B w w' → Lib.TabIs Tryz.prog w' "strings.asciiSpace" .u8 Lib.asciiSpaceTab
theorem SpB.next {B : Nat} {w w' : World} (h : SpB B w) (hb : Below B w w') : SpB B w' := fun w2 h2 => h w2 (hb.trans h2)
theorem find_none (a b : Nat) : ∀ (l : List (Nat × Nat × Int)) (i : Nat), (∀ x ∈ l, ¬ (a = x.1 ∧ b = x.2.1)) → findS a b i l = none := by
  intro l
  induction l with
  | nil => intro i _; rfl
  | cons x l ih => intro i h; rw [findS, if_neg (h x (by simp)), ih _ (fun y hy => h y (by simp [hy]))]
theorem upd_run {w : World} {mb m a b : Nat} {k : Int} (h : w.heap[mb]? = some (.map (signM m) m)) (hm : m < 10) (hx : signL[m]? = some (a, b, k)) (hn : ∀ x ∈ signL.take m, ¬ (a = x.1 ∧ b = x.2.1)) :
    (Instr.mapUpdate 83 (.map (some mb)) (.agg #[.int .u8 (a : Int), .int .u8 (b : Int)]) (.agg (jointL k).toArray)).run Tryz.prog w = .ok () (setBlock w mb (.map (signM (m + 1)) (m + 1))) := by
  have hu := Tryz.underlying83
  have hlt : mb < w.heap.size := ltHF h
  have hg : (getObj mb).run Tryz.prog w = .ok (.map (signM m) m) w := by
    have h' := h
    rw [Array.getElem?_eq_getElem hlt] at h'
    simp [getObj, Sem.run, h', hlt]
  have hc : (Instr.checkKey false 10000 120 (.agg #[.int .u8 (a : Int), .int .u8 (b : Int)])).run Tryz.prog w = .ok () w := by kernel_rfl
  have hk : (Instr.findKey 120 (.agg #[.int .u8 (a : Int), .int .u8 (b : Int)]) (signM m).toList).run Tryz.prog w = .ok none w := by
    have hn2 : Instr.findNow (.struct (Tryz.prog.fieldsOf 120)) (.agg #[.int .u8 (a : Int), .int .u8 (b : Int)]) (signM m).toList 0 = none ∨ (signM m).toList = [] := by
      unfold signM
      cases hl : signL.take m with
      | nil => exact .inr rfl
      | cons x l => exact .inl rfl
    have hf := find_run a b w (signL.take m) 0 0
    rw [find_none a b _ 0 hn] at hf
    have hs : Tryz.prog.underlying 120 = some (.struct (Tryz.prog.fieldsOf 120)) := by kernel_rfl
    unfold Instr.findKey
    simp only [Sem.run_bind, run_underlying hs, Result.andThen_ok]
    rcases hn2 with hn2 | hn2
    · rw [hn2]; exact hf
    · rw [hn2]; rfl
  have hso : ∀ o, (setObj mb o).run Tryz.prog w = .ok () (setBlock w mb o) := fun o => by
    have h' := h
    rw [Array.getElem?_eq_getElem hlt] at h'
    simp [setObj, Sem.run, h', hlt, setBlock]
  have hpush : (signM m).push ⟨.agg #[.int .u8 (a : Int), .int .u8 (b : Int)], .agg (jointL k).toArray, m⟩ = signM (m + 1) := by
    rcases (show m = 0 ∨ m = 1 ∨ m = 2 ∨ m = 3 ∨ m = 4 ∨ m = 5 ∨ m = 6 ∨ m = 7 ∨ m = 8 ∨ m = 9 by omega) with rfl | rfl | rfl | rfl | rfl | rfl | rfl | rfl | rfl | rfl <;> (simp [signL] at hx; obtain ⟨rfl, rfl, rfl⟩ := hx; rfl)
  unfold Instr.mapUpdate
  simp only [Sem.run_bind, run_underlying hu, Result.andThen_ok, hg, hc, hk, hso, hpush]
theorem asc {l : List UInt8} (h : ∀ c ∈ l, c.toNat < 128) : ∀ (j : Nat) c, (txt l).data.toList[j]? = some c → c.toNat < 128 := fun j c hj => by
  rw [bytes_txt] at hj
  exact h c (List.mem_of_getElem? hj)
theorem row_any {J : Array Value} (hJ : jointC.toArray = J) {m : Nat} (hm : m < 10) : ∃ (kk : Int) (sg : ByteArray) (lv lf rg : Int) (a b : Nat) (tr : List UInt8), (∀ W, (Instr.index 117 (.agg J) (.int .i64 (m : Int))).run Tryz.prog W = .ok (.agg #[.int .i64 kk, .string sg, .int .i64 lv, .int .i64 lf, .int .i64 rg]) W) ∧ (jointL kk).toArray = #[.int .i64 kk, .string sg, .int .i64 lv, .int .i64 lf, .int .i64 rg] ∧ Lib.trimSpace sg.data.toList = tr ∧ sg.size ≤ 4 ∧ (∀ (j : Nat) c, sg.data.toList[j]? = some c → c.toNat < 128) ∧ 1 ≤ tr.length ∧ tr.length ≤ 2 ∧ (∃ x, (tr ++ [0])[0]? = some x ∧ x.toNat = a) ∧ (∃ x, (tr ++ [0])[1]? = some x ∧ x.toNat = b) ∧ signL[m]? = some (a, b, kk) ∧ ∀ x ∈ signL.take m, ¬ (a = x.1 ∧ b = x.2.1) := by
  rw [← hJ]
  rcases (show m = 0 ∨ m = 1 ∨ m = 2 ∨ m = 3 ∨ m = 4 ∨ m = 5 ∨ m = 6 ∨ m = 7 ∨ m = 8 ∨ m = 9 by omega) with rfl | rfl | rfl | rfl | rfl | rfl | rfl | rfl | rfl | rfl
  · exact ⟨6, txt (sgnJ 6), levF 6, lftJ 6, rgtJ 6, 124, 0, [124], jix0, rfl, by decide +kernel, by decide, asc (by decide), by decide, by decide, ⟨_, rfl, rfl⟩, ⟨_, rfl, rfl⟩, rfl, by decide⟩
  · exact ⟨7, txt (sgnJ 7), levF 7, lftJ 7, rgtJ 7, 44, 0, [44], jix1, rfl, by decide +kernel, by decide, asc (by decide), by decide, by decide, ⟨_, rfl, rfl⟩, ⟨_, rfl, rfl⟩, rfl, by decide⟩
  · exact ⟨21, txt (sgnJ 21), levF 21, lftJ 21, rgtJ 21, 47, 47, [47, 47], jix2, rfl, by decide +kernel, by decide, asc (by decide), by decide, by decide, ⟨_, rfl, rfl⟩, ⟨_, rfl, rfl⟩, rfl, by decide⟩
  · exact ⟨17, txt (sgnJ 17), levF 17, lftJ 17, rgtJ 17, 61, 61, [61, 61], jix3, rfl, by decide +kernel, by decide, asc (by decide), by decide, by decide, ⟨_, rfl, rfl⟩, ⟨_, rfl, rfl⟩, rfl, by decide⟩
  · exact ⟨18, txt (sgnJ 18), levF 18, lftJ 18, rgtJ 18, 33, 61, [33, 61], jix4, rfl, by decide +kernel, by decide, asc (by decide), by decide, by decide, ⟨_, rfl, rfl⟩, ⟨_, rfl, rfl⟩, rfl, by decide⟩
  · exact ⟨19, txt (sgnJ 19), levF 19, lftJ 19, rgtJ 19, 60, 0, [60], jix5, rfl, by decide +kernel, by decide, asc (by decide), by decide, by decide, ⟨_, rfl, rfl⟩, ⟨_, rfl, rfl⟩, rfl, by decide⟩
  · exact ⟨20, txt (sgnJ 20), levF 20, lftJ 20, rgtJ 20, 60, 61, [60, 61], jix6, rfl, by decide +kernel, by decide, asc (by decide), by decide, by decide, ⟨_, rfl, rfl⟩, ⟨_, rfl, rfl⟩, rfl, by decide⟩
  · exact ⟨15, txt (sgnJ 15), levF 15, lftJ 15, rgtJ 15, 43, 0, [43], jix7, rfl, by decide +kernel, by decide, asc (by decide), by decide, by decide, ⟨_, rfl, rfl⟩, ⟨_, rfl, rfl⟩, rfl, by decide⟩
  · exact ⟨16, txt (sgnJ 16), levF 16, lftJ 16, rgtJ 16, 45, 0, [45], jix8, rfl, by decide +kernel, by decide, asc (by decide), by decide, by decide, ⟨_, rfl, rfl⟩, ⟨_, rfl, rfl⟩, rfl, by decide⟩
  · exact ⟨23, txt (sgnJ 23), levF 23, lftJ 23, rgtJ 23, 63, 0, [63], jix9, rfl, by decide +kernel, by decide, asc (by decide), by decide, by decide, ⟨_, rfl, rfl⟩, ⟨_, rfl, rfl⟩, rfl, by decide⟩
end Go.Proofs.YtcidjhnogldgmaaGreatDoor

namespace Go.Proofs.YtcidjhnogldgmaaGreatDoor
open Go.RowKit
open Go.ChangeMaps (setBlock)
set_option linter.unusedSimpArgs false
set_option linter.unusedVariables false
theorem setBlock_same {w : World} {b : Nat} {o : Obj} (h : b < w.heap.size) : (setBlock w b o).heap[b]? = some o := by simp [setBlock, h]
theorem setBlock_below {w : World} {b B : Nat} {o : Obj} (h : B ≤ b) : Below B w (setBlock w b o) := ⟨rfl, rfl, rfl, by simp [setBlock], fun x hx => by simp [setBlock, Array.getElem?_setIfInBounds]; intro e; omega⟩
set_option maxRecDepth 100000 in
set_option maxHeartbeats 6400000 in
theorem jointSigns_any (w : World) (hj : JtB w.heap.size w) (hsp : SpB w.heap.size w) :
    Calls Tryz.prog 35 #[] w fun e w' => e = .returned (.map (some w.heap.size)) ∧ w'.heap[w.heap.size]? = some (.map (signM 10) 10) ∧ Below w.heap.size w w' := by
  have HJT := hideB (fun W hb => hj W hb)
  have HSP := hideB hsp
  clear hj hsp
  have hmm := @run_makeMap Tryz.prog
  obtain ⟨W1, hW1⟩ : ∃ W1, w.alloc (.map #[] 0) = W1 := ⟨_, rfl⟩
  have hb1 : Below w.heap.size w W1 := by rw [← hW1]; exact (Below.refl _ _).alloc (Nat.le_refl _) _
  have hx1 : W1.heap[w.heap.size]? = some (.map (signM 0) 0) := by rw [← hW1]; exact heap_alloc_new w _
  have HB1 := hideB hb1
  have HX1 := hideB hx1
  have hz1 : w.heap.size < W1.heap.size := by rw [← hW1]; simp
  have HW1 := hideB hW1
  clear hb1 hx1 hW1
  go_enter Tryz.func35, Tryz.ntmps35
  go_upto_region 2 with fail
  (try rw [HW1.out])
  refine wp_region_lit ?_
  refine wpList_load_mid rfl 117 (.global 1) rfl 1 0 rfl jointC _ (HJT.out _ HB1.out) j_und rfl j_inf ?_
  obtain ⟨J, hJ⟩ : ∃ J, jointC.toArray = J := ⟨_, rfl⟩
  rw [hJ]
  have HJ := hideB hJ
  clear hJ hmm
  go_wp2_with fail
  go_loopw [3, 4, 7] (fun _ _ i wr => ∃ m : Nat, m ≤ 10 ∧ i = .int .i64 m ∧ wr.heap[w.heap.size]? = some (.map (signM m) m) ∧ Below w.heap.size w wr) (fun _ _ i _ => 10 - (intOf i).toNat)
  case atStart => exact ⟨0, by omega, rfl, HX1.out, HB1.out⟩
  case round =>
    obtain ⟨m, hm, rfl, hx, hb⟩ := hrel
    have HX := hideB hx
    have HB := hideB hb
    have zr := hb.size
    have hxl : w.heap.size < wr.heap.size := ltHF hx
    clear hx hb
    rcases (show m = 10 ∨ m < 10 by omega) with rfl | hlt
    · go_wp2_with fail
      go_ret
      exact ⟨rfl, HX.out, HB.out⟩
    · have hlt' : (m : Int) < 10 := by omega
      obtain ⟨kk, sg, lv, lf, rg, a, b, tr, hix, hjl, htr, hsz, hasc, hl1, hl2, ⟨x0, hx0, hx0'⟩, ⟨x1, hx1, hx1'⟩, hsl, hnot⟩ := row_any HJ.out hlt
      obtain ⟨W2, hW2⟩ : ∃ W2, wr.alloc (.cells #[.int .i64 kk, .string sg, .int .i64 lv, .int .i64 lf, .int .i64 rg] 116) = W2 := ⟨_, rfl⟩
      have hb2 : Below wr.heap.size wr W2 := by rw [← hW2]; exact (Below.refl _ _).alloc (Nat.le_refl _) _
      have hj2 : W2.heap[wr.heap.size]? = some (.cells #[.int .i64 kk, .string sg, .int .i64 lv, .int .i64 lf, .int .i64 rg] 116 (0, 0)) := by rw [← hW2]; exact heap_alloc_new wr _
      have hz2 : wr.heap.size < W2.heap.size := by rw [← hW2]; simp
      have HB2 := hideB (HB.out.trans (hb2.mono zr))
      have HX2 : Hid (W2.heap[w.heap.size]? = _) := (hb2.block _ hxl).trans HX.out
      have HTS := hideB (Tryz.strings_TrimSpace sg W2 (by omega) hasc (HSP.out W2 HB2.out))
      obtain ⟨T, hT⟩ : ∃ T : ByteArray, (⟨(Lib.trimSpace sg.data.toList).toArray⟩ : ByteArray) = T := ⟨_, rfl⟩
      have HTD : Hid (T = txt tr) := by rw [Hid, ← hT, htr]; rfl
      rw [hT] at HTS
      have hTs : T.size = tr.length := by rw [HTD.out, txt_size]
      have HTS' := hideB hTs
      have HJ2 := hideB hj2
      have y1 := cellAt hj2 (i := 1) rfl
      have HW2 := hideB hW2
      have HLW := hideB hjl
      have HSL := hideB hsl
      have HNOT := hideB hnot
      have hT3 : T.size ≤ 2 := by omega
      obtain ⟨U, hU⟩ : ∃ U, T ++ (⟨#[0]⟩ : ByteArray) = U := ⟨_, rfl⟩
      have hUs : U.size = T.size + 1 := by rw [← hU, ByteArray.size_append]; rfl
      have hUd : U.data.toList = tr ++ [0] := by rw [← hU, HTD.out, show (⟨#[0]⟩ : ByteArray) = txt [0] from rfl, txt_app, bytes_txt]
      have hU0 : 0 < U.size := by omega
      have hU1 : 1 < U.size := by omega
      have g0 : U[0].toNat = a := by
        have := getK? hU0
        rw [hUd, hx0] at this
        simp at this
        rw [← this]; exact hx0'
      have g1 : U[1].toNat = b := by
        have := getK? hU1
        rw [hUd, hx1] at this
        simp at this
        rw [← this]; exact hx1'
      have hU0' : (0 : Int) < (U.size : Int) := by omega
      have hU1' : (1 : Int) < (U.size : Int) := by omega
      have HUS := hideB hUs
      clear hb2 hj2 hW2 hjl hsl hnot hx0 hx1 hx0' hx1' htr hasc hl1 hl2 hT hTs hUd hUs
      go_upto_region 5 with fail
      rw [HW2.out]
      go_upto_region 6 with (go_at_call 54; refine HTS.out.mono ?_; rintro e w3 ⟨rfl, hw3⟩)
      have hb3 : Below W2.heap.size W2 w3 := by rw [hw3]; exact Lib.bytesWorld_below _ _ _
      have hj3 : w3.heap[wr.heap.size]? = some (.cells #[.int .i64 kk, .string sg, .int .i64 lv, .int .i64 lf, .int .i64 rg] 116 (0, 0)) := (hb3.block _ hz2).trans HJ2.out
      have hm3 : w3.heap[w.heap.size]? = some (.map (signM m) m) := (hb3.block _ (by omega)).trans HX2.out
      have HB3 := hideB (HB2.out.trans (hb3.mono (by omega)))
      have u0 := cellAt hj3 (i := 0) rfl
      have u1 := cellAt hj3 (i := 1) rfl
      have u2 := cellAt hj3 (i := 2) rfl
      have u3 := cellAt hj3 (i := 3) rfl
      have u4 := cellAt hj3 (i := 4) rfl
      have hup := upd_run (w := w3.drew) hm3 hlt HSL.out HNOT.out
      rw [HLW.out] at hup
      have HM3 := hideB hm3
      (try rw [← hw3])
      clear hw3 hb3 hj3 hm3 y1
      go_region
      all_goals
        have hz3 : w.heap.size < w3.heap.size := ltHF HM3.out
        have HXN : Hid ((setBlock w3.drew w.heap.size (.map (signM (m + 1)) (m + 1))).heap[w.heap.size]? = some (.map (signM (m + 1)) (m + 1))) := setBlock_same hz3
        have HBN : Hid (Below w.heap.size w (setBlock w3.drew w.heap.size (.map (signM (m + 1)) (m + 1)))) := HB3.out.drew.trans (setBlock_below (Nat.le_refl _))
        go_wp2_with fail
        go_roundw
        case rel => exact ⟨m + 1, by omega, by go_num, HXN.out, HBN.out⟩
        case measure => simp [intOf]; omega
end Go.Proofs.YtcidjhnogldgmaaGreatDoor
