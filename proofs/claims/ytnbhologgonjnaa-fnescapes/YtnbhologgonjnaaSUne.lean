/-
  The specification's Unescaped.
-/
import Derived.Test.YtnbhologgonjnaaSDig
import Derived.Test.YtnbhologgonjnaaRowB
namespace Go.Proofs.Ytnbhologgonjnaa
open Go.RowKit Go.WideShapes
set_option linter.unusedSimpArgs false
set_option linter.unusedVariables false

/-- What Unescaped hands back. -/
def unV (L : List UInt8) : Value := .tuple #[.string (txt (unT L)), .bool (unB L)]
theorem unV_none {L : List UInt8} (h : une L = none) : unV L = .tuple #[.string ⟨#[]⟩, .bool false] := by simp [unV, unT, unB, h, txt]
theorem unV_no {L o : List UInt8} (h : une L = some o) (h2 : ¬ txt (esc o) = txt L) : unV L = .tuple #[.string ⟨#[]⟩, .bool false] := by
  have h3 : ¬ esc o = L := fun e => h2 (by rw [e])
  simp [unV, unT, unB, h, h3, txt]
theorem unV_yes {L o : List UInt8} (h : une L = some o) (h2 : txt (esc o) = txt L) : unV L = .tuple #[.string (txt o), .bool true] := by
  have h3 : esc o = L := txt_inj h2
  simp [unV, unT, unB, h, h3]
theorem call_dig (v : Value) (w : World) : (callFunc 24 #[v]).run Try.prog w = .ok (.enter 24 #[v]) w := by kernel_rfl
theorem ret_v {a b : Value} (h : a = b) : Ending.returned a = Ending.returned b := by rw [h]
theorem two_wrap {h g : UInt8} (hh : ¬ digI h < 0) (hg : ¬ digI g < 0) : IntKind.u8.wrap (16 * digI h + digI g) = ((twoB h g).toNat : Int) := by
  have a := digI_lt h; have b := digI_lt g; have a2 := digI_ge h; have b2 := digI_ge g
  rw [u8_wrap (by omega) (by omega)]
  unfold twoB twoI
  rw [UInt8.toNat_ofNat_of_lt' (show (16 * digI h + digI g).toNat < 256 by omega)]
  omega

set_option maxRecDepth 100000 in
set_option maxHeartbeats 6400000 in
theorem sUne_any (s : ByteArray) (w : World) (hs : s.size ≤ 1048576) : Calls Try.prog 12 #[.string s] w fun e w' => e = .returned (unV s.data.toList) ∧ Below w.heap.size w w' := by
  obtain ⟨L, hL⟩ : ∃ L, s.data.toList = L := ⟨_, rfl⟩
  have HL := hideB hL
  have hlen : L.length = s.size := by rw [← hL, len_is]
  have HLEN := hideB hlen
  clear hlen
  have HG : Hid (∀ k (h : k < s.size), L[k]? = some s[k]) := fun k h => by rw [← hL]; exact getK? h
  rw [hL]
  clear hL
  go_enter Try.func12, Try.ntmps12
  go_wp2_with fail
  go_loopw [4, 5] (fun v i wr => ∃ (k : Nat) (o : List UInt8), k ≤ s.size ∧ i = .int .i64 k ∧ RowB w.heap.size wr v o ∧ Hid (UneAt L k o) ∧ Below w.heap.size w wr) (fun _ i _ => s.size - (intOf i).toNat)
  case atStart => exact ⟨0, [], Nat.zero_le _, rfl, rowB_new w, UneAt.start L, (Below.refl _ _).alloc (Nat.le_refl _) _⟩
  case round =>
    obtain ⟨k, o, hk, rfl, hrow, HU, hbel⟩ := hrel
    obtain ⟨ao, co, eo⟩ := hrow.slice
    obtain ⟨m, hm⟩ : ∃ m, o.length = m := ⟨_, rfl⟩
    have HR := hideB hrow
    have HB := hideB hbel
    have hz := hbel.size
    have hmk : m ≤ k := by rw [← hm]; exact HU.out.2
    rw [hm] at eo
    have HM := hideB hm
    subst eo
    clear hrow hbel hm
    by_cases hlt : k < s.size
    · obtain ⟨c, hc⟩ : ∃ c, s[k] = c := ⟨_, rfl⟩
      have HC := hideB (drop1 ((HG.out k hlt).trans (by rw [hc])))
      by_cases h92 : c = 92
      · subst h92
        by_cases he : k + 1 = s.size
        · have hn : ((k : Int) + 1 == (s.size : Int)) = true := by simp; omega
          have HN := hideB (HU.out.none (by rw [HC.out, drop_all (by rw [HLEN.out]; omega)]; exact une_end))
          go_wp2_with fail
          go_ret2
          exact ⟨ret_v (unV_none HN.out).symm, HB.out⟩
        have he' : ((k : Int) + 1 == (s.size : Int)) = false := by simp; omega
        have hlt1 : k + 1 < s.size := by omega
        obtain ⟨d, hd⟩ : ∃ d, s[k + 1] = d := ⟨_, rfl⟩
        have HD := hideB (drop1 ((HG.out (k + 1) hlt1).trans (by rw [hd])))
        by_cases d110 : d = 110
        · subst d110
          have HX := hideB (HU.out.more (m := 2) (x := 10) (by omega) (by rw [HC.out, HD.out]; exact une_n _))
          go_wp2_with (at_builtin; refine wpList_push rfl _ _ rfl w.heap.size o _ rfl HR.out 10 rfl (by rw [HM.out]; omega) hz ?_)
          intro v' w' hr' hb'
          go_wp2_with fail
          refine ⟨⟨k + 2, _, by omega, by go_num, hr', HX, HB.out.trans hb'⟩, by simp [intOf]; omega⟩
        have n110 : ¬ (d.toNat : Int) = 110 := u8_ne d110
        by_cases d92 : d = 92
        · subst d92
          have HX := hideB (HU.out.more (m := 2) (x := 92) (by omega) (by rw [HC.out, HD.out]; exact une_b _))
          go_wp2_with (at_builtin; refine wpList_push rfl _ _ rfl w.heap.size o _ rfl HR.out 92 rfl (by rw [HM.out]; omega) hz ?_)
          intro v' w' hr' hb'
          go_wp2_with fail
          refine ⟨⟨k + 2, _, by omega, by go_num, hr', HX, HB.out.trans hb'⟩, by simp [intOf]; omega⟩
        have n92 : ¬ (d.toNat : Int) = 92 := u8_ne d92
        by_cases d120 : d = 120
        · subst d120
          clear n92 n110 d92 d110
          by_cases hq : s.size ≤ k + 1 + 2
          · have hq' : (s.size : Int) ≤ (k : Int) + 1 + 2 := by omega
            have HN := hideB (HU.out.none (by
              rw [HC.out, HD.out]
              by_cases hq2 : s.size ≤ k + 1 + 1
              · rw [drop_all (by rw [HLEN.out]; omega)]; exact une_x0
              · rw [drop1 (HG.out (k + 1 + 1) (by omega)), drop_all (by rw [HLEN.out]; omega)]; exact une_x1 _))
            go_wp2_with fail
            go_ret2
            exact ⟨ret_v (unV_none HN.out).symm, HB.out⟩
          have hq' : ¬ (s.size : Int) ≤ (k : Int) + 1 + 2 := by omega
          obtain ⟨h, hh⟩ : ∃ h, s[k + 2]'(by omega) = h := ⟨_, rfl⟩
          obtain ⟨g, hg⟩ : ∃ g, s[k + 3]'(by omega) = g := ⟨_, rfl⟩
          have HH := hideB (drop1 ((HG.out (k + 2) (by omega)).trans (by rw [hh])))
          have HGG := hideB (drop1 ((HG.out (k + 3) (by omega)).trans (by rw [hg])))
          have b1 := digI_lt h
          have b2 := digI_lt g
          have b3 := digI_ge h
          have b4 := digI_ge g
          by_cases f1 : digI h < 0
          · have HN := hideB (HU.out.none (by rw [HC.out, HD.out]; show une (92 :: 120 :: L.drop (k + 2)) = none; rw [HH.out]; show une (92 :: 120 :: h :: L.drop (k + 3)) = none; rw [HGG.out]; exact une_xbad _ _ _ (.inl f1)))
            go_wp2_with (go_at_call 24; refine (l2Digit_any _ _).mono ?_; rintro e w' ⟨rfl, rfl⟩)
            go_ret2
            exact ⟨ret_v (unV_none HN.out).symm, HB.out⟩
          by_cases f2 : digI g < 0
          · have HN := hideB (HU.out.none (by rw [HC.out, HD.out]; show une (92 :: 120 :: L.drop (k + 2)) = none; rw [HH.out]; show une (92 :: 120 :: h :: L.drop (k + 3)) = none; rw [HGG.out]; exact une_xbad _ _ _ (.inr f2)))
            go_wp2_with (go_at_call 24; refine (l2Digit_any _ _).mono ?_; rintro e w' ⟨rfl, rfl⟩)
            go_ret2
            exact ⟨ret_v (unV_none HN.out).symm, HB.out⟩
          have HX := hideB (HU.out.more (m := 4) (x := twoB h g) (by omega) (by rw [HC.out, HD.out]; show une (92 :: 120 :: L.drop (k + 2)) = _; rw [HH.out]; show une (92 :: 120 :: h :: L.drop (k + 3)) = _; rw [HGG.out]; exact une_x _ _ _ f1 f2))
          have e3 := two_wrap f1 f2
          have e1 : IntKind.i64.wrap (16 * digI h) = 16 * digI h := i64_wrap (by omega) (by omega)
          have e2 : IntKind.i64.wrap (16 * digI h + digI g) = 16 * digI h + digI g := i64_wrap (by omega) (by omega)
          go_wp2_with (go_at_call 24; refine (l2Digit_any _ _).mono ?_; rintro e w9 ⟨rfl, h9⟩; subst w9)
          have e4 : IntKind.i64.wrap ((k : Int) + 1 + 1) = (k : Int) + 2 := (i64_wrap (by omega) (by omega)).trans (by omega)
          have e5 : IntKind.i64.wrap ((k : Int) + 1 + 2) = (k : Int) + 3 := (i64_wrap (by omega) (by omega)).trans (by omega)
          have t4 : ((k : Int) + 2).toNat = k + 2 := by omega
          have t5 : ((k : Int) + 3).toNat = k + 3 := by omega
          have c4 : (0 : Int) ≤ (k : Int) + 2 := by omega
          have c5 : (0 : Int) ≤ (k : Int) + 3 := by omega
          have c6 : (k : Int) + 2 < (s.size : Int) := by omega
          have c7 : (k : Int) + 3 < (s.size : Int) := by omega
          have hz2 : w.heap.size ≤ wr.drew.heap.size := hz
          have hml : o.length + 1 ≤ 70368744177664 := by rw [HM.out]; omega
          go_region_law (first
            | (refine step_callT (by rfl) 24 _ _ (by rfl) (.int .u8 (h.toNat : Int)) (by rfl) (call_dig _) (l2Digit_any h _) ?_; rintro e w9 ⟨rfl, h9⟩; subst w9; refine ⟨_, rfl, ?_⟩)
            | (refine step_callT (by rfl) 24 _ _ (by rfl) (.int .u8 (g.toNat : Int)) (by rfl) (call_dig _) (l2Digit_any g _) ?_; rintro e w9 ⟨rfl, h9⟩; subst w9; refine ⟨_, rfl, ?_⟩)
            | (refine step_push (by rfl) _ _ (by rfl) w.heap.size o (.slice ao m co) (by rfl) HR.out.drew (twoB h g) (by rfl) hml hz2 ?_; intro v' w' hr' hb'))
          all_goals (
            go_wp2_with fail
            refine ⟨⟨k + 4, _, by omega, by go_num, hr', HX, HB.out.drew.trans hb'⟩, by simp [intOf]; omega⟩)
        have n120 : ¬ (d.toNat : Int) = 120 := u8_ne d120
        have HN := hideB (HU.out.none (by rw [HC.out, HD.out]; exact une_bad d92 d110 d120 _))
        clear d92 d110 d120
        go_wp2_with fail
        go_ret2
        exact ⟨ret_v (unV_none HN.out).symm, HB.out⟩
      · have n92 : ¬ (c.toNat : Int) = 92 := u8_ne h92
        have HX := hideB (HU.out.more (m := 1) (x := c) (by omega) (by rw [HC.out]; exact une_plain h92 _))
        clear h92
        go_wp2_with (at_builtin; refine wpList_push rfl _ _ rfl w.heap.size o _ rfl HR.out c rfl (by rw [HM.out]; omega) hz ?_)
        intro v' w' hr' hb'
        go_wp2_with fail
        refine ⟨⟨k + 1, _, by omega, by go_num, hr', HX, HB.out.trans hb'⟩, by simp [intOf]; omega⟩
    · obtain rfl : k = s.size := by omega
      have HO := hideB (show une L = some o from UneAt.done (by rw [HLEN.out]; exact HU.out))
      have hsz : (txt o).size ≤ 1048576 := by rw [txt_size, HM.out]; omega
      have hc0 := HR.out.text HM.out
      have CE := fun w => sEsc_any (txt o) w (by omega)
      rw [bytes_txt] at CE
      obtain ⟨E, hE⟩ : ∃ E, txt (esc o) = E := ⟨_, rfl⟩
      rw [hE] at CE
      have HE := hideB hE
      have HCE := hideB CE
      clear hE CE
      have HSL := hideB (show s = txt L by rw [← HL.out, txt_bytes])
      rcases Bool.eq_false_or_eq_true (E.toList == s.toList) with hy | hy
      · have HV := hideB (unV_yes HO.out (by rw [HE.out, ← HSL.out]; exact str_eq hy))
        go_wp2_with (go_at_call 10; refine (HCE.out _).mono ?_; rintro e w1 ⟨rfl, hb1⟩; have hc1 := (HR.out.below hb1).text HM.out)
        go_ret2
        exact ⟨ret_v HV.out.symm, HB.out.trans (hb1.mono hz)⟩
      · have HV := hideB (unV_no HO.out (by rw [HE.out, ← HSL.out]; exact str_ne hy))
        go_wp2_with (go_at_call 10; refine (HCE.out _).mono ?_; rintro e w1 ⟨rfl, hb1⟩; have hc1 := (HR.out.below hb1).text HM.out)
        go_ret2
        exact ⟨ret_v HV.out.symm, HB.out.trans (hb1.mono hz)⟩
end Go.Proofs.Ytnbhologgonjnaa
