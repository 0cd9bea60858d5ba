/-
  The program's readEscapedByte, readEscaped and Unescaped.
-/
import Derived.Test.YtnbhologgonjnaaIHex
import Derived.Test.YtnbhologgonjnaaGup
import Derived.Test.YtnbhologgonjnaaIEsc
import Derived.Test.YtnbhologgonjnaaSUne
namespace Go.Proofs.Ytnbhologgonjnaa
open Go.RowKit
set_option linter.unusedSimpArgs false
set_option linter.unusedVariables false

/-- What reading behind a sign 92 may answer. -/
def ByteOr (rb p : Nat) (s : ByteArray) (L : List UInt8) (w : World) (e : Ending) (w' : World) : Prop :=
  (∃ (x : UInt8) (m : Nat), e = .returned (.int .u8 (x.toNat : Int)) ∧ BrAt w' rb s (p + m) ∧ But rb w w' ∧ 1 ≤ m ∧ une (92 :: L.drop p) = (une (L.drop (p + m))).map (x :: ·)) ∨
  (e = gup ∧ But rb w w' ∧ une (92 :: L.drop p) = none)

set_option maxRecDepth 100000 in
set_option maxHeartbeats 3200000 in
theorem readByte_any {rb p : Nat} {s : ByteArray} {w : World} (h : BrAt w rb s p) (hs : s.size ≤ 1048576) :
    Calls Try.prog 28 #[.pointer (some ⟨rb, 0, none⟩)] w (ByteOr rb p s s.data.toList w) := by
  obtain ⟨L, hL⟩ : ∃ L, s.data.toList = L := ⟨_, rfl⟩
  have hlen : L.length = s.size := by rw [← hL, len_is]
  have HLEN := hideB hlen
  clear hlen
  have HG : Hid (∀ k (h : k < s.size), L[k]? = some s[k]) := fun k h => by rw [← hL]; exact getK? h
  rw [hL]
  clear hL
  have hle := h.le
  go_enter Try.func28, Try.ntmps28
  by_cases he : p = s.size
  · subst he
    have HN := hideB (show une (92 :: L.drop s.size) = none by rw [drop_all (by rw [HLEN.out]; omega)]; exact une_end)
    go_wp2_with (go_at_call 27; refine (next_no h hs).mono ?_; rintro e w1 ⟨rfl, h1, b1⟩; unfold gup)
    exact ⟨rfl, .inr ⟨rfl, b1, HN.out⟩⟩
  have hlt : p < s.size := by omega
  obtain ⟨d, hd⟩ : ∃ d, s[p] = d := ⟨_, rfl⟩
  have HD := hideB (drop1 ((HG.out p hlt).trans (by rw [hd])))
  have HC1 := hideB (next_yes h hlt hs)
  rw [hd] at HC1
  clear hd
  by_cases d92 : d = 92
  · subst d92
    have HX := hideB (show une (92 :: L.drop p) = (une (L.drop (p + 1))).map (92 :: ·) by rw [HD.out]; exact une_b _)
    go_wp2_with (go_at_call 27; refine HC1.out.mono ?_; rintro e w1 ⟨rfl, h1, b1⟩)
    go_ret
    exact .inl ⟨92, 1, rfl, h1, b1, by omega, HX.out⟩
  have n92 : ¬ (d.toNat : Int) = 92 := u8_ne d92
  by_cases d110 : d = 110
  · subst d110
    have HX := hideB (show une (92 :: L.drop p) = (une (L.drop (p + 1))).map (10 :: ·) by rw [HD.out]; exact une_n _)
    go_wp2_with (go_at_call 27; refine HC1.out.mono ?_; rintro e w1 ⟨rfl, h1, b1⟩)
    go_ret
    exact .inl ⟨10, 1, rfl, h1, b1, by omega, HX.out⟩
  have n110 : ¬ (d.toNat : Int) = 110 := u8_ne d110
  by_cases d120 : d = 120
  · subst d120
    clear d92 d110 n92 n110
    by_cases h1s : p + 1 = s.size
    · have HN := hideB (show une (92 :: L.drop p) = none by rw [HD.out, drop_all (by rw [HLEN.out]; omega)]; exact une_x0)
      go_wp2_with (go_at_call 27; refine HC1.out.mono ?_; rintro e w1 ⟨rfl, h1, b1⟩)
      rw [h1s] at h1
      refine (next_no h1 hs).mono ?_
      rintro e w2 ⟨rfl, h2, b2⟩
      unfold gup
      go_wp2_with fail
      exact ⟨rfl, .inr ⟨rfl, b1.trans b2, HN.out⟩⟩
    obtain ⟨x, hx⟩ : ∃ x, s[p + 1]'(by omega) = x := ⟨_, rfl⟩
    have HX1 := hideB (drop1 ((HG.out (p + 1) (by omega)).trans (by rw [hx])))
    go_wp2_with (go_at_call 27; refine HC1.out.mono ?_; rintro e w1 ⟨rfl, h1, b1⟩)
    refine (next_yes h1 (by omega) hs).mono ?_
    rw [hx]
    clear hx
    rintro e w2 ⟨rfl, h2, b2⟩
    by_cases f1 : digI x < 0
    · have HN := hideB (show une (92 :: L.drop p) = none by
        rw [HD.out, HX1.out]
        by_cases h2s : p + 1 + 1 = s.size
        · rw [drop_all (by rw [HLEN.out]; omega)]; exact une_x1 _
        · rw [drop1 (HG.out (p + 1 + 1) (by omega))]; exact une_xbad _ _ _ (.inl f1))
      go_wp2_with (go_at_call 31; refine (hex_no x f1 _).mono ?_; rintro e w9 ⟨rfl, h9⟩; subst w9; unfold gup)
      exact ⟨rfl, .inr ⟨rfl, b1.trans b2, HN.out⟩⟩
    go_wp2_with (go_at_call 31; refine (hex_yes x (by omega) _).mono ?_; rintro e w9 ⟨rfl, h9⟩; subst w9)
    by_cases h2s : p + 1 + 1 = s.size
    · have HN := hideB (show une (92 :: L.drop p) = none by rw [HD.out, HX1.out, drop_all (by rw [HLEN.out]; omega)]; exact une_x1 _)
      rw [h2s] at h2
      refine (next_no h2 hs).mono ?_
      rintro e w3 ⟨rfl, h3, b3⟩
      unfold gup
      go_wp2_with fail
      exact ⟨rfl, .inr ⟨rfl, (b1.trans b2).trans b3, HN.out⟩⟩
    obtain ⟨y, hy⟩ : ∃ y, s[p + 1 + 1]'(by omega) = y := ⟨_, rfl⟩
    have HY1 := hideB (drop1 ((HG.out (p + 1 + 1) (by omega)).trans (by rw [hy])))
    refine (next_yes h2 (by omega) hs).mono ?_
    rw [hy]
    clear hy
    rintro e w3 ⟨rfl, h3, b3⟩
    by_cases f2 : digI y < 0
    · have HN := hideB (show une (92 :: L.drop p) = none by rw [HD.out, HX1.out, HY1.out]; exact une_xbad _ _ _ (.inr f2))
      go_wp2_with (go_at_call 31; refine (hex_no y f2 _).mono ?_; rintro e w9 ⟨rfl, h9⟩; subst w9; unfold gup)
      exact ⟨rfl, .inr ⟨rfl, (b1.trans b2).trans b3, HN.out⟩⟩
    have HZ := hideB (show une (92 :: L.drop p) = (une (L.drop (p + 3))).map (twoB x y :: ·) by rw [HD.out, HX1.out, HY1.out]; exact une_x _ _ _ (by omega) (by omega))
    have a1 := digI_lt x
    have a2 := digI_ge x
    have a3 := digI_lt y
    have a4 := digI_ge y
    have e3 := two_wrap (h := x) (g := y) (by omega) (by omega)
    go_wp2_with (go_at_call 31; refine (hex_yes y (by omega) _).mono ?_; rintro e w9 ⟨rfl, h9⟩; subst w9)
    go_ret
    exact .inl ⟨twoB x y, 3, rfl, h3, (b1.trans b2).trans b3, by omega, HZ.out⟩
  have n120 : ¬ (d.toNat : Int) = 120 := u8_ne d120
  have HN := hideB (show une (92 :: L.drop p) = none by rw [HD.out]; exact une_bad d92 d110 d120 _)
  clear d92 d110 d120
  go_wp2_with (go_at_call 27; refine HC1.out.mono ?_; rintro e w1 ⟨rfl, h1, b1⟩)
  exact ⟨rfl, .inr ⟨rfl, b1, HN.out⟩⟩

/-- The place of the reader of block 'rb'. -/
def plc (rb : Nat) (w : World) : Nat := match w.cell? ⟨rb, 1, none⟩ with | some (.int _ x) => x.toNat | _ => 0
theorem plc_is {rb p : Nat} {s : ByteArray} {w : World} (h : BrAt w rb s p) : plc rb w = p := by simp [plc, h.place]
/-- While a text is read into the builder of block 'w.heap.size'. -/
structure Rdg (w : World) (rb : Nat) (s : ByteArray) (L : List UInt8) (p : Nat) (o : List UInt8) (wr : World) : Prop where
  bld : BldAt w.heap.size w.heap.size o wr
  at_ : BrAt wr rb s p
  but : But rb w wr
  has : UneAt L p o
theorem Rdg.moved {w wr w1 : World} {rb p : Nat} {s : ByteArray} {L o : List UInt8} (h : Rdg w rb s L p o wr) (hr : rb < w.heap.size) (hb : But rb wr w1) : BldAt w.heap.size w.heap.size o w1 :=
  h.bld.keep fun c hc hl => hb.block c hl (by omega)
theorem Rdg.wrote {w wr w1 w2 : World} {rb p m : Nat} {s : ByteArray} {L o : List UInt8} {x : UInt8} (h : Rdg w rb s L p o wr) (hr : rb < w.heap.size) (hb : But rb wr w1) (ha : BrAt w1 rb s (p + m)) (hm : 1 ≤ m)
    (hu : une (L.drop p) = (une (L.drop (p + m))).map (x :: ·)) (h2 : BldAt w.heap.size w.heap.size (o ++ [x]) w2) (hbel : Below w.heap.size w1 w2) : Rdg w rb s L (p + m) (o ++ [x]) w2 :=
  ⟨h2, ha.keep (hbel.block rb hr) hbel.size, ⟨hbel.os.trans (hb.os.trans h.but.os), hbel.tape.trans (hb.tape.trans h.but.tape), hbel.output.trans (hb.output.trans h.but.output), Nat.le_trans h.but.size (Nat.le_trans hb.size hbel.size), fun c hc hn => (hbel.block c hc).trans ((hb.block c (Nat.lt_of_lt_of_le hc h.but.size) hn).trans (h.but.block c hc hn))⟩, h.has.more hm hu⟩

set_option maxRecDepth 100000 in
set_option maxHeartbeats 3200000 in
theorem readEscaped_any {rb : Nat} {s : ByteArray} {w : World} (h : BrAt w rb s 0) (hs : s.size ≤ 1048576) :
    Calls Try.prog 20 #[.pointer (some ⟨rb, 0, none⟩)] w fun e w' => But rb w w' ∧ ((∃ o, une s.data.toList = some o ∧ e = .returned (.string (txt o))) ∨ (une s.data.toList = none ∧ e = gup)) := by
  obtain ⟨L, hL⟩ : ∃ L, s.data.toList = L := ⟨_, rfl⟩
  have HL := hideB hL
  have hlen : L.length = s.size := by rw [← hL, len_is]
  have HLEN := hideB hlen
  clear hlen
  have HG : Hid (∀ k (h : k < s.size), L[k]? = some s[k]) := fun k h => by rw [← hL]; exact getK? h
  rw [hL]
  clear hL
  have hlr := h.lt
  have H0 : Hid (Rdg w rb s L 0 [] (w.alloc (.cells #[.pointer none, .slice none 0 0] 35))) := ⟨bld_new w, h.below ((Below.refl _ _).alloc (Nat.le_refl _) _), But.of_below ((Below.refl _ _).alloc (Nat.le_refl _) _), UneAt.start L⟩
  clear h
  go_enter Try.func20, Try.ntmps20
  go_wp2_with fail
  go_loopw [4] (fun c wr => ∃ (p : Nat) (o : List UInt8), Rdg w rb s L p o wr) (fun _ wr => s.size - plc rb wr)
  case atStart => exact ⟨0, [], H0.out⟩
  case round =>
    obtain ⟨p, o, hr⟩ := hrel
    have HR := hideB hr
    have HP := hideB (plc_is hr.at_)
    have k1 := hr.at_.src
    have k2 := hr.at_.place
    have hle := hr.at_.le
    have hol : o.length ≤ p := hr.has.2
    clear hr
    by_cases hlt : p < s.size
    · obtain ⟨c, hc⟩ : ∃ c, s[p] = c := ⟨_, rfl⟩
      have HC := hideB (drop1 ((HG.out p hlt).trans (by rw [hc])))
      go_wp2_with fail
      go_quiet (fail)
      have HB1 := hideB (show But rb wr (wr.drewN nq) from But.of_below (below_drewB nq))
      have HA1 := hideB (HR.out.at_.below (below_drewB nq))
      generalize wr.drewN nq = W1 at HB1 HA1 ⊢
      clear nq k1 k2
      go_wp2_with fail
      refine (next_yes HA1.out hlt hs).mono ?_
      rw [hc]
      clear hc
      rintro e w2 ⟨rfl, h2, b2⟩
      have HB2 := hideB (HB1.out.trans b2)
      have HA2 := hideB h2
      clear b2 h2
      by_cases c92 : c = 92
      · subst c92
        go_wp2_with fail
        refine (readByte_any HA2.out hs).mono ?_
        rw [HL.out]
        rintro e w3 (⟨x, m, rfl, h3, b3, hm, hu⟩ | ⟨rfl, b3, hu⟩)
        · have HB3 := hideB (HB2.out.trans b3)
          have HBL := hideB (HR.out.moved hlr HB3.out)
          have HA3 := hideB h3
          have HU := hideB (show une (L.drop p) = (une (L.drop (p + (1 + m)))).map (x :: ·) by rw [HC.out, hu, Nat.add_assoc])
          have hsz : w.heap.size ≤ w3.heap.size := Nat.le_trans HR.out.but.size HB3.out.size
          have hle3 := h3.le
          clear h3 b3 hu
          go_wp2_with fail
          refine (bld_byte HBL.out x (by omega) hsz).mono ?_
          rintro e w4 ⟨rfl, h4, b4, _⟩
          have HR4 := hideB (HR.out.wrote hlr HB3.out (m := 1 + m) (by rw [← Nat.add_assoc]; exact HA3.out) (by omega) HU.out h4 b4)
          have HP4 := hideB (plc_is HR4.out.at_)
          clear h4 b4
          go_wp2_with fail
          refine ⟨⟨_, _, HR4.out⟩, ?_⟩
          show s.size - plc rb w4 < s.size - plc rb wr
          rw [HP4.out, HP.out]; omega
        · have HN := hideB (HR.out.has.none (by rw [HC.out]; exact hu))
          unfold gup
          go_wp2_with fail
          exact ⟨rfl, HR.out.but.trans (HB2.out.trans b3), .inr ⟨HN.out, rfl⟩⟩
      · have n92 : ¬ (c.toNat : Int) = 92 := u8_ne c92
        have HBL := hideB (HR.out.moved hlr HB2.out)
        have HU := hideB (show une (L.drop p) = (une (L.drop (p + 1))).map (c :: ·) by rw [HC.out]; exact une_plain c92 _)
        have hsz : w.heap.size ≤ w2.heap.size := Nat.le_trans HR.out.but.size HB2.out.size
        clear c92
        go_wp2_with fail
        refine (bld_byte HBL.out c (by omega) hsz).mono ?_
        rintro e w4 ⟨rfl, h4, b4, _⟩
        have HR4 := hideB (HR.out.wrote hlr HB2.out (m := 1) HA2.out (by omega) HU.out h4 b4)
        have HP4 := hideB (plc_is HR4.out.at_)
        clear h4 b4
        go_wp2_with fail
        refine ⟨⟨_, _, HR4.out⟩, ?_⟩
        show s.size - plc rb w4 < s.size - plc rb wr
        rw [HP4.out, HP.out]; omega
    · obtain rfl : p = s.size := by omega
      have HO := hideB (show une L = some o from UneAt.done (by rw [HLEN.out]; exact HR.out.has))
      go_wp2_with fail
      go_quiet (fail)
      have HB1 := hideB (show But rb wr (wr.drewN nq) from But.of_below (below_drewB nq))
      have HBL := hideB (HR.out.moved hlr HB1.out)
      have hsz : w.heap.size ≤ (wr.drewN nq).heap.size := Nat.le_trans HR.out.but.size HB1.out.size
      generalize wr.drewN nq = W1 at HB1 HBL hsz ⊢
      clear nq k1 k2
      go_wp2_with (go_at_call 18; refine (bld_string HBL.out hsz).mono ?_; rintro e w1 ⟨rfl, h1, b1, _⟩)
      go_ret
      exact ⟨(HR.out.but.trans HB1.out).next b1, .inl ⟨o, HO.out, rfl⟩⟩

theorem call_readEscaped (v : Value) (w : World) : (callFunc 20 #[v]).run Try.prog w = .ok (.enter 20 #[v]) w := by kernel_rfl

set_option maxRecDepth 100000 in
set_option maxHeartbeats 3200000 in
theorem iUne_any (s : ByteArray) (w : World) (hs : s.size ≤ 1048576) : Calls Try.prog 9 #[.string s] w fun e w' => e = .returned (unV s.data.toList) ∧ Below w.heap.size w w' := by
  obtain ⟨L, hL⟩ : ∃ L, s.data.toList = L := ⟨_, rfl⟩
  have HL := hideB hL
  have hlen : L.length = s.size := by rw [← hL, len_is]
  have HLEN := hideB hlen
  clear hlen hL
  have hmf : ∀ (fn : Fn) (first cap : Array Value) (w : World), (Instr.makeFunc fn first cap).run Try.prog w = .ok (.func fn first cap) w := fun _ _ _ _ => rfl
  obtain ⟨W1, hW1⟩ : ∃ W1, W1 = w.alloc (.cells #[.string s, .int .i64 0] 42) := ⟨_, rfl⟩
  have HW1 := hideB hW1
  have hz1 : W1.heap.size = w.heap.size + 1 := by rw [hW1]; simp
  have HB1 : Hid (Below w.heap.size w W1) := by rw [hW1]; exact (Below.refl _ _).alloc (Nat.le_refl _) _
  have HA : Hid (BrAt (W1.alloc (.cells #[.bool false] 4)) w.heap.size s 0) := by
    have h0 : BrAt W1 w.heap.size s 0 := by
      rw [hW1]
      exact ⟨by simp, by simp, by simp, by simp, Nat.zero_le _⟩
    exact h0.below ((Below.refl _ _).alloc (Nat.le_refl _) _)
  have HZ1 := hideB hz1
  clear hW1
  have HZ : Hid (∀ w', But w.heap.size (W1.alloc (.cells #[.bool false] 4)) w' → w'.cell? ⟨W1.heap.size, 0, none⟩ = some (.bool false) ∧ w'.frozen? ⟨W1.heap.size, 0, none⟩ = false) := fun w' hb => by
    have hk := hb.block W1.heap.size (by simp) (by omega)
    exact ⟨(cellOf hk).trans (by simp), (frozenOf hk).trans (by simp)⟩
  have HBE : Hid (∀ w1 x, But w.heap.size (W1.alloc (.cells #[.bool false] 4)) w1 → Below w.heap.size w (w1.setCell ⟨W1.heap.size, 0, none⟩ x)) := fun w1 x hb =>
    ((HB1.out.alloc (by omega) _).trans (hb.below (by simp; omega))).setCell (by simp; omega) _
  have HC := hideB (readEscaped_any HA.out hs)
  rw [HL.out] at HC
  rw [HL.out]
  go_enter Try.func9, Try.ntmps9
  cases hu : une L with
  | none =>
    have HV := hideB (unV_none hu)
    have CU := hideB (unless_no 20 (.pointer (some ⟨w.heap.size, 0, none⟩)) W1 (fun w' => But w.heap.size (W1.alloc (.cells #[.bool false] 4)) w') (call_readEscaped _) (HC.out.mono fun e w' ⟨h1, h2⟩ => by
      rcases h2 with ⟨o, h3, _⟩ | ⟨_, h3⟩
      · rw [hu] at h3; cases h3
      · exact ⟨h3, h1⟩) HZ.out)
    clear hu hz1
    go_wp2_with fail
    rw [← HW1.out]
    refine CU.out.mono ?_
    rintro e w2 ⟨rfl, w1, hb, rfl⟩
    have HE := hideB (HBE.out w1 (.bool false) hb)
    generalize w1.setCell ⟨W1.heap.size, 0, none⟩ (.bool false) = w2 at HE ⊢
    clear hb
    go_wp2_with fail
    go_ret2
    exact ⟨ret_v HV.out.symm, HE.out⟩
  | some o =>
    have hol : (txt o).size ≤ s.size := by rw [txt_size, ← HLEN.out]; exact une_le hu
    have CU := hideB (unless_yes 20 (.pointer (some ⟨w.heap.size, 0, none⟩)) W1 (txt o) (fun w' => But w.heap.size (W1.alloc (.cells #[.bool false] 4)) w') (call_readEscaped _) (HC.out.mono fun e w' ⟨h1, h2⟩ => by
      rcases h2 with ⟨o', h3, h4⟩ | ⟨h3, _⟩
      · rw [hu] at h3; cases h3; exact ⟨h4, h1⟩
      · rw [hu] at h3; cases h3) HZ.out)
    have HO := hideB hu
    have CE := fun w => iEsc_any (txt o) w (by omega)
    rw [bytes_txt] at CE
    obtain ⟨E, hE⟩ : ∃ E, txt (esc o) = E := ⟨_, rfl⟩
    rw [hE] at CE
    have HEE := hideB hE
    have HCE := hideB CE
    have HSL := hideB (show s = txt L by rw [← HL.out, txt_bytes])
    clear hu hz1 hE CE
    rcases Bool.eq_false_or_eq_true (E.toList == s.toList) with hy | hy
    · have HV := hideB (unV_yes HO.out (by rw [HEE.out, ← HSL.out]; exact str_eq hy))
      go_wp2_with fail
      rw [← HW1.out]
      refine CU.out.mono ?_
      rintro e w2 ⟨rfl, w1, hb, rfl⟩
      have HE := hideB (HBE.out w1 (.bool true) hb)
      generalize w1.setCell ⟨W1.heap.size, 0, none⟩ (.bool true) = w2 at HE ⊢
      clear hb
      go_wp2_with (go_at_call 8; refine (HCE.out _).mono ?_; rintro e w3 ⟨rfl, hb3⟩)
      go_ret2
      exact ⟨ret_v HV.out.symm, HE.out.trans (hb3.mono HE.out.size)⟩
    · have HV := hideB (unV_no HO.out (by rw [HEE.out, ← HSL.out]; exact str_ne hy))
      go_wp2_with fail
      rw [← HW1.out]
      refine CU.out.mono ?_
      rintro e w2 ⟨rfl, w1, hb, rfl⟩
      have HE := hideB (HBE.out w1 (.bool true) hb)
      generalize w1.setCell ⟨W1.heap.size, 0, none⟩ (.bool true) = w2 at HE ⊢
      clear hb
      go_wp2_with (go_at_call 8; refine (HCE.out _).mono ?_; rintro e w3 ⟨rfl, hb3⟩)
      go_ret2
      exact ⟨ret_v HV.out.symm, HE.out.trans (hb3.mono HE.out.size)⟩
end Go.Proofs.Ytnbhologgonjnaa
