/-
  Draws of bytes; what is drawn for Escaped and for Unescaped.
-/
import Derived.Test.YtnbhologgonjnaaRowB
import Derived.Test.YtnbhologgonjnaaBigC
import Derived.Test.YtnbhologgonjnaaSEsc
namespace Go.Proofs.Ytnbhologgonjnaa
open Go.RowKit
set_option linter.unusedSimpArgs false
set_option linter.unusedVariables false

theorem RowB.only {base rb : Nat} {w w' : World} {v : Value} {l : List UInt8} (h : RowB base w v l) (ho : Only (fun c => c = rb) w w') (hr : rb < base) : RowB base w' v l := by
  refine ⟨h.1, ?_⟩
  rcases h.2 with ⟨hv, h0⟩ | ⟨g, cap, cur, hv, h1, h2, h3⟩
  · exact .inl ⟨hv, h0⟩
  · refine .inr ⟨g, cap, cur, hv, h1, ?_, h3⟩
    rw [ho.2 g ?_ (by omega)]
    · exact h2
    · rcases Nat.lt_or_ge g w.heap.size with h' | h'
      · exact h'
      · rw [Array.getElem?_eq_none h'] at h2; cases h2
theorem RdAt.low {w w' : World} {rb n p N : Nat} (h : RdAt w rb n p) (hb : Below N w w') (hr : rb < N) : RdAt w' rb n p := by
  have hl := h.lt
  refine ⟨by have := hb.size; omega, ?_, (below_cell hb hr).trans h.place, h.le, h.few, (frozen_same (hb.block rb hr)).trans h.free⟩
  obtain ⟨a, cap, h1, h2⟩ := h.src
  refine ⟨a, cap, (below_cell hb hr).trans h1, fun hp => ?_⟩
  obtain ⟨b, o, e, hlt, hx⟩ := h2 hp
  exact ⟨b, o, e, hlt, fun i hi => by obtain ⟨x, h3, h4⟩ := hx i hi; exact ⟨x, h3, (below_cell hb (by omega)).trans h4⟩⟩
theorem Drawn.grow {rb n : Nat} {a b c : World} (h : Drawn rb n a b) (k : Below a.heap.size b c) (hr : rb < a.heap.size) : Drawn rb n a c := by
  obtain ⟨p, hp⟩ := h.rd
  exact ⟨⟨p, hp.low k hr⟩, ⟨Nat.le_trans h.only.1 k.size, fun i h1 h2 => (k.block i h1).trans (h.only.2 i h1 h2)⟩, h.below.trans (k.mono (Nat.le_of_lt hr))⟩

set_option maxRecDepth 100000 in
set_option maxHeartbeats 1600000 in
theorem rdBytes_any (rb n m : Nat) (w : World) (h : ∃ p, RdAt w rb n p) (hM : m ≤ 1000) :
    Calls Try.prog 15 #[.pointer (some ⟨rb, 0, none⟩), .int .i64 m] w fun e w' => (∃ s : ByteArray, s.size ≤ m ∧ e = .returned (.string s)) ∧ Drawn rb n w w' := by
  obtain ⟨p0, h0⟩ := h
  have hlr := h0.lt
  have HD0 := hideIt ((Drawn.refl h0).next ((Below.refl _ _).alloc (Nat.le_refl _) (.cells #[] 5)))
  have HR0 := hideIt (rowB_new w)
  clear h0
  go_enter Try.func15, Try.ntmps15
  go_wp2_with fail
  refine (rdBelow_any rb n (m + 1) _ HD0.out.rd (by omega) (by omega)).mono ?_
  rintro e w1 ⟨⟨x, hx, rfl⟩, hd⟩
  have HD1 := hideIt (HD0.out.trans hd)
  have HR1 := hideIt (HR0.out.only hd.only hlr)
  clear hd
  go_wp2_with fail
  go_loopw [5, 6] (fun v i wr => ∃ (j : Nat) (o : List UInt8), i = .int .i64 j ∧ o.length + j ≤ m ∧ RowB w.heap.size wr v o ∧ Drawn rb n w wr) (fun _ i _ => (intOf i).toNat)
  case atStart => exact ⟨x, [], rfl, by simp; omega, HR1.out, HD1.out⟩
  case round =>
    obtain ⟨j, o, rfl, hj, hrow, hd⟩ := hrel
    obtain ⟨ao, co, eo⟩ := hrow.slice
    obtain ⟨q, hq⟩ : ∃ q, o.length = q := ⟨_, rfl⟩
    have HR := hideIt hrow
    have HD := hideIt hd
    have hz : w.heap.size ≤ wr.heap.size := hd.only.1
    rw [hq] at eo hj
    have HQ := hideIt hq
    subst eo
    clear hrow hd hq
    by_cases hlt : 0 < j
    · have hlt' : (0 : Int) < (j : Int) := by omega
      go_wp2_with fail
      refine (rdBelow_any rb n 256 _ HD.out.rd (by omega) (by omega)).mono ?_
      rintro e w2 ⟨⟨y, hy, rfl⟩, hd⟩
      have HD2 := hideIt (HD.out.trans hd)
      have HR2 := hideIt (HR.out.only hd.only hlr)
      have hz2 : w.heap.size ≤ w2.heap.size := (HD.out.trans hd).only.1
      clear hd
      have e1 : IntKind.u8.wrap (y : Int) = ((UInt8.ofNat y).toNat : Int) := by
        rw [u8_wrap (by omega) (by omega), UInt8.toNat_ofNat_of_lt' (show y < 256 from hy)]
      go_wp2_with (at_builtin; refine wpList_push rfl _ _ rfl w.heap.size o _ rfl HR2.out (UInt8.ofNat y) rfl (by rw [HQ.out]; omega) hz2 ?_)
      intro v' w3 hr3 hb3
      have HD3 := hideIt (HD2.out.grow hb3 hlr)
      clear hb3
      go_wp2_with fail
      refine ⟨⟨j - 1, _, by go_num, ?_, hr3, HD3.out⟩, by simp [intOf]; omega⟩
      rw [List.length_append, HQ.out]; simp; omega
    · obtain rfl : j = 0 := by omega
      have hc0 := HR.out.text HQ.out
      go_wp2_with fail
      go_ret
      exact ⟨⟨txt o, by rw [txt_size, HQ.out]; omega, rfl⟩, HD.out⟩

set_option maxRecDepth 100000 in
set_option maxHeartbeats 1600000 in
theorem drawEscaped_any (B : Nat) (v : Value) (n : Nat) (w : World) (h : CodeAt B w v n) (hB : B ≤ w.heap.size) :
    Calls Try.prog 7 #[v] w fun e w' => ∃ s : ByteArray, s.size ≤ 1000 ∧ e = .returned (.string s) ∧ Below w.heap.size w w' := by
  have H := hideIt h
  obtain ⟨_, a, cap, rfl, _⟩ := h
  go_enter Try.func7, Try.ntmps7
  go_wp2_with fail
  refine (l1Open_any B _ n w H.out hB).mono ?_
  rintro e w1 ⟨rfl, hr, hb⟩
  have HR := hideIt hr
  have HB := hideIt hb
  clear hr hb
  go_wp2_with fail
  refine (rdText_any w.heap.size n w1 ⟨0, HR.out⟩).mono ?_
  rintro e w2 ⟨⟨s, hs, rfl⟩, hd⟩
  have HD := hideIt hd
  clear hd
  go_wp2_with fail
  refine (rdBytes_any w.heap.size n 6 w2 HD.out.rd (by omega)).mono ?_
  rintro e w3 ⟨⟨t, ht, rfl⟩, hd⟩
  have HD2 := hideIt (HD.out.trans hd)
  clear hd
  go_wp2_with fail
  go_ret
  exact ⟨s ++ t, by simp [ByteArray.size_append]; omega, rfl, HB.out.trans HD2.out.below⟩

set_option maxRecDepth 100000 in
set_option maxHeartbeats 1600000 in
theorem drawUnescaped_any (B : Nat) (v : Value) (n : Nat) (w : World) (h : CodeAt B w v n) (hB : B ≤ w.heap.size) :
    Calls Try.prog 11 #[v] w fun e w' => ∃ s : ByteArray, s.size ≤ 1000 ∧ e = .returned (.string s) ∧ Below w.heap.size w w' := by
  have H := hideIt h
  obtain ⟨_, a, cap, rfl, _⟩ := h
  go_enter Try.func11, Try.ntmps11
  go_wp2_with fail
  refine (l1Open_any B _ n w H.out hB).mono ?_
  rintro e w1 ⟨rfl, hr, hb⟩
  have HR := hideIt hr
  have HB := hideIt hb
  clear hr hb
  go_wp2_with fail
  refine (rdText_any w.heap.size n w1 ⟨0, HR.out⟩).mono ?_
  rintro e w2 ⟨⟨s, hs, rfl⟩, hd⟩
  have HD := hideIt hd
  clear hd
  go_wp2_with fail
  refine (rdBytes_any w.heap.size n 4 w2 HD.out.rd (by omega)).mono ?_
  rintro e w3 ⟨⟨t, ht, rfl⟩, hd⟩
  have HD2 := hideIt (HD.out.trans hd)
  clear hd
  have hl : (txt (esc (s ++ t).data.toList)).size ≤ 256 := by
    have := esc_len (s ++ t).data.toList
    rw [txt_size]
    rw [len_is, ByteArray.size_append] at this
    omega
  have CE := fun w => sEsc_any (s ++ t) w (by rw [ByteArray.size_append]; omega)
  obtain ⟨E, hE⟩ : ∃ E, txt (esc (s ++ t).data.toList) = E := ⟨_, rfl⟩
  rw [hE] at hl CE
  have HCE := hideIt CE
  clear hE CE
  go_wp2_with (go_at_call 10; refine (HCE.out _).mono ?_; rintro e w4 ⟨rfl, hb4⟩)
  have HD3 := hideIt (HD2.out.next hb4)
  clear hb4
  refine (rdOnce_any w.heap.size n 3 w4 HD3.out.rd (by omega) (by omega)).mono ?_
  rintro e w5 ⟨⟨x, rfl⟩, hd⟩
  have HD5 := hideIt (HD3.out.trans hd)
  clear hd
  cases x
  · go_wp2_with fail
    go_ret
    exact ⟨E, by omega, rfl, HB.out.trans HD5.out.below⟩
  · go_wp2_with fail
    refine (rdTabS w.heap.size n 9 _ _ w5 HD5.out.rd (by omega) (by omega) (by rfl)).mono ?_
    rintro e w6 ⟨⟨y, q, hy, rfl, hq, hc⟩, hd⟩
    have hy' : (y : Int) < 9 := by omega
    have HD6 := hideIt (HD5.out.trans hd)
    clear hd
    go_wp2_with fail
    go_ret
    exact ⟨E ++ q, by rw [ByteArray.size_append]; omega, rfl, HB.out.trans HD6.out.below⟩
end Go.Proofs.Ytnbhologgonjnaa
