/-
  The law FnEscapes: the call returns true and turns nothing that was there.
-/
import Derived.Test.YtnbhologgonjnaaDrB
import Derived.Test.YtnbhologgonjnaaEscQ
import Derived.Test.YtnbhologgonjnaaIUne
namespace Go.Proofs.Ytnbhologgonjnaa
open Go.RowKit
set_option linter.unusedSimpArgs false
set_option linter.unusedVariables false

theorem str_same (s : ByteArray) : (s.toList == s.toList) = true := by simp

set_option maxRecDepth 100000 in
set_option maxHeartbeats 4000000 in
theorem lawFnEscapes_walk (v : Value) (n : Nat) (w : World) (h : RawCode w v n) :
    Calls Try.prog 3 #[v] w fun e w' => e = .returned (.bool true) ∧ Below w.heap.size w w' := by
  obtain ⟨hn, a, cap, rfl, hc⟩ := h
  have HCL : Hid (n ≤ 1048576 → CodeAt w.heap.size w (.slice a n cap) n) := fun h => ⟨h, a, cap, rfl, hc⟩
  clear hc
  go_enter Try.func3, Try.ntmps3
  go_wp2_with fail
  refine (big_any a n cap w hn).mono ?_
  rintro e w1 ⟨rfl, h9⟩
  subst w1
  by_cases hbig : 1048576 < n
  · go_wp2_with fail
    go_ret
    exact ⟨rfl, Below.refl _ _⟩
  have HC := hideIt (HCL.out (by omega))
  clear HCL
  go_wp2_with fail
  refine (drawEscaped_any w.heap.size _ n w HC.out (Nat.le_refl _)).mono ?_
  rintro e w2 ⟨s, hs, rfl, hb2⟩
  have HB2 := hideIt hb2
  clear hb2
  have hl := esc_len s.data.toList
  rw [len_is] at hl
  have CI := fun w => iEsc_any s w (by omega)
  have CS := fun w => sEsc_any s w (by omega)
  have CU := fun w => iUne_any (txt (esc s.data.toList)) w (by rw [txt_size]; omega)
  rw [bytes_txt, unV, unT_esc, unB_esc, txt_bytes] at CU
  have HPL := hideIt (esc_plain s.data.toList)
  obtain ⟨E, hE⟩ : ∃ E, txt (esc s.data.toList) = E := ⟨_, rfl⟩
  have HEL : Hid (E.data.toList = esc s.data.toList) := by rw [Hid, ← hE, bytes_txt]
  have hEs : E.size ≤ 4000 := by rw [← hE, txt_size]; omega
  rw [hE] at CI CS CU
  have HCI := hideIt CI
  have HCS := hideIt CS
  have HCU := hideIt CU
  clear CI CS CU hE hl
  have q1 := str_same E
  have q2 := str_same s
  go_wp2_with fail
  refine (HCI.out _).mono ?_
  rintro e w3 ⟨rfl, hb3⟩
  have HB3 := hideIt (HB2.out.trans (hb3.mono HB2.out.size))
  clear hb3
  go_wp2_with fail
  refine (HCU.out _).mono ?_
  rintro e w4 ⟨rfl, hb4⟩
  have HB4 := hideIt (HB3.out.trans (hb4.mono HB3.out.size))
  clear hb4
  go_wp2_with fail
  refine (HCS.out _).mono ?_
  rintro e w5 ⟨rfl, hb5⟩
  have HB5 := hideIt (HB4.out.trans (hb5.mono HB4.out.size))
  have z5 := HB5.out.size
  clear hb5
  go_wp2_with fail
  go_loop [7] (fun i => ∃ k : Nat, k ≤ E.size ∧ i = .int .i64 k) (fun i => E.size - (intOf i).toNat)
  case atStart => exact ⟨0, Nat.zero_le _, rfl⟩
  case round =>
    obtain ⟨k, hk, rfl⟩ := hrel
    by_cases hlt : k < E.size
    · have hp := HPL.out E[k] (by rw [← HEL.out]; exact List.mem_of_getElem? (getK? hlt))
      obtain ⟨c, hc⟩ : ∃ c, E[k] = c := ⟨_, rfl⟩
      rw [hc] at hp
      have p1 : 32 ≤ (c.toNat : Int) := u8_le hp.1
      have p2 : (c.toNat : Int) ≤ 126 := u8_le hp.2
      clear hp
      go_wp2_with fail
      refine ⟨⟨k + 1, by omega, by go_num⟩, by simp [intOf]; omega⟩
    · obtain rfl : k = E.size := by omega
      go_wp2_with fail
      refine (drawUnescaped_any w.heap.size _ n w5 (HC.out.below HB5.out) z5).mono ?_
      rintro e w6 ⟨x, hx, rfl, hb6⟩
      have HB6 := hideIt (HB5.out.trans (hb6.mono z5))
      clear hb6
      have CI := fun w => iUne_any x w (by omega)
      have CS := fun w => sUne_any x w (by omega)
      obtain ⟨y, hy⟩ : ∃ y, txt (unT x.data.toList) = y := ⟨_, rfl⟩
      obtain ⟨b, hb⟩ : ∃ b, unB x.data.toList = b := ⟨_, rfl⟩
      have HY : Hid (b = true → ∀ w, Calls Try.prog 8 #[.string y] w fun e w' => e = .returned (.string x) ∧ Below w.heap.size w w') := by
        intro hbt w
        have hye : y.data.toList = unT x.data.toList := by rw [← hy, bytes_txt]
        have hes : esc y.data.toList = x.data.toList := by rw [hye]; exact esc_unT (hb.trans hbt)
        have hyl : y.size ≤ 16777216 := by
          have h1 : (unT x.data.toList).length ≤ x.data.toList.length := by
            unfold unT
            split
            · rename_i o ho
              split
              · exact une_le ho
              · simp
            · simp
          rw [← hy, txt_size]
          rw [len_is] at h1
          omega
        have := iEsc_any y w hyl
        rw [hes, txt_bytes] at this
        exact this
      rw [unV, hy, hb] at CI CS
      have HCI2 := hideIt CI
      have HCS2 := hideIt CS
      clear CI CS hy hb
      have q3 := str_same x
      go_wp2_with fail
      refine (HCI2.out _).mono ?_
      rintro e w7 ⟨rfl, hb7⟩
      have HB7 := hideIt (HB6.out.trans (hb7.mono HB6.out.size))
      clear hb7
      go_wp2_with fail
      refine (HCS2.out _).mono ?_
      rintro e w8 ⟨rfl, hb8⟩
      have HB8 := hideIt (HB7.out.trans (hb8.mono HB7.out.size))
      clear hb8
      cases b
      · go_wp2_with fail
        go_ret
        exact ⟨rfl, HB8.out⟩
      · have HY2 := hideIt (HY.out rfl)
        clear HY
        go_wp2_with (go_at_call 8; refine (HY2.out _).mono ?_; rintro e w9 ⟨rfl, hb9⟩)
        go_ret
        exact ⟨rfl, HB8.out.trans (hb9.mono HB8.out.size)⟩
end Go.Proofs.Ytnbhologgonjnaa
