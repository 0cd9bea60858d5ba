/-
  The program's Escaped.
-/
import Derived.Test.YtnbhologgonjnaaSEsc
import Derived.Test.YtnbhologgonjnaaBld
namespace Go.Proofs.Ytnbhologgonjnaa
open Go.RowKit Go.WideShapes
set_option linter.unusedSimpArgs false
set_option linter.unusedVariables false
theorem hex_at {n : Nat} (h : n < 16) : (ByteArray.mk #[48, 49, 50, 51, 52, 53, 54, 55, 56, 57, 97, 98, 99, 100, 101, 102])[n]'h = hexB n := by
  show hexS[n]'h = hexS.getD n 0
  rw [List.getD, List.getElem?_eq_getElem (show n < hexS.length from h)]; rfl
/-- While the builder of block 'w.heap.size' is being written. -/
structure Wrt (w : World) (l : List UInt8) (wr : World) : Prop where
  bld : BldAt w.heap.size w.heap.size l wr
  bel : Below w.heap.size w wr
theorem Wrt.byte {w wr : World} {l : List UInt8} (h : Wrt w l wr) (x : UInt8) (hlen : l.length + 1 ≤ 140737488355328) :
    Calls Try.prog 17 #[.pointer (some ⟨w.heap.size, 0, none⟩), .int .u8 (x.toNat : Int)] wr fun e w' => e = .returned .nilIface ∧ Wrt w (l ++ [x]) w' := by
  refine (bld_byte h.bld x hlen h.bel.size).mono ?_
  rintro e w' ⟨rfl, h1, h2, _⟩
  exact ⟨rfl, h1, h.bel.trans h2⟩
theorem Wrt.text {w wr : World} {l : List UInt8} (h : Wrt w l wr) (s : ByteArray) (hlen : l.length + s.size ≤ 140737488355328) :
    Calls Try.prog 16 #[.pointer (some ⟨w.heap.size, 0, none⟩), .string s] wr fun e w' => e = .returned (.tuple #[.int .i64 s.size, .nilIface]) ∧ Wrt w (l ++ s.data.toList) w' := by
  refine (bld_text h.bld s hlen h.bel.size).mono ?_
  rintro e w' ⟨rfl, h1, h2, _⟩
  exact ⟨rfl, h1, h.bel.trans h2⟩
theorem Wrt.two {w wr : World} {l : List UInt8} (h : Wrt w l wr) (x y : UInt8) (hlen : l.length + 2 ≤ 140737488355328) :
    Calls Try.prog 16 #[.pointer (some ⟨w.heap.size, 0, none⟩), .string ⟨#[x, y]⟩] wr fun e w' => e = .returned (.tuple #[.int .i64 2, .nilIface]) ∧ Wrt w (l ++ [x, y]) w' := h.text ⟨#[x, y]⟩ hlen
theorem Wrt.done {w wr : World} {l : List UInt8} (h : Wrt w l wr) :
    Calls Try.prog 18 #[.pointer (some ⟨w.heap.size, 0, none⟩)] wr fun e w' => e = .returned (.string (txt l)) ∧ Below w.heap.size w w' := by
  refine (bld_string h.bld h.bel.size).mono ?_
  rintro e w' ⟨rfl, _, h2, _⟩
  exact ⟨rfl, h.bel.trans h2⟩
theorem wrt_new (w : World) : Wrt w [] (w.alloc (.cells #[.pointer none, .slice none 0 0] 35)) := ⟨bld_new w, (Below.refl _ _).alloc (Nat.le_refl _) _⟩

set_option maxRecDepth 100000 in
set_option maxHeartbeats 3200000 in
theorem iEsc_any (s : ByteArray) (w : World) (hs : s.size ≤ 16777216) : Calls Try.prog 8 #[.string s] w fun e w' => e = .returned (.string (txt (esc s.data.toList))) ∧ Below w.heap.size w w' := by
  go_enter Try.func8, Try.ntmps8
  go_wp2_with fail
  go_loopw [8] (fun i wr => ∃ k : Nat, k ≤ s.size ∧ i = .int .i64 k ∧ Wrt w (esc (s.data.toList.take k)) wr) (fun i _ => s.size - (intOf i).toNat)
  case atStart => exact ⟨0, Nat.zero_le _, rfl, wrt_new w⟩
  case round =>
    obtain ⟨k, hk, rfl, hwr⟩ := hrel
    by_cases hlt : k < s.size
    · have hl := esc_take_len s.data.toList k
      have HS := hideB (esc_snoc s.data.toList k (by rw [len_is]; exact hlt))
      obtain ⟨o, ho⟩ : ∃ o, esc (s.data.toList.take k) = o := ⟨_, rfl⟩
      rw [ho] at HS hl hwr
      clear ho
      rw [len_is] at hl
      rw [getK hlt] at HS
      obtain ⟨c, hc⟩ : ∃ c, s[k] = c := ⟨_, rfl⟩
      rw [hc] at HS
      have hn : c.toNat < 256 := c.toNat_lt
      by_cases h92 : c = 92
      · subst h92
        go_wp2_with (go_at_call 16; refine (hwr.two _ _ (by omega)).mono ?_; rintro e w1 ⟨rfl, h1⟩)
        refine ⟨⟨k + 1, by omega, by go_num, ?_⟩, by simp [intOf]; omega⟩
        rw [HS.out]; exact h1
      by_cases h10 : c = 10
      · subst h10
        go_wp2_with (go_at_call 16; refine (hwr.two _ _ (by omega)).mono ?_; rintro e w1 ⟨rfl, h1⟩)
        refine ⟨⟨k + 1, by omega, by go_num, ?_⟩, by simp [intOf]; omega⟩
        rw [HS.out]; exact h1
      have n10 : ¬ (c.toNat : Int) = 10 := u8_ne h10
      have n92 : ¬ (c.toNat : Int) = 92 := u8_ne h92
      by_cases hp : 32 ≤ c ∧ c ≤ 126
      · have HE := hideB (show escB c = [c] by simp [escB, h10, h92, hp])
        have p1 : 32 ≤ (c.toNat : Int) := u8_le hp.1
        have p2 : (c.toNat : Int) ≤ 126 := u8_le hp.2
        clear h10 h92 hp
        go_wp2_with (go_at_call 17; refine (hwr.byte _ (by omega)).mono ?_; rintro e w1 ⟨rfl, h1⟩)
        refine ⟨⟨k + 1, by omega, by go_num, ?_⟩, by simp [intOf]; omega⟩
        rw [HS.out, HE.out]; exact h1
      · have HE := hideB (show escB c = [92, 120, hexB (c.toNat / 16), hexB (c.toNat % 16)] by simp only [escB, h10, h92, hp, if_false])
        have p1 : ((c.toNat : Int) < 32) ∨ 126 < (c.toNat : Int) := by
          by_cases h1 : 32 ≤ c
          · exact .inr (u8_not_le (fun h2 => hp ⟨h1, h2⟩))
          · exact .inl (u8_not_le h1)
        clear h10 h92 hp
        have hw1 := u8_quo c
        have hw2 := u8_rem c
        have x1 := hex_at (n := c.toNat / 16) (by omega)
        have x2 := hex_at (n := c.toNat % 16) (by omega)
        have y1 : ((c.toNat : Int) / 16).toNat = c.toNat / 16 := by omega
        have y2 : ((c.toNat : Int) % 16).toNat = c.toNat % 16 := by omega
        rcases p1 with p1 | p1
        all_goals (
          go_wp2_with (go_at_call 16; refine (hwr.two _ _ (by omega)).mono ?_; rintro e w1 ⟨rfl, h1⟩)
          refine (h1.byte _ (by simp; omega)).mono ?_
          rintro e w2 ⟨rfl, h2⟩
          go_wp2_with fail
          refine (h2.byte _ (by simp; omega)).mono ?_
          rintro e w3 ⟨rfl, h3⟩
          go_wp2_with fail
          refine ⟨⟨k + 1, by omega, by go_num, ?_⟩, by simp [intOf]; omega⟩
          rw [HS.out, HE.out]
          simpa using h3)
    · obtain rfl : k = s.size := by omega
      have HL := hideB (show s.data.toList.take s.size = s.data.toList by rw [← len_is, List.take_length])
      rw [HL.out] at hwr
      go_wp2_with (go_at_call 18; refine hwr.done.mono ?_; rintro e w1 ⟨rfl, h1⟩)
      go_ret
      exact ⟨rfl, h1⟩
end Go.Proofs.Ytnbhologgonjnaa
