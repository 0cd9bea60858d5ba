/-
  The program's packWriter: numbers, texts and counts.
-/
import Derived.Test.YtiamkmkbkehldaaGreatDoorSPkW
import Derived.Test.YtiamkmkbkehldaaGreatDoorCbP
import Derived.Laws.ResultCell
import Derived.Laws.Rows
namespace Go.Proofs.YtiamkmkbkehldaaGreatDoor
open Go.RowKit
set_option linter.unusedSimpArgs false
set_option linter.unusedVariables false

set_option maxRecDepth 100000 in
set_option maxHeartbeats 1600000 in
theorem stepFor_any (n : Int) (w : World) (h0 : 0 ≤ n) (h1 : n ≤ 18446744073709551615) : Calls Tryz.prog 176 #[.int .u64 n] w fun e w' => e = .returned (.int .i64 (stepI n)) ∧ w' = w := by
  go_enter Tryz.func176, Tryz.ntmps176
  go_wp2_with fail
  go_loop [3] (fun s => ∃ k : Nat, k ≤ stepI n ∧ s = .int .i64 k) (fun s => 3 - (intOf s).toNat)
  case atStart => exact ⟨0, Nat.zero_le _, rfl⟩
  case round =>
    obtain ⟨k, hk, rfl⟩ := hrel
    have h3 := stepI_le n
    have hk3 : k = 0 ∨ k = 1 ∨ k = 2 ∨ k = 3 := by omega
    rcases hk3 with rfl | rfl | rfl | rfl
    · by_cases a : n < 256
      · have HS := hideB (step0 a)
        have hd : n / 256 = 0 := by omega
        go_wp2_with fail
        go_ret
        exact ⟨by rw [HS.out]; rfl, rfl⟩
      · have hd : 0 < n / 256 := by omega
        have hs : 1 ≤ stepI n := by unfold stepI; rw [if_neg a]; split <;> (try split) <;> omega
        have HS := hideB hs
        clear hs
        go_wp2_with fail
        exact ⟨⟨1, HS.out, rfl⟩, by simp [intOf]⟩
    · have hn : ¬ n < 256 := fun a => by rw [step0 a] at hk; omega
      by_cases a : n < 65536
      · have HS := hideB (step1 hn a)
        have hd : n / 65536 = 0 := by omega
        go_wp2_with fail
        go_ret
        exact ⟨by rw [HS.out]; rfl, rfl⟩
      · have hd : 0 < n / 65536 := by omega
        have hs : 2 ≤ stepI n := by unfold stepI; rw [if_neg hn, if_neg a]; split <;> omega
        have HS := hideB hs
        clear hs
        go_wp2_with fail
        exact ⟨⟨2, HS.out, rfl⟩, by simp [intOf]⟩
    · have hn : ¬ n < 65536 := fun a => by
        by_cases a2 : n < 256
        · rw [step0 a2] at hk; omega
        · rw [step1 a2 a] at hk; omega
      by_cases a : n < 4294967296
      · have HS := hideB (step2 hn a)
        have hd : n / 4294967296 = 0 := by omega
        go_wp2_with fail
        go_ret
        exact ⟨by rw [HS.out]; rfl, rfl⟩
      · have hd : 0 < n / 4294967296 := by omega
        have HS := hideB (step3 a)
        go_wp2_with fail
        exact ⟨⟨3, by rw [HS.out]; exact Nat.le_refl _, rfl⟩, by simp [intOf]⟩
    · have HS := hideB (show stepI n = 3 by omega)
      have hd : n / 18446744073709551616 = 0 := by omega
      go_wp2_with fail
      go_ret
      exact ⟨by rw [HS.out]; rfl, rfl⟩

set_option maxRecDepth 100000 in
set_option maxHeartbeats 1600000 in
theorem writeWide_any {B b : Nat} {l : List UInt8} {w : World} (hT : FT 97 0) (h : FB 97 B b [] l w) (row : Nat) (st : Nat) (n : Int) (hr : row ≤ 250) (hst : st ≤ 3) (h0n : 0 ≤ n) (h1n : n ≤ 18446744073709551615) (hlen : l.length ≤ 100000000) (hBw : B ≤ w.heap.size) :
    Calls Tryz.prog 175 #[.pointer (some ⟨b, 0, none⟩), .int .u8 row, .int .i64 st, .int .u64 n] w fun e w' => e = .returned (.tuple #[]) ∧ FB 97 B b [] (l ++ byI (row + st) :: bigB n (2 ^ st)) w' ∧ Below B w w' ∧ Beside b w w' := by
  have hst4 : st = 0 ∨ st = 1 ∨ st = 2 ∨ st = 3 := by omega
  rcases hst4 with rfl | rfl | rfl | rfl
  · have C1 := hideB (fb_byte hT h (byI ((row : Int) + (0 : Nat))) (by omega) hBw)
    rw [byI_int, Int.emod_eq_of_lt (by omega) (by omega)] at C1
    have hrow : ((row : Int) + 0) ≤ 255 := by omega
    go_enter Tryz.func175, Tryz.ntmps175
    go_wp2_with (first | (go_at_call 38; refine C1.out.mono ?_; rintro e w1 ⟨rfl, f1, b1, k1⟩) | (go_at_call 177; refine (writeBytes_any hT f1 n 1 (by omega) h0n h1n (by simp; omega) (by have := b1.size; omega)).mono ?_; rintro e w2 ⟨rfl, f2, b2, k2⟩))
    go_end0
    exact ⟨rfl, by rw [List.append_assoc] at f2; exact f2, b1.trans b2, k1.trans k2⟩
  · have C1 := hideB (fb_byte hT h (byI ((row : Int) + (1 : Nat))) (by omega) hBw)
    rw [byI_int, Int.emod_eq_of_lt (by omega) (by omega)] at C1
    have hrow : ((row : Int) + 1) ≤ 255 := by omega
    go_enter Tryz.func175, Tryz.ntmps175
    go_wp2_with (first | (go_at_call 38; refine C1.out.mono ?_; rintro e w1 ⟨rfl, f1, b1, k1⟩) | (go_at_call 177; refine (writeBytes_any hT f1 n 2 (by omega) h0n h1n (by simp; omega) (by have := b1.size; omega)).mono ?_; rintro e w2 ⟨rfl, f2, b2, k2⟩))
    go_end0
    exact ⟨rfl, by rw [List.append_assoc] at f2; exact f2, b1.trans b2, k1.trans k2⟩
  · have C1 := hideB (fb_byte hT h (byI ((row : Int) + (2 : Nat))) (by omega) hBw)
    rw [byI_int, Int.emod_eq_of_lt (by omega) (by omega)] at C1
    have hrow : ((row : Int) + 2) ≤ 255 := by omega
    go_enter Tryz.func175, Tryz.ntmps175
    go_wp2_with (first | (go_at_call 38; refine C1.out.mono ?_; rintro e w1 ⟨rfl, f1, b1, k1⟩) | (go_at_call 177; refine (writeBytes_any hT f1 n 4 (by omega) h0n h1n (by simp; omega) (by have := b1.size; omega)).mono ?_; rintro e w2 ⟨rfl, f2, b2, k2⟩))
    go_end0
    exact ⟨rfl, by rw [List.append_assoc] at f2; exact f2, b1.trans b2, k1.trans k2⟩
  · have C1 := hideB (fb_byte hT h (byI ((row : Int) + (3 : Nat))) (by omega) hBw)
    rw [byI_int, Int.emod_eq_of_lt (by omega) (by omega)] at C1
    have hrow : ((row : Int) + 3) ≤ 255 := by omega
    go_enter Tryz.func175, Tryz.ntmps175
    go_wp2_with (first | (go_at_call 38; refine C1.out.mono ?_; rintro e w1 ⟨rfl, f1, b1, k1⟩) | (go_at_call 177; refine (writeBytes_any hT f1 n 8 (by omega) h0n h1n (by simp; omega) (by have := b1.size; omega)).mono ?_; rintro e w2 ⟨rfl, f2, b2, k2⟩))
    go_end0
    exact ⟨rfl, by rw [List.append_assoc] at f2; exact f2, b1.trans b2, k1.trans k2⟩

set_option maxRecDepth 100000 in
set_option maxHeartbeats 1600000 in
theorem writeNumber_any {B b : Nat} {l : List UInt8} {w : World} (hT : FT 97 0) (h : FB 97 B b [] l w) (n : Int) (h0 : -1000000000000000 ≤ n) (h1 : n ≤ 1000000000000000) (hlen : l.length ≤ 100000000) (hBw : B ≤ w.heap.size) :
    Calls Tryz.prog 128 #[.pointer (some ⟨b, 0, none⟩), .int .i64 n] w fun e w' => e = .returned (.tuple #[]) ∧ FB 97 B b [] (l ++ packI n) w' ∧ Below B w w' ∧ Beside b w w' := by
  by_cases a1 : -32 ≤ n
  · by_cases a2 : n ≤ 127
    · have HE := hideB (packI_alone (n := n) ⟨a1, a2⟩)
      have C1 := hideB (fb_byte hT h (byI n) (by omega) hBw)
      rw [byI_int] at C1
      by_cases a0 : 0 ≤ n
      · have e0 : n % 256 = n := by omega
        rw [e0] at C1
        clear e0
        go_enter Tryz.func128, Tryz.ntmps128
        go_wp2_with (go_at_call 38; refine C1.out.mono ?_; rintro e w1 ⟨rfl, f1, b1, k1⟩)
        go_end0
        exact ⟨rfl, by rw [HE.out]; exact f1, b1, k1⟩
      · go_enter Tryz.func128, Tryz.ntmps128
        go_wp2_with (go_at_call 38; refine C1.out.mono ?_; rintro e w1 ⟨rfl, f1, b1, k1⟩)
        go_end0
        exact ⟨rfl, by rw [HE.out]; exact f1, b1, k1⟩
    · have a3 : 0 ≤ n := by omega
      have hst := stepI_le n
      obtain ⟨k, hk⟩ : ∃ k, stepI n = k := ⟨_, rfl⟩
      have HE := hideB (packI_up (n := n) (by omega) hk (c := byI (204 + k)) rfl)
      have CS := hideB (fun w => stepFor_any n w a3 (by omega))
      rw [hk] at CS hst
      have CW := hideB (writeWide_any hT h 204 k n (by omega) hst a3 (by omega) hlen hBw)
      clear hk
      go_enter Tryz.func128, Tryz.ntmps128
      go_wp2_with (first | (go_at_call 176; refine (CS.out _).mono ?_; rintro e w9 ⟨rfl, h9⟩; subst w9) | (go_at_call 175; refine CW.out.mono ?_; rintro e w1 ⟨rfl, f1, b1, k1⟩))
      go_end0
      exact ⟨rfl, by rw [HE.out]; exact f1, b1, k1⟩
  · have a3 : ¬ 0 ≤ n := by omega
    have hst := stepI_le (2 * (-1 - n))
    obtain ⟨k, hk⟩ : ∃ k, stepI (2 * (-1 - n)) = k := ⟨_, rfl⟩
    have HE := hideB (packI_dn (n := n) (by omega) hk (c := byI (208 + k)) rfl)
    have CS := hideB (fun w => stepFor_any (2 * (-1 - n)) w (by omega) (by omega))
    rw [hk] at CS hst
    have CW := hideB (writeWide_any hT h 208 k (n + 18446744073709551616) (by omega) hst (by omega) (by omega) hlen hBw)
    rw [bigB_wrap n _ (pow_le3 hst)] at CW
    clear hk
    go_enter Tryz.func128, Tryz.ntmps128
    go_wp2_with fail
    refine (CS.out _).mono ?_
    rintro e w9 ⟨rfl, h9⟩
    subst w9
    have hwr : IntKind.u64.wrap n = n + 18446744073709551616 := by
      have e : IntKind.u64.bits = 64 := rfl
      have e2 : IntKind.u64.signed = false := rfl
      simp [IntKind.wrap, e, e2]; omega
    go_wp2_with fail
    refine CW.out.mono ?_
    rintro e w1 ⟨rfl, f1, b1, k1⟩
    go_wp2_with fail
    go_end0
    exact ⟨rfl, by rw [HE.out]; exact f1, b1, k1⟩

set_option maxRecDepth 100000 in
set_option maxHeartbeats 1600000 in
theorem writeText_any {B b : Nat} {l : List UInt8} {w : World} (hT : FT 97 0) (h : FB 97 B b [] l w) (s : ByteArray) (hs : s.size ≤ 200) (hlen : l.length ≤ 100000000) (hBw : B ≤ w.heap.size) :
    Calls Tryz.prog 129 #[.pointer (some ⟨b, 0, none⟩), .string s] w fun e w' => e = .returned (.tuple #[]) ∧ FB 97 B b [] (l ++ packW s) w' ∧ Below B w w' ∧ Beside b w w' := by
  by_cases a : s.size < 32
  · have a' : (s.size : Int) < 32 := by omega
    have HE := hideB (show packW s = byI (160 + s.size) :: s.data.toList by unfold packW; rw [if_pos a])
    have C1 := hideB (fb_byte hT h (byI (160 + (s.size : Int))) (by omega) hBw)
    rw [byI_int, Int.emod_eq_of_lt (by omega) (by omega)] at C1
    go_enter Tryz.func129, Tryz.ntmps129
    go_wp2_with (first | (go_at_call 38; refine C1.out.mono ?_; rintro e w1 ⟨rfl, f1, b1, k1⟩) | (go_at_call 35; refine (fb_text hT f1 s (by simp; omega) (by have := b1.size; omega)).mono ?_; rintro e w2 ⟨rfl, f2, b2, k2⟩))
    go_end0
    exact ⟨rfl, by rw [HE.out]; rw [List.append_assoc] at f2; exact f2, b1.trans b2, k1.trans k2⟩
  · have a' : ¬ (s.size : Int) < 32 := by omega
    have HE := hideB (show packW s = 217 :: (bigB s.size 1 ++ s.data.toList) by unfold packW; rw [if_neg a])
    have CW := hideB (writeWide_any hT h 217 0 (s.size : Int) (by omega) (by omega) (by omega) (by omega) hlen hBw)
    go_enter Tryz.func129, Tryz.ntmps129
    go_wp2_with (first | (go_at_call 175; refine CW.out.mono ?_; rintro e w1 ⟨rfl, f1, b1, k1⟩) | (go_at_call 35; refine (fb_text hT f1 s (by simp [bigB_len]; omega) (by have := b1.size; omega)).mono ?_; rintro e w2 ⟨rfl, f2, b2, k2⟩))
    go_end0
    exact ⟨rfl, by rw [HE.out]; rw [List.append_assoc] at f2; exact f2, b1.trans b2, k1.trans k2⟩

set_option maxRecDepth 100000 in
set_option maxHeartbeats 1600000 in
theorem writeCount_any {B b : Nat} {l : List UInt8} {w : World} (hT : FT 97 0) (h : FB 97 B b [] l w) (few many : UInt8) (c : Nat) (hf : few.toNat ≤ 200) (hc : c ≤ 1000) (hlen : l.length ≤ 100000000) (hBw : B ≤ w.heap.size) :
    Calls Tryz.prog 130 #[.pointer (some ⟨b, 0, none⟩), .int .u8 (few.toNat : Int), .int .u8 (many.toNat : Int), .int .i64 c] w fun e w' => e = .returned (.tuple #[]) ∧ FB 97 B b [] (l ++ packC few many c) w' ∧ Below B w w' ∧ Beside b w w' := by
  by_cases a : c < 16
  · have a' : (c : Int) < 16 := by omega
    have HE := hideB (show packC few many c = [byI (few.toNat + c)] by unfold packC; rw [if_pos a])
    have C1 := hideB (fb_byte hT h (byI ((few.toNat : Int) + (c : Int))) (by omega) hBw)
    rw [byI_int, Int.emod_eq_of_lt (by omega) (by omega)] at C1
    have hfc : (few.toNat : Int) + (c : Int) ≤ 255 := by omega
    go_enter Tryz.func130, Tryz.ntmps130
    go_wp2_with (go_at_call 38; refine C1.out.mono ?_; rintro e w1 ⟨rfl, f1, b1, k1⟩)
    exact bodyPost_ret (results_none rfl _ _ _) rfl ⟨rfl, by rw [HE.out]; exact f1, b1, k1⟩
  · have a' : ¬ (c : Int) < 16 := by omega
    have HE := hideB (show packC few many c = many :: bigB c 2 by unfold packC; rw [if_neg a])
    have C1 := hideB (fb_byte hT h many (by omega) hBw)
    go_enter Tryz.func130, Tryz.ntmps130
    go_wp2_with (first | (go_at_call 38; refine C1.out.mono ?_; rintro e w1 ⟨rfl, f1, b1, k1⟩) | (go_at_call 177; refine (writeBytes_any hT f1 (c : Int) 2 (by omega) (by omega) (by omega) (by simp; omega) (by have := b1.size; omega)).mono ?_; rintro e w2 ⟨rfl, f2, b2, k2⟩))
    go_end0
    exact ⟨rfl, by rw [HE.out]; rw [List.append_assoc] at f2; exact f2, b1.trans b2, k1.trans k2⟩
end Go.Proofs.YtiamkmkbkehldaaGreatDoor

/-
  The program's headOf: a head in an array of nine bytes.
-/
namespace Go.Proofs.YtiamkmkbkehldaaGreatDoor
open Go.RowKit
set_option linter.unusedSimpArgs false
set_option linter.unusedVariables false

/-- Nine cells of bytes. -/
def nineC (c : Nat → Int) : Array Value := #[.int .u8 (c 0), .int .u8 (c 1), .int .u8 (c 2), .int .u8 (c 3), .int .u8 (c 4), .int .u8 (c 5), .int .u8 (c 6), .int .u8 (c 7), .int .u8 (c 8)]
theorem nineC_at (c : Nat → Int) {i : Nat} (h : i < 9) : (nineC c)[i]? = some (.int .u8 (c i)) := by
  have : i = 0 ∨ i = 1 ∨ i = 2 ∨ i = 3 ∨ i = 4 ∨ i = 5 ∨ i = 6 ∨ i = 7 ∨ i = 8 := by omega
  rcases this with rfl | rfl | rfl | rfl | rfl | rfl | rfl | rfl | rfl <;> rfl
/-- What headOf hands back. -/
def HeadIs (l : List UInt8) (e : Ending) : Prop := ∃ c : Nat → Int, e = .returned (.tuple #[.agg (nineC c), .int .i64 l.length]) ∧ ∀ j x, l[j]? = some x → c j = x.toNat
theorem info_nine : (Tryz.prog.info? 213).map (·.size) = some 9 := by kernel_rfl
theorem head_ret {tmps : Array Value} {w : World} {g : Nat} {c : Nat → Int} {z : Value} {fr : Nat × Nat} (h4 : tmps.getD 4 undef = .pointer (some ⟨g, 0, none⟩)) (h5 : tmps.getD 5 undef = z) (hg : w.heap[g]? = some (.cells (nineC c) 213 fr)) :
    (results Tryz.f171 tmps).run Tryz.prog w = .ok (.tuple #[.agg (nineC c), z]) w := by
  rw [results_cell_tmp rfl, h4, h5]
  have h1 := run_loadVar_row (P := Tryz.prog) w g 213 213 (nineC c) fr _ hg Tryz.underlying213 rfl info_nine
  simp only [asAddr, Sem.run_pure, Result.andThen]
  rw [h1]

set_option maxRecDepth 100000 in
set_option maxHeartbeats 1600000 in
theorem headOf_low (k : Nat) (n : Int) (w : World) (hk : k ≤ 7) (h0 : 0 ≤ n) (h1 : n < 24) : Calls Tryz.prog 171 #[.int .u8 k, .int .u64 n] w fun e w' => HeadIs (headC k n) e ∧ Below w.heap.size w w' := by
  have hk1 : 32 * (k : Int) ≤ 224 := by omega
  have HE := hideB (headC_low (k := k) h1)
  go_enter Tryz.func171, Tryz.ntmps171
  go_wp2_with fail
  refine bodyPost_ret (head_ret (c := fun i => if i = 0 then 32 * (k : Int) + n else 0) rfl rfl (heap_alloc_new w _)) rfl ⟨⟨_, by rw [HE.out]; rfl, ?_⟩, (Below.refl _ _).alloc (Nat.le_refl _) _⟩
  intro j x hx
  rw [HE.out] at hx
  have hj : j = 0 := by
    have := List.getElem?_eq_some_iff.1 hx
    obtain ⟨h, _⟩ := this
    simpa using h
  subst hj
  injection hx with hx
  subst hx
  rw [byI_int]
  simp
  omega

def nsh (n : Int) : Nat → Int
  | 0 => n
  | j + 1 => nsh n j / 256
theorem nsh_is (n : Int) (j : Nat) : nsh n j = n / 256 ^ j := by
  induction j with
  | zero => simp [nsh]
  | succ j ih => rw [nsh, ih, Int.pow_succ, Int.ediv_ediv_of_nonneg (Int.le_of_lt (Int.pow_pos (by decide)))]
theorem nsh_in {n : Int} (h0 : 0 ≤ n) (h1 : n ≤ 18446744073709551615) (j : Nat) : 0 ≤ nsh n j ∧ nsh n j ≤ 18446744073709551615 := by
  induction j with
  | zero => exact ⟨h0, h1⟩
  | succ j ih => rw [nsh]; omega
/-- The cells when 'j' bytes of 'W' have been put. -/
def cellH (c0 n : Int) (W j : Nat) (i : Nat) : Int := if i = 0 then c0 else if W - j < i ∧ i ≤ W then nsh n (W - i) % 256 else 0

theorem nine_bytes {k : Nat} {n : Int} {st : Nat} {c0 : Int} (h24 : ¬ n < 24) (hs : stepI n = st) (hc0 : c0 = 32 * k + 24 + st) (hk : k ≤ 6) (hst : st ≤ 3) : ∀ j x, (headC k n)[j]? = some x → cellH c0 n (2 ^ st) (2 ^ st) j = x.toNat := by
  intro j x hx
  rw [headC_big h24 hs rfl] at hx
  cases j with
  | zero =>
    simp at hx
    subst hx
    rw [byI_int]
    unfold cellH
    simp
    omega
  | succ j =>
    rw [List.getElem?_cons_succ] at hx
    obtain ⟨hj, e⟩ := List.getElem?_eq_some_iff.1 hx
    rw [bigB_len] at hj
    have hd := bigB_drop n (2 ^ st) (2 ^ st - j) (by omega)
    rw [show 2 ^ st - (2 ^ st - j) = j by omega] at hd
    have h2 : (bigB n (2 ^ st)).drop j = (bigB n (2 ^ st))[j]'(by rw [bigB_len]; exact hj) :: (bigB n (2 ^ st)).drop (j + 1) := List.drop_eq_getElem_cons _
    rw [hd, show 2 ^ st - j = (2 ^ st - (j + 1)) + 1 by omega, bigB, e] at h2
    have h3 := (List.cons.inj h2).1
    unfold cellH
    rw [if_neg (by omega), if_pos (by omega), ← h3, byI_int, nsh_is]

set_option maxRecDepth 100000 in
set_option maxHeartbeats 3200000 in
theorem headOf_big (k : Nat) (n : Int) (w : World) (hk : k ≤ 6) (h24 : 24 ≤ n) (h1 : n ≤ 18446744073709551615) (st : Nat) (hs : stepI n = st) : Calls Tryz.prog 171 #[.int .u8 k, .int .u64 n] w fun e w' => HeadIs (headC k n) e ∧ Below w.heap.size w w' := by
  have hst := stepI_le n
  have HS := hideB (stepFor_any n · (by omega) h1)
  rw [hs] at hst HS
  have hk1 : 32 * (k : Int) ≤ 192 := by omega
  have h24' : ¬ n < 24 := by omega
  have HN := hideB (nine_bytes (k := k) (n := n) (c0 := 32 * k + 24 + st) h24' hs rfl hk hst)
  have HL := hideB (headC_big (k := k) h24' hs rfl)
  clear hs
  have hst4 : st = 0 ∨ st = 1 ∨ st = 2 ∨ st = 3 := by omega
  have HR := hideB (fun j => nsh_in (show 0 ≤ n by omega) h1 j)
  rcases hst4 with rfl | rfl | rfl | rfl
  · go_enter Tryz.func171, Tryz.ntmps171
    go_wp2_with (go_at_call 176; refine (HS.out _).mono ?_; rintro e w9 ⟨rfl, h9⟩; subst w9)
    go_loopw [1, 9] (fun v1 v9 wr => ∃ j : Nat, j ≤ 1 ∧ v1 = .int .u64 (nsh n j) ∧ v9 = .int .i64 ((1 - j : Nat) : Int) ∧ wr = (w.alloc (.cells #[.int .u8 0, .int .u8 0, .int .u8 0, .int .u8 0, .int .u8 0, .int .u8 0, .int .u8 0, .int .u8 0, .int .u8 0] 213)).alloc (.cells (nineC (cellH (32 * (k : Int) + 24) n 1 j)) 213)) (fun _ v9 _ => (intOf v9).toNat)
    case atStart => exact ⟨0, by omega, rfl, rfl, rfl⟩
    case round =>
      obtain ⟨j, hj, rfl, rfl, rfl⟩ := hrel
      have hm := HR.out j
      have hj4 : j = 0 ∨ j = 1 := by omega
      obtain ⟨m, hmm⟩ : ∃ m, nsh n j = m := ⟨_, rfl⟩
      have HMM := hideB hmm
      rw [hmm] at hm ⊢
      clear hmm
      rcases hj4 with rfl | rfl
      · simp only [nineC, cellH]
        go_wp2_with fail
        refine ⟨⟨1, by omega, by rw [nsh, HMM.out], rfl, ?_⟩, by simp [intOf]⟩
        simp only [nineC, cellH, Nat.reduceSub, HMM.out, nsh]
        rfl
      · simp only [nineC, cellH]
        go_wp2_with fail
        refine bodyPost_ret (head_ret (c := cellH (32 * (k : Int) + 24) n 1 1) rfl rfl ((Below.heap_alloc _ _ _ (by simp)).trans (heap_alloc_new w _))) rfl ⟨⟨_, by rw [HL.out, List.length_cons, bigB_len]; rfl, by have h := HN.out; simpa using h⟩, ((Below.refl _ _).alloc (Nat.le_refl _) _).alloc (by simp) _⟩
  · go_enter Tryz.func171, Tryz.ntmps171
    go_wp2_with (go_at_call 176; refine (HS.out _).mono ?_; rintro e w9 ⟨rfl, h9⟩; subst w9)
    go_loopw [1, 9] (fun v1 v9 wr => ∃ j : Nat, j ≤ 2 ∧ v1 = .int .u64 (nsh n j) ∧ v9 = .int .i64 ((2 - j : Nat) : Int) ∧ wr = (w.alloc (.cells #[.int .u8 0, .int .u8 0, .int .u8 0, .int .u8 0, .int .u8 0, .int .u8 0, .int .u8 0, .int .u8 0, .int .u8 0] 213)).alloc (.cells (nineC (cellH (32 * (k : Int) + 24 + 1) n 2 j)) 213)) (fun _ v9 _ => (intOf v9).toNat)
    case atStart => exact ⟨0, by omega, rfl, rfl, rfl⟩
    case round =>
      obtain ⟨j, hj, rfl, rfl, rfl⟩ := hrel
      have hm := HR.out j
      have hj4 : j = 0 ∨ j = 1 ∨ j = 2 := by omega
      obtain ⟨m, hmm⟩ : ∃ m, nsh n j = m := ⟨_, rfl⟩
      have HMM := hideB hmm
      rw [hmm] at hm ⊢
      clear hmm
      rcases hj4 with rfl | rfl | rfl
      · simp only [nineC, cellH]
        go_wp2_with fail
        refine ⟨⟨1, by omega, by rw [nsh, HMM.out], rfl, ?_⟩, by simp [intOf]⟩
        simp only [nineC, cellH, Nat.reduceSub, HMM.out, nsh]
        rfl
      · simp only [nineC, cellH]
        go_wp2_with fail
        refine ⟨⟨2, by omega, by rw [nsh, HMM.out], rfl, ?_⟩, by simp [intOf]⟩
        simp only [nineC, cellH, Nat.reduceSub, HMM.out, nsh]
        rfl
      · simp only [nineC, cellH]
        go_wp2_with fail
        refine bodyPost_ret (head_ret (c := cellH (32 * (k : Int) + 24 + 1) n 2 2) rfl rfl ((Below.heap_alloc _ _ _ (by simp)).trans (heap_alloc_new w _))) rfl ⟨⟨_, by rw [HL.out, List.length_cons, bigB_len]; rfl, by have h := HN.out; simpa using h⟩, ((Below.refl _ _).alloc (Nat.le_refl _) _).alloc (by simp) _⟩
  · go_enter Tryz.func171, Tryz.ntmps171
    go_wp2_with (go_at_call 176; refine (HS.out _).mono ?_; rintro e w9 ⟨rfl, h9⟩; subst w9)
    go_loopw [1, 9] (fun v1 v9 wr => ∃ j : Nat, j ≤ 4 ∧ v1 = .int .u64 (nsh n j) ∧ v9 = .int .i64 ((4 - j : Nat) : Int) ∧ wr = (w.alloc (.cells #[.int .u8 0, .int .u8 0, .int .u8 0, .int .u8 0, .int .u8 0, .int .u8 0, .int .u8 0, .int .u8 0, .int .u8 0] 213)).alloc (.cells (nineC (cellH (32 * (k : Int) + 24 + 2) n 4 j)) 213)) (fun _ v9 _ => (intOf v9).toNat)
    case atStart => exact ⟨0, by omega, rfl, rfl, rfl⟩
    case round =>
      obtain ⟨j, hj, rfl, rfl, rfl⟩ := hrel
      have hm := HR.out j
      have hj4 : j = 0 ∨ j = 1 ∨ j = 2 ∨ j = 3 ∨ j = 4 := by omega
      obtain ⟨m, hmm⟩ : ∃ m, nsh n j = m := ⟨_, rfl⟩
      have HMM := hideB hmm
      rw [hmm] at hm ⊢
      clear hmm
      rcases hj4 with rfl | rfl | rfl | rfl | rfl
      · simp only [nineC, cellH]
        go_wp2_with fail
        refine ⟨⟨1, by omega, by rw [nsh, HMM.out], rfl, ?_⟩, by simp [intOf]⟩
        simp only [nineC, cellH, Nat.reduceSub, HMM.out, nsh]
        rfl
      · simp only [nineC, cellH]
        go_wp2_with fail
        refine ⟨⟨2, by omega, by rw [nsh, HMM.out], rfl, ?_⟩, by simp [intOf]⟩
        simp only [nineC, cellH, Nat.reduceSub, HMM.out, nsh]
        rfl
      · simp only [nineC, cellH]
        go_wp2_with fail
        refine ⟨⟨3, by omega, by rw [nsh, HMM.out], rfl, ?_⟩, by simp [intOf]⟩
        simp only [nineC, cellH, Nat.reduceSub, HMM.out, nsh]
        rfl
      · simp only [nineC, cellH]
        go_wp2_with fail
        refine ⟨⟨4, by omega, by rw [nsh, HMM.out], rfl, ?_⟩, by simp [intOf]⟩
        simp only [nineC, cellH, Nat.reduceSub, HMM.out, nsh]
        rfl
      · simp only [nineC, cellH]
        go_wp2_with fail
        refine bodyPost_ret (head_ret (c := cellH (32 * (k : Int) + 24 + 2) n 4 4) rfl rfl ((Below.heap_alloc _ _ _ (by simp)).trans (heap_alloc_new w _))) rfl ⟨⟨_, by rw [HL.out, List.length_cons, bigB_len]; rfl, by have h := HN.out; simpa using h⟩, ((Below.refl _ _).alloc (Nat.le_refl _) _).alloc (by simp) _⟩
  · go_enter Tryz.func171, Tryz.ntmps171
    go_wp2_with (go_at_call 176; refine (HS.out _).mono ?_; rintro e w9 ⟨rfl, h9⟩; subst w9)
    go_loopw [1, 9] (fun v1 v9 wr => ∃ j : Nat, j ≤ 8 ∧ v1 = .int .u64 (nsh n j) ∧ v9 = .int .i64 ((8 - j : Nat) : Int) ∧ wr = (w.alloc (.cells #[.int .u8 0, .int .u8 0, .int .u8 0, .int .u8 0, .int .u8 0, .int .u8 0, .int .u8 0, .int .u8 0, .int .u8 0] 213)).alloc (.cells (nineC (cellH (32 * (k : Int) + 24 + 3) n 8 j)) 213)) (fun _ v9 _ => (intOf v9).toNat)
    case atStart => exact ⟨0, by omega, rfl, rfl, rfl⟩
    case round =>
      obtain ⟨j, hj, rfl, rfl, rfl⟩ := hrel
      have hm := HR.out j
      have hj4 : j = 0 ∨ j = 1 ∨ j = 2 ∨ j = 3 ∨ j = 4 ∨ j = 5 ∨ j = 6 ∨ j = 7 ∨ j = 8 := by omega
      obtain ⟨m, hmm⟩ : ∃ m, nsh n j = m := ⟨_, rfl⟩
      have HMM := hideB hmm
      rw [hmm] at hm ⊢
      clear hmm
      rcases hj4 with rfl | rfl | rfl | rfl | rfl | rfl | rfl | rfl | rfl
      · simp only [nineC, cellH]
        go_wp2_with fail
        refine ⟨⟨1, by omega, by rw [nsh, HMM.out], rfl, ?_⟩, by simp [intOf]⟩
        simp only [nineC, cellH, Nat.reduceSub, HMM.out, nsh]
        rfl
      · simp only [nineC, cellH]
        go_wp2_with fail
        refine ⟨⟨2, by omega, by rw [nsh, HMM.out], rfl, ?_⟩, by simp [intOf]⟩
        simp only [nineC, cellH, Nat.reduceSub, HMM.out, nsh]
        rfl
      · simp only [nineC, cellH]
        go_wp2_with fail
        refine ⟨⟨3, by omega, by rw [nsh, HMM.out], rfl, ?_⟩, by simp [intOf]⟩
        simp only [nineC, cellH, Nat.reduceSub, HMM.out, nsh]
        rfl
      · simp only [nineC, cellH]
        go_wp2_with fail
        refine ⟨⟨4, by omega, by rw [nsh, HMM.out], rfl, ?_⟩, by simp [intOf]⟩
        simp only [nineC, cellH, Nat.reduceSub, HMM.out, nsh]
        rfl
      · simp only [nineC, cellH]
        go_wp2_with fail
        refine ⟨⟨5, by omega, by rw [nsh, HMM.out], rfl, ?_⟩, by simp [intOf]⟩
        simp only [nineC, cellH, Nat.reduceSub, HMM.out, nsh]
        rfl
      · simp only [nineC, cellH]
        go_wp2_with fail
        refine ⟨⟨6, by omega, by rw [nsh, HMM.out], rfl, ?_⟩, by simp [intOf]⟩
        simp only [nineC, cellH, Nat.reduceSub, HMM.out, nsh]
        rfl
      · simp only [nineC, cellH]
        go_wp2_with fail
        refine ⟨⟨7, by omega, by rw [nsh, HMM.out], rfl, ?_⟩, by simp [intOf]⟩
        simp only [nineC, cellH, Nat.reduceSub, HMM.out, nsh]
        rfl
      · simp only [nineC, cellH]
        go_wp2_with fail
        refine ⟨⟨8, by omega, by rw [nsh, HMM.out], rfl, ?_⟩, by simp [intOf]⟩
        simp only [nineC, cellH, Nat.reduceSub, HMM.out, nsh]
        rfl
      · simp only [nineC, cellH]
        go_wp2_with fail
        refine bodyPost_ret (head_ret (c := cellH (32 * (k : Int) + 24 + 3) n 8 8) rfl rfl ((Below.heap_alloc _ _ _ (by simp)).trans (heap_alloc_new w _))) rfl ⟨⟨_, by rw [HL.out, List.length_cons, bigB_len]; rfl, by have h := HN.out; simpa using h⟩, ((Below.refl _ _).alloc (Nat.le_refl _) _).alloc (by simp) _⟩

theorem headOf_any (k : Nat) (n : Int) (w : World) (hk : k ≤ 6) (h0 : 0 ≤ n) (h1 : n ≤ 18446744073709551615) : Calls Tryz.prog 171 #[.int .u8 k, .int .u64 n] w fun e w' => HeadIs (headC k n) e ∧ Below w.heap.size w w' := by
  by_cases h : n < 24
  · exact headOf_low k n w (by omega) h0 h
  · exact headOf_big k n w hk (by omega) h1 _ rfl
end Go.Proofs.YtiamkmkbkehldaaGreatDoor
