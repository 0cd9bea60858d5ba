/-
  The program's packWriter: numbers, texts and counts.
-/
import Derived.Test.YtokhindolimchaaGreatSPkW
import Derived.Test.YtokhindolimchaaGreatCbR
import Derived.Test.YtokhindolimchaaGreatProg
import Derived.WalkKit
import Derived.Test.YtokhindolimchaaGreatEscP
namespace Go.Proofs.YtokhindolimchaaGreat
open Go.RowKit
set_option linter.unusedSimpArgs false
set_option linter.unusedVariables false

set_option maxRecDepth 100000 in
set_option maxHeartbeats 1600000 in
theorem stepFor_any (n : Int) (w : World) (h0 : 0 ≤ n) (h1 : n ≤ 18446744073709551615) : Calls Tryz.prog 103 #[.int .u64 n] w fun e w' => e = .returned (.int .i64 (stepI n)) ∧ w' = w := by
  go_enter Tryz.func103, Tryz.ntmps103
  go_wp2_with fail
  go_loop [3] (fun s => ∃ k : Nat, k ≤ stepI n ∧ s = .int .i64 k) (fun s => 3 - (intOf s).toNat)
  case atStart => exact ⟨0, Nat.zero_le _, rfl⟩
  case round =>
    obtain ⟨k, hk, rfl⟩ := hrel
    have h3 := stepI_le n
    have hk3 : k = 0 ∨ k = 1 ∨ k = 2 ∨ k = 3 := by omega
    rcases hk3 with rfl | rfl | rfl | rfl
    · by_cases a : n < 256
      · have HS := hideB (step0 a)
        have hd : n / 256 = 0 := by omega
        go_wp2_with fail
        go_ret
        exact ⟨by rw [HS.out]; rfl, rfl⟩
      · have hd : 0 < n / 256 := by omega
        have hs : 1 ≤ stepI n := by unfold stepI; rw [if_neg a]; split <;> (try split) <;> omega
        have HS := hideB hs
        clear hs
        go_wp2_with fail
        exact ⟨⟨1, HS.out, rfl⟩, by simp [intOf]⟩
    · have hn : ¬ n < 256 := fun a => by rw [step0 a] at hk; omega
      by_cases a : n < 65536
      · have HS := hideB (step1 hn a)
        have hd : n / 65536 = 0 := by omega
        go_wp2_with fail
        go_ret
        exact ⟨by rw [HS.out]; rfl, rfl⟩
      · have hd : 0 < n / 65536 := by omega
        have hs : 2 ≤ stepI n := by unfold stepI; rw [if_neg hn, if_neg a]; split <;> omega
        have HS := hideB hs
        clear hs
        go_wp2_with fail
        exact ⟨⟨2, HS.out, rfl⟩, by simp [intOf]⟩
    · have hn : ¬ n < 65536 := fun a => by
        by_cases a2 : n < 256
        · rw [step0 a2] at hk; omega
        · rw [step1 a2 a] at hk; omega
      by_cases a : n < 4294967296
      · have HS := hideB (step2 hn a)
        have hd : n / 4294967296 = 0 := by omega
        go_wp2_with fail
        go_ret
        exact ⟨by rw [HS.out]; rfl, rfl⟩
      · have hd : 0 < n / 4294967296 := by omega
        have HS := hideB (step3 a)
        go_wp2_with fail
        exact ⟨⟨3, by rw [HS.out]; exact Nat.le_refl _, rfl⟩, by simp [intOf]⟩
    · have HS := hideB (show stepI n = 3 by omega)
      have hd : n / 18446744073709551616 = 0 := by omega
      go_wp2_with fail
      go_ret
      exact ⟨by rw [HS.out]; rfl, rfl⟩

set_option maxRecDepth 100000 in
set_option maxHeartbeats 1600000 in
theorem writeWide_any {B b : Nat} {l : List UInt8} {w : World} (hT : FT 68 0) (h : FB 68 B b [] l w) (row : Nat) (st : Nat) (n : Int) (hr : row ≤ 250) (hst : st ≤ 3) (h0n : 0 ≤ n) (h1n : n ≤ 18446744073709551615) (hlen : l.length ≤ 100000000) (hBw : B ≤ w.heap.size) :
    Calls Tryz.prog 102 #[.pointer (some ⟨b, 0, none⟩), .int .u8 row, .int .i64 st, .int .u64 n] w fun e w' => e = .returned (.tuple #[]) ∧ FB 68 B b [] (l ++ byI (row + st) :: bigB n (2 ^ st)) w' ∧ Below B w w' ∧ Beside b w w' := by
  have hst4 : st = 0 ∨ st = 1 ∨ st = 2 ∨ st = 3 := by omega
  rcases hst4 with rfl | rfl | rfl | rfl
  · have C1 := hideB (fb_byte hT h (byI ((row : Int) + (0 : Nat))) (by omega) hBw)
    rw [byI_int, Int.emod_eq_of_lt (by omega) (by omega)] at C1
    have hrow : ((row : Int) + 0) ≤ 255 := by omega
    go_enter Tryz.func102, Tryz.ntmps102
    go_wp2_with (first | (go_at_call 68; refine C1.out.mono ?_; rintro e w1 ⟨rfl, f1, b1, k1⟩) | (go_at_call 104; refine (writeBytes_any hT f1 n 1 (by omega) h0n h1n (by simp; omega) (by have := b1.size; omega)).mono ?_; rintro e w2 ⟨rfl, f2, b2, k2⟩))
    go_end0
    exact ⟨rfl, by rw [List.append_assoc] at f2; exact f2, b1.trans b2, k1.trans k2⟩
  · have C1 := hideB (fb_byte hT h (byI ((row : Int) + (1 : Nat))) (by omega) hBw)
    rw [byI_int, Int.emod_eq_of_lt (by omega) (by omega)] at C1
    have hrow : ((row : Int) + 1) ≤ 255 := by omega
    go_enter Tryz.func102, Tryz.ntmps102
    go_wp2_with (first | (go_at_call 68; refine C1.out.mono ?_; rintro e w1 ⟨rfl, f1, b1, k1⟩) | (go_at_call 104; refine (writeBytes_any hT f1 n 2 (by omega) h0n h1n (by simp; omega) (by have := b1.size; omega)).mono ?_; rintro e w2 ⟨rfl, f2, b2, k2⟩))
    go_end0
    exact ⟨rfl, by rw [List.append_assoc] at f2; exact f2, b1.trans b2, k1.trans k2⟩
  · have C1 := hideB (fb_byte hT h (byI ((row : Int) + (2 : Nat))) (by omega) hBw)
    rw [byI_int, Int.emod_eq_of_lt (by omega) (by omega)] at C1
    have hrow : ((row : Int) + 2) ≤ 255 := by omega
    go_enter Tryz.func102, Tryz.ntmps102
    go_wp2_with (first | (go_at_call 68; refine C1.out.mono ?_; rintro e w1 ⟨rfl, f1, b1, k1⟩) | (go_at_call 104; refine (writeBytes_any hT f1 n 4 (by omega) h0n h1n (by simp; omega) (by have := b1.size; omega)).mono ?_; rintro e w2 ⟨rfl, f2, b2, k2⟩))
    go_end0
    exact ⟨rfl, by rw [List.append_assoc] at f2; exact f2, b1.trans b2, k1.trans k2⟩
  · have C1 := hideB (fb_byte hT h (byI ((row : Int) + (3 : Nat))) (by omega) hBw)
    rw [byI_int, Int.emod_eq_of_lt (by omega) (by omega)] at C1
    have hrow : ((row : Int) + 3) ≤ 255 := by omega
    go_enter Tryz.func102, Tryz.ntmps102
    go_wp2_with (first | (go_at_call 68; refine C1.out.mono ?_; rintro e w1 ⟨rfl, f1, b1, k1⟩) | (go_at_call 104; refine (writeBytes_any hT f1 n 8 (by omega) h0n h1n (by simp; omega) (by have := b1.size; omega)).mono ?_; rintro e w2 ⟨rfl, f2, b2, k2⟩))
    go_end0
    exact ⟨rfl, by rw [List.append_assoc] at f2; exact f2, b1.trans b2, k1.trans k2⟩

set_option maxRecDepth 100000 in
set_option maxHeartbeats 1600000 in
theorem writeNumber_any {B b : Nat} {l : List UInt8} {w : World} (hT : FT 68 0) (h : FB 68 B b [] l w) (n : Int) (h0 : -1000000000000000 ≤ n) (h1 : n ≤ 1000000000000000) (hlen : l.length ≤ 100000000) (hBw : B ≤ w.heap.size) :
    Calls Tryz.prog 78 #[.pointer (some ⟨b, 0, none⟩), .int .i64 n] w fun e w' => e = .returned (.tuple #[]) ∧ FB 68 B b [] (l ++ packI n) w' ∧ Below B w w' ∧ Beside b w w' := by
  by_cases a1 : -32 ≤ n
  · by_cases a2 : n ≤ 127
    · have HE := hideB (packI_alone (n := n) ⟨a1, a2⟩)
      have C1 := hideB (fb_byte hT h (byI n) (by omega) hBw)
      rw [byI_int] at C1
      by_cases a0 : 0 ≤ n
      · have e0 : n % 256 = n := by omega
        rw [e0] at C1
        clear e0
        go_enter Tryz.func78, Tryz.ntmps78
        go_wp2_with (go_at_call 68; refine C1.out.mono ?_; rintro e w1 ⟨rfl, f1, b1, k1⟩)
        go_end0
        exact ⟨rfl, by rw [HE.out]; exact f1, b1, k1⟩
      · go_enter Tryz.func78, Tryz.ntmps78
        go_wp2_with (go_at_call 68; refine C1.out.mono ?_; rintro e w1 ⟨rfl, f1, b1, k1⟩)
        go_end0
        exact ⟨rfl, by rw [HE.out]; exact f1, b1, k1⟩
    · have a3 : 0 ≤ n := by omega
      have hst := stepI_le n
      obtain ⟨k, hk⟩ : ∃ k, stepI n = k := ⟨_, rfl⟩
      have HE := hideB (packI_up (n := n) (by omega) hk (c := byI (204 + k)) rfl)
      have CS := hideB (fun w => stepFor_any n w a3 (by omega))
      rw [hk] at CS hst
      have CW := hideB (writeWide_any hT h 204 k n (by omega) hst a3 (by omega) hlen hBw)
      clear hk
      go_enter Tryz.func78, Tryz.ntmps78
      go_wp2_with (first | (go_at_call 103; refine (CS.out _).mono ?_; rintro e w9 ⟨rfl, h9⟩; subst w9) | (go_at_call 102; refine CW.out.mono ?_; rintro e w1 ⟨rfl, f1, b1, k1⟩))
      go_end0
      exact ⟨rfl, by rw [HE.out]; exact f1, b1, k1⟩
  · have a3 : ¬ 0 ≤ n := by omega
    have hst := stepI_le (2 * (-1 - n))
    obtain ⟨k, hk⟩ : ∃ k, stepI (2 * (-1 - n)) = k := ⟨_, rfl⟩
    have HE := hideB (packI_dn (n := n) (by omega) hk (c := byI (208 + k)) rfl)
    have CS := hideB (fun w => stepFor_any (2 * (-1 - n)) w (by omega) (by omega))
    rw [hk] at CS hst
    have CW := hideB (writeWide_any hT h 208 k (n + 18446744073709551616) (by omega) hst (by omega) (by omega) hlen hBw)
    rw [bigB_wrap n _ (pow_le3 hst)] at CW
    clear hk
    go_enter Tryz.func78, Tryz.ntmps78
    go_wp2_with fail
    refine (CS.out _).mono ?_
    rintro e w9 ⟨rfl, h9⟩
    subst w9
    have hwr : IntKind.u64.wrap n = n + 18446744073709551616 := by
      have e : IntKind.u64.bits = 64 := rfl
      have e2 : IntKind.u64.signed = false := rfl
      simp [IntKind.wrap, e, e2]; omega
    go_wp2_with fail
    refine CW.out.mono ?_
    rintro e w1 ⟨rfl, f1, b1, k1⟩
    go_wp2_with fail
    go_end0
    exact ⟨rfl, by rw [HE.out]; exact f1, b1, k1⟩

set_option maxRecDepth 100000 in
set_option maxHeartbeats 1600000 in
theorem writeText_any {B b : Nat} {l : List UInt8} {w : World} (hT : FT 68 0) (h : FB 68 B b [] l w) (s : ByteArray) (hs : s.size ≤ 200) (hlen : l.length ≤ 100000000) (hBw : B ≤ w.heap.size) :
    Calls Tryz.prog 79 #[.pointer (some ⟨b, 0, none⟩), .string s] w fun e w' => e = .returned (.tuple #[]) ∧ FB 68 B b [] (l ++ packW s) w' ∧ Below B w w' ∧ Beside b w w' := by
  by_cases a : s.size < 32
  · have a' : (s.size : Int) < 32 := by omega
    have HE := hideB (show packW s = byI (160 + s.size) :: s.data.toList by unfold packW; rw [if_pos a])
    have C1 := hideB (fb_byte hT h (byI (160 + (s.size : Int))) (by omega) hBw)
    rw [byI_int, Int.emod_eq_of_lt (by omega) (by omega)] at C1
    go_enter Tryz.func79, Tryz.ntmps79
    go_wp2_with (first | (go_at_call 68; refine C1.out.mono ?_; rintro e w1 ⟨rfl, f1, b1, k1⟩) | (go_at_call 96; refine (fb_text hT f1 s (by simp; omega) (by have := b1.size; omega)).mono ?_; rintro e w2 ⟨rfl, f2, b2, k2⟩))
    go_end0
    exact ⟨rfl, by rw [HE.out]; rw [List.append_assoc] at f2; exact f2, b1.trans b2, k1.trans k2⟩
  · have a' : ¬ (s.size : Int) < 32 := by omega
    have HE := hideB (show packW s = 217 :: (bigB s.size 1 ++ s.data.toList) by unfold packW; rw [if_neg a])
    have CW := hideB (writeWide_any hT h 217 0 (s.size : Int) (by omega) (by omega) (by omega) (by omega) hlen hBw)
    go_enter Tryz.func79, Tryz.ntmps79
    go_wp2_with (first | (go_at_call 102; refine CW.out.mono ?_; rintro e w1 ⟨rfl, f1, b1, k1⟩) | (go_at_call 96; refine (fb_text hT f1 s (by simp [bigB_len]; omega) (by have := b1.size; omega)).mono ?_; rintro e w2 ⟨rfl, f2, b2, k2⟩))
    go_end0
    exact ⟨rfl, by rw [HE.out]; rw [List.append_assoc] at f2; exact f2, b1.trans b2, k1.trans k2⟩

set_option maxRecDepth 100000 in
set_option maxHeartbeats 1600000 in
theorem writeCount_any {B b : Nat} {l : List UInt8} {w : World} (hT : FT 68 0) (h : FB 68 B b [] l w) (few many : UInt8) (c : Nat) (hf : few.toNat ≤ 200) (hc : c ≤ 1000) (hlen : l.length ≤ 100000000) (hBw : B ≤ w.heap.size) :
    Calls Tryz.prog 80 #[.pointer (some ⟨b, 0, none⟩), .int .u8 (few.toNat : Int), .int .u8 (many.toNat : Int), .int .i64 c] w fun e w' => e = .returned (.tuple #[]) ∧ FB 68 B b [] (l ++ packC few many c) w' ∧ Below B w w' ∧ Beside b w w' := by
  by_cases a : c < 16
  · have a' : (c : Int) < 16 := by omega
    have HE := hideB (show packC few many c = [byI (few.toNat + c)] by unfold packC; rw [if_pos a])
    have C1 := hideB (fb_byte hT h (byI ((few.toNat : Int) + (c : Int))) (by omega) hBw)
    rw [byI_int, Int.emod_eq_of_lt (by omega) (by omega)] at C1
    have hfc : (few.toNat : Int) + (c : Int) ≤ 255 := by omega
    go_enter Tryz.func80, Tryz.ntmps80
    go_wp2_with (go_at_call 68; refine C1.out.mono ?_; rintro e w1 ⟨rfl, f1, b1, k1⟩)
    exact bodyPost_ret (results_none rfl _ _ _) rfl ⟨rfl, by rw [HE.out]; exact f1, b1, k1⟩
  · have a' : ¬ (c : Int) < 16 := by omega
    have HE := hideB (show packC few many c = many :: bigB c 2 by unfold packC; rw [if_neg a])
    have C1 := hideB (fb_byte hT h many (by omega) hBw)
    go_enter Tryz.func80, Tryz.ntmps80
    go_wp2_with (first | (go_at_call 68; refine C1.out.mono ?_; rintro e w1 ⟨rfl, f1, b1, k1⟩) | (go_at_call 104; refine (writeBytes_any hT f1 (c : Int) 2 (by omega) (by omega) (by omega) (by simp; omega) (by have := b1.size; omega)).mono ?_; rintro e w2 ⟨rfl, f2, b2, k2⟩))
    go_end0
    exact ⟨rfl, by rw [HE.out]; rw [List.append_assoc] at f2; exact f2, b1.trans b2, k1.trans k2⟩
end Go.Proofs.YtokhindolimchaaGreat

/-
  Plain: numbers, texts and keys of a tree within their bounds.
-/
namespace Go.Proofs.YtokhindolimchaaGreat
open Go.RowKit
set_option linter.unusedSimpArgs false
set_option linter.unusedVariables false

/-- Numbers, texts and keys of a tree within their bounds. -/
def TFit : Nat → VT → Prop
  | 0, _ => True
  | f + 1, .mk kind n s keys kids => (kind = 2 → 0 ≤ n ∧ n ≤ 1) ∧ (kind = 3 → -1000000000000000 ≤ n ∧ n ≤ 1000000000000000) ∧ (kind = 4 → s.size ≤ 60) ∧ kids.length ≤ 80 ∧ (kind = 6 → keys.length = kids.length ∧ ∀ j, j < keys.length → (keyAt keys j).size ≤ 60) ∧ ∀ j, j < kids.length → TFit f (kidT kids j)
theorem tfit_of {vs : List VN} (hok : okB vs = true) : ∀ (f i : Nat), i < vs.length → TFit f (treeOf vs f i) := by
  intro f
  induction f with
  | zero => intro i _; trivial
  | succ f ih =>
    intro i hi
    rw [treeOf]
    have hs := node_says hok hi
    have hk := (keys_few hok i hi)
    refine ⟨fun k => ?_, fun k => ?_, fun k => ?_, by rw [List.length_map]; exact hk.2.1, fun k => ?_, fun j hj => ?_⟩
    · rcases hs with h | ⟨h, a, b⟩ | ⟨h, a, b⟩ | ⟨h, a⟩ | h | ⟨h, a, b⟩ <;> first | exact ⟨a, b⟩ | omega
    · rcases hs with h | ⟨h, a, b⟩ | ⟨h, a, b⟩ | ⟨h, a⟩ | h | ⟨h, a, b⟩ <;> first | omega | exact ⟨a, b⟩
    · rcases hs with h | ⟨h, a, b⟩ | ⟨h, a, b⟩ | ⟨h, a⟩ | h | ⟨h, a, b⟩ <;> first | omega | exact a
    · rcases hs with h | ⟨h, a, b⟩ | ⟨h, a, b⟩ | ⟨h, a⟩ | h | ⟨h, a, b⟩ <;> first | omega | exact ⟨by rw [List.length_map]; exact a, b⟩
    · rw [List.length_map] at hj
      rw [kidT_map hj]
      obtain ⟨_, p2, _, _⟩ := okB_parts hok
      have hki := kidsIn_get (p2 i hi).2 hj
      exact ih _ (by omega)

end Go.Proofs.YtokhindolimchaaGreat

/-
  Which type lies behind the interface: all pairs, in the order of a type switch.
-/
namespace Go.Proofs.YtokhindolimchaaGreat
open Go.RowKit
theorem tw_null_null (x : Value) (w : World) : (Instr.typeAssert (.iface 88 x) 54 88 true).run Tryz.prog w = .ok (.tuple #[x, .bool true]) w := by kernel_rfl
theorem tw_bool_null (x : Value) (w : World) : (Instr.typeAssert (.iface 90 x) 54 88 true).run Tryz.prog w = .ok (.tuple #[.agg #[], .bool false]) w := by kernel_rfl
theorem tw_bool_bool (x : Value) (w : World) : (Instr.typeAssert (.iface 90 x) 54 90 true).run Tryz.prog w = .ok (.tuple #[x, .bool true]) w := by kernel_rfl
theorem tw_int_null (x : Value) (w : World) : (Instr.typeAssert (.iface 92 x) 54 88 true).run Tryz.prog w = .ok (.tuple #[.agg #[], .bool false]) w := by kernel_rfl
theorem tw_int_bool (x : Value) (w : World) : (Instr.typeAssert (.iface 92 x) 54 90 true).run Tryz.prog w = .ok (.tuple #[.agg #[.int .i64 0], .bool false]) w := by kernel_rfl
theorem tw_int_int (x : Value) (w : World) : (Instr.typeAssert (.iface 92 x) 54 92 true).run Tryz.prog w = .ok (.tuple #[x, .bool true]) w := by kernel_rfl
theorem tw_text_null (x : Value) (w : World) : (Instr.typeAssert (.iface 95 x) 54 88 true).run Tryz.prog w = .ok (.tuple #[.agg #[], .bool false]) w := by kernel_rfl
theorem tw_text_bool (x : Value) (w : World) : (Instr.typeAssert (.iface 95 x) 54 90 true).run Tryz.prog w = .ok (.tuple #[.agg #[.int .i64 0], .bool false]) w := by kernel_rfl
theorem tw_text_int (x : Value) (w : World) : (Instr.typeAssert (.iface 95 x) 54 92 true).run Tryz.prog w = .ok (.tuple #[.agg #[.int .i64 0], .bool false]) w := by kernel_rfl
theorem tw_text_text (x : Value) (w : World) : (Instr.typeAssert (.iface 95 x) 54 95 true).run Tryz.prog w = .ok (.tuple #[x, .bool true]) w := by kernel_rfl
theorem tw_list_null (x : Value) (w : World) : (Instr.typeAssert (.iface 113 x) 54 88 true).run Tryz.prog w = .ok (.tuple #[.agg #[], .bool false]) w := by kernel_rfl
theorem tw_list_bool (x : Value) (w : World) : (Instr.typeAssert (.iface 113 x) 54 90 true).run Tryz.prog w = .ok (.tuple #[.agg #[.int .i64 0], .bool false]) w := by kernel_rfl
theorem tw_list_int (x : Value) (w : World) : (Instr.typeAssert (.iface 113 x) 54 92 true).run Tryz.prog w = .ok (.tuple #[.agg #[.int .i64 0], .bool false]) w := by kernel_rfl
theorem tw_list_text (x : Value) (w : World) : (Instr.typeAssert (.iface 113 x) 54 95 true).run Tryz.prog w = .ok (.tuple #[.agg #[.string ByteArray.empty], .bool false]) w := by kernel_rfl
theorem tw_list_list (x : Value) (w : World) : (Instr.typeAssert (.iface 113 x) 54 113 true).run Tryz.prog w = .ok (.tuple #[x, .bool true]) w := by kernel_rfl
theorem tw_map_null (x : Value) (w : World) : (Instr.typeAssert (.iface 116 x) 54 88 true).run Tryz.prog w = .ok (.tuple #[.agg #[], .bool false]) w := by kernel_rfl
theorem tw_map_bool (x : Value) (w : World) : (Instr.typeAssert (.iface 116 x) 54 90 true).run Tryz.prog w = .ok (.tuple #[.agg #[.int .i64 0], .bool false]) w := by kernel_rfl
theorem tw_map_int (x : Value) (w : World) : (Instr.typeAssert (.iface 116 x) 54 92 true).run Tryz.prog w = .ok (.tuple #[.agg #[.int .i64 0], .bool false]) w := by kernel_rfl
theorem tw_map_text (x : Value) (w : World) : (Instr.typeAssert (.iface 116 x) 54 95 true).run Tryz.prog w = .ok (.tuple #[.agg #[.string ByteArray.empty], .bool false]) w := by kernel_rfl
theorem tw_map_list (x : Value) (w : World) : (Instr.typeAssert (.iface 116 x) 54 113 true).run Tryz.prog w = .ok (.tuple #[.agg #[.slice none 0 0], .bool false]) w := by kernel_rfl
theorem tw_map_map (x : Value) (w : World) : (Instr.typeAssert (.iface 116 x) 54 116 true).run Tryz.prog w = .ok (.tuple #[x, .bool true]) w := by kernel_rfl
end Go.Proofs.YtokhindolimchaaGreat

/-
  The program's packWriter.write: the bytes of a value.
-/
namespace Go.Proofs.YtokhindolimchaaGreat
open Go.RowKit
set_option linter.unusedSimpArgs false
set_option linter.unusedVariables false

def PwAll (B b f : Nat) : Prop := ∀ (t : VT) (x : Value) (l : List UInt8) (w : World), FB 68 B b [] l w → TreeAt B w f t x → TFit f t → B ≤ w.heap.size → (l ++ packT f t).length ≤ 100000000 →
  Calls Tryz.prog 39 #[.pointer (some ⟨b, 0, none⟩), x] w fun e w' => e = .returned (.tuple #[]) ∧ FB 68 B b [] (l ++ packT f t) w' ∧ Below B w w' ∧ Beside b w w'
theorem end_tuple (e : Ending) (h : e = .returned (.tuple #[])) : e = .returned (.tuple #[]) := h

set_option maxRecDepth 100000 in
set_option maxHeartbeats 6400000 in
theorem write_any (B b : Nat) (hT : FT 68 0) : ∀ f, PwAll B b f := by
  intro f
  induction f with
  | zero => intro t x l w _ h; exact h.elim
  | succ f ih =>
    intro t x l w hfb h hft hBw hlen
    obtain ⟨kind, n, s, keys, kids⟩ := t
    have HLF := hideIt (packT_leaf f (kind := kind) (n := n) (s := s) (keys := keys) (kids := kids))
    obtain ⟨g2, g3, g4, g80, g6, gk⟩ := hft
    have HFB := hideIt hfb
    have IH := hideIt ih
    clear hfb ih
    rcases h with ⟨rfl, rfl, rfl, rfl, rfl, rfl⟩ | ⟨rfl, rfl, rfl, rfl, rfl⟩ | ⟨rfl, rfl, rfl, rfl, rfl⟩ | ⟨rfl, rfl, rfl, rfl, rfl⟩ | ⟨rfl, rfl, rfl, rfl, it, rfl, hi⟩ | ⟨rfl, rfl, rfl, ks, it, rfl, hs, hi⟩
    · have HE := hideIt (HLF.out.1 rfl)
      rw [HE.out] at hlen ⊢
      have hl2 : l.length + 1 ≤ 100000000 := by simpa using hlen
      have t1 := tw_null_null
      go_enter Tryz.func39, Tryz.ntmps39
      go_wp2_with (go_at_call 68; refine (fb_byte hT (HFB.out.alloc _) 192 (by omega) (by simp; omega)).mono ?_; rintro e w1 ⟨rfl, f1, b1, k1⟩)
      go_end0
      exact ⟨rfl, f1, ((Below.refl _ _).alloc hBw _).trans b1, (Beside.alloc _ _ _).trans k1⟩
    · have HE := hideIt (HLF.out.2.1 rfl)
      rw [HE.out] at hlen ⊢
      have hl2 : l.length + 1 ≤ 100000000 := by simpa using hlen
      have hn := g2 rfl
      have t1 := tw_bool_null
      have t2 := tw_bool_bool
      have hn01 : n = 0 ∨ n = 1 := by omega
      have hBa : ∀ o, B ≤ (w.alloc o).drew.heap.size := fun o => by simp; omega
      rcases hn01 with rfl | rfl
      · go_enter Tryz.func39, Tryz.ntmps39
        go_wp2_with fail
        go_region_law (refine step_call2 (by rfl) 68 _ _ _ _ (by rfl) (.pointer (some ⟨b, 0, none⟩)) (.int .u8 194) (by rfl) (by rfl) (call_wbyte _ _) (fb_byte hT (HFB.out.alloc _).drew 194 (by omega) (hBa _)) ?_; rintro e w1 ⟨rfl, f1, b1, k1⟩; refine ⟨_, rfl, ?_⟩)
        all_goals (
          go_wp2_with fail
          go_end0
          exact ⟨rfl, f1, (((Below.refl _ _).alloc hBw _).drew).trans b1, (Beside.alloc _ _ _).trans k1⟩)
      · go_enter Tryz.func39, Tryz.ntmps39
        go_wp2_with fail
        go_region_law (refine step_call2 (by rfl) 68 _ _ _ _ (by rfl) (.pointer (some ⟨b, 0, none⟩)) (.int .u8 195) (by rfl) (by rfl) (call_wbyte _ _) (fb_byte hT (HFB.out.alloc _).drew 195 (by omega) (hBa _)) ?_; rintro e w1 ⟨rfl, f1, b1, k1⟩; refine ⟨_, rfl, ?_⟩)
        all_goals (
          go_wp2_with fail
          go_end0
          exact ⟨rfl, f1, (((Below.refl _ _).alloc hBw _).drew).trans b1, (Beside.alloc _ _ _).trans k1⟩)
    · have HE := hideIt (HLF.out.2.2.1 rfl)
      rw [HE.out] at hlen ⊢
      have hl2 : l.length + (packI n).length ≤ 100000000 := by simpa using hlen
      have hn := g3 rfl
      have t1 := tw_int_null
      have t2 := tw_int_bool
      have t3 := tw_int_int
      go_enter Tryz.func39, Tryz.ntmps39
      go_wp2_with (go_at_call 78; refine (writeNumber_any hT (HFB.out.alloc _) n hn.1 hn.2 (by omega) (by simp; omega)).mono ?_; rintro e w1 ⟨rfl, f1, b1, k1⟩)
      go_end0
      exact ⟨rfl, f1, ((Below.refl _ _).alloc hBw _).trans b1, (Beside.alloc _ _ _).trans k1⟩
    · have HE := hideIt (HLF.out.2.2.2.1 rfl)
      rw [HE.out] at hlen ⊢
      have hl2 : l.length + (packW s).length ≤ 100000000 := by simpa using hlen
      have hn := g4 rfl
      have t1 := tw_text_null
      have t2 := tw_text_bool
      have t3 := tw_text_int
      have t4 := tw_text_text
      go_enter Tryz.func39, Tryz.ntmps39
      go_wp2_with (go_at_call 79; refine (writeText_any hT (HFB.out.alloc _) s (by omega) (by omega) (by simp; omega)).mono ?_; rintro e w1 ⟨rfl, f1, b1, k1⟩)
      go_end0
      exact ⟨rfl, f1, ((Below.refl _ _).alloc hBw _).trans b1, (Beside.alloc _ _ _).trans k1⟩
    · have HE := hideIt (HLF.out.2.2.2.2.1 rfl)
      rw [HE.out] at hlen ⊢
      obtain ⟨hm0, ai, ci, rfl, hx⟩ := hi
      have HX := hideIt hx
      obtain ⟨M, hM⟩ : ∃ M, kids.length = M := ⟨_, rfl⟩
      rw [hM] at hlen HX g80 gk ⊢
      have HGK := hideIt gk
      have HMM := hideIt hM
      have HLM : Hid (∀ k, k ≤ M → (l ++ (packC 144 220 M ++ packL (packT f) false [] kids k)).length ≤ 100000000) := fun k hk => by
        have h2 := packL_mono (packT f) false [] kids hk
        simp only [List.length_append] at hlen ⊢
        omega
      have hl2 : l.length ≤ 100000000 := by simp only [List.length_append] at hlen; omega
      have hbl := HFB.out.lt
      clear hx gk hM hlen
      have t1 := tw_list_null
      have t2 := tw_list_bool
      have t3 := tw_list_int
      have t4 := tw_list_text
      have t5 := tw_list_list
      have HBX : Hid (∀ w1, Beside b (w.alloc (.cells #[.slice ai M ci] 113)) w1 → w1.cell? ⟨w.heap.size, 0, none⟩ = some (.slice ai M ci)) := fun w1 k1 => by
        have hh : (w.alloc (.cells #[.slice ai M ci] 113)).heap[w.heap.size]? = some (.cells #[.slice ai M ci] 113 (0, 0)) := heap_alloc_new w _
        have := k1.2 w.heap.size (by simp) (by omega) (fun cs z e => by rw [hh] at e; injection e with e; injection e with _ e2; revert e2; decide)
        exact cellAt (this.trans hh) rfl
      go_enter Tryz.func39, Tryz.ntmps39
      go_wp2_with (go_at_call 80; refine (writeCount_any hT (HFB.out.alloc _) 144 220 M (by decide) (by omega) (by omega) (by simp; omega)).mono ?_; rintro e w1 ⟨rfl, f1, b1, k1⟩; have xb := HBX.out w1 k1; have HF1 := hideIt f1; have HB1 := hideIt (((Below.refl _ _).alloc hBw _).trans b1); have HK1 := hideIt ((Beside.alloc b w _).trans k1); clear f1 b1 k1)
      go_loopw [10, 58] (fun _ i wr => ∃ k : Nat, k ≤ M ∧ i = .int .i64 k ∧ FB 68 B b [] (l ++ (packC 144 220 M ++ packL (packT f) false [] kids k)) wr ∧ Below B w wr ∧ Beside b w wr) (fun _ i _ => M - (intOf i).toNat)
      case atStart => exact ⟨0, Nat.zero_le _, rfl, by rw [packL, List.append_nil]; exact HF1.out, HB1.out, HK1.out⟩
      case round =>
        obtain ⟨k, hk, rfl, hf, hb, hks⟩ := hrel
        have HF := hideIt hf
        have HB := hideIt hb
        have HK := hideIt hks
        have zr := hb.size
        clear hf hb hks
        by_cases hlt : k < M
        · have hlt' : (k : Int) < (M : Int) := by omega
          obtain ⟨bi, rfl, hbi, hc⟩ := HX.out (by omega)
          obtain ⟨tt, xx, hck, htr⟩ := hc k hlt
          have ck := (below_cell HB.out hbi).trans hck
          have HIH := hideIt (IH.out (kidT kids k) (.iface tt xx) _ wr HF.out (TreeAt.keep (fun c hc2 => HB.out.block c hc2) (Nat.le_refl _) htr) (HGK.out k hlt) (by omega) (by have := HLM.out (k + 1) (by omega); rw [packL, if_neg (by decide), List.append_nil, ← List.append_assoc, ← List.append_assoc] at this; rw [← List.append_assoc]; exact this))
          clear hc hck htr
          go_wp2_with fail
          refine HIH.out.mono ?_
          rintro e w2 ⟨rfl, f2, b2, k2⟩
          have HF2 : Hid (FB 68 B b [] (l ++ (packC 144 220 M ++ packL (packT f) false [] kids (k + 1))) w2) := by
            rw [Hid, packL, if_neg (by decide), List.append_nil, ← List.append_assoc (packC 144 220 M), ← List.append_assoc l]; exact f2
          have HB2 := hideIt (HB.out.trans b2)
          have HK2 := hideIt (HK.out.trans k2)
          clear f2 b2 k2
          go_wp2_with fail
          exact ⟨⟨k + 1, by omega, by go_num, HF2.out, HB2.out, HK2.out⟩, by simp [intOf]; omega⟩
        · obtain rfl : k = M := by omega
          go_wp2_with fail
          go_end0
          exact ⟨rfl, HF.out, HB.out, HK.out⟩
    · have HE := hideIt (HLF.out.2.2.2.2.2 rfl)
      rw [HE.out] at hlen ⊢
      obtain ⟨hm0, ai, ci, rfl, hx⟩ := hi
      have HX := hideIt hx
      obtain ⟨_, _, aK, cK, rfl, hkc⟩ := hs
      have HKC := hideIt hkc
      obtain ⟨q1, q2⟩ := g6 rfl
      obtain ⟨M, hM⟩ : ∃ M, kids.length = M := ⟨_, rfl⟩
      rw [hM] at hlen HX g80 gk q1 ⊢
      rw [q1] at HKC q2 ⊢
      have HGK := hideIt gk
      have HMM := hideIt hM
      have HLM : Hid (∀ k, k ≤ M → (l ++ (packC 128 222 M ++ packL (packT f) true keys kids k)).length ≤ 100000000) := fun k hk => by
        have h2 := packL_mono (packT f) true keys kids hk
        simp only [List.length_append] at hlen ⊢
        omega
      have hl2 : l.length ≤ 100000000 := by simp only [List.length_append] at hlen; omega
      have hbl := HFB.out.lt
      clear hx gk hM hlen hkc q1 g6
      have t1 := tw_map_null
      have t2 := tw_map_bool
      have t3 := tw_map_int
      have t4 := tw_map_text
      have t5 := tw_map_list
      have t6 := tw_map_map
      have HBX : Hid (∀ w1, Beside b (w.alloc (.cells #[.slice aK M cK, .slice ai M ci] 116)) w1 → w1.cell? ⟨w.heap.size, 0, none⟩ = some (.slice aK M cK) ∧ w1.cell? ⟨w.heap.size, 1, none⟩ = some (.slice ai M ci)) := fun w1 k1 => by
        have hh : (w.alloc (.cells #[.slice aK M cK, .slice ai M ci] 116)).heap[w.heap.size]? = some (.cells #[.slice aK M cK, .slice ai M ci] 116 (0, 0)) := heap_alloc_new w _
        have := k1.2 w.heap.size (by simp) (by omega) (fun cs z e => by rw [hh] at e; injection e with e; injection e with _ e2; revert e2; decide)
        exact ⟨cellAt (this.trans hh) rfl, cellAt (this.trans hh) rfl⟩
      obtain ⟨W1, hW1⟩ : ∃ W1, w.alloc (.cells #[.slice aK M cK, .slice ai M ci] 116) = W1 := ⟨_, rfl⟩
      have HW1 := hideIt hW1
      have HFW : Hid (FB 68 B b [] l W1) := by rw [Hid, ← hW1]; exact HFB.out.alloc _
      have HBW1 : Hid (Below B w W1) := by rw [Hid, ← hW1]; exact (Below.refl _ _).alloc hBw _
      have HKW1 : Hid (Beside b w W1) := by rw [Hid, ← hW1]; exact Beside.alloc _ _ _
      rw [hW1] at HBX
      clear hW1
      go_enter Tryz.func39, Tryz.ntmps39
      go_wp2_with fail
      rw [HW1.out]
      refine (writeCount_any hT HFW.out 128 222 M (by decide) (by omega) (by omega) (by have := HBW1.out.size; omega)).mono ?_
      rintro e w1 ⟨rfl, f1, b1, k1⟩
      have xb := (HBX.out w1 k1).2
      have HF1 := hideIt f1
      have HB1 := hideIt (HBW1.out.trans b1)
      have HK1 := hideIt k1
      clear f1 b1 k1
      go_wp2_with fail
      go_loopw [12, 13, 77] (fun _ _ i wr => ∃ k : Nat, k ≤ M ∧ i = .int .i64 k ∧ FB 68 B b [] (l ++ (packC 128 222 M ++ packL (packT f) true keys kids k)) wr ∧ Below B w wr ∧ Beside b W1 wr) (fun _ _ i _ => M - (intOf i).toNat)
      case atStart => exact ⟨0, Nat.zero_le _, rfl, by rw [packL, List.append_nil]; exact HF1.out, HB1.out, HK1.out⟩
      case round =>
        obtain ⟨k, hk, rfl, hf, hb, hks⟩ := hrel
        have HF := hideIt hf
        have HB := hideIt hb
        have HK := hideIt hks
        have zr := hb.size
        have y0 := (HBX.out wr hks).1
        clear hf hb hks xb
        by_cases hlt : k < M
        · have hlt' : (k : Int) < (M : Int) := by omega
          obtain ⟨bi, rfl, hbi, hc⟩ := HX.out (by omega)
          obtain ⟨tt, xx, hck, htr⟩ := hc k hlt
          have ck := (below_cell HB.out hbi).trans hck
          obtain ⟨bk, ok, rfl, hbk, hkk⟩ := HKC.out (by omega)
          have kk := (below_cell HB.out hbk).trans (hkk k hlt)
          have HTR := hideIt htr
          have hky := q2 k hlt
          obtain ⟨ky, hk9⟩ : ∃ ky, keyAt keys k = ky := ⟨_, rfl⟩
          have HKY := hideIt hk9
          rw [hk9] at kk hky
          have hlm := HLM.out (k + 1) (by omega)
          have hlm0 := HLM.out k (by omega)
          have HLM1 : Hid ((l ++ (packC 128 222 M ++ packL (packT f) true keys kids k) ++ packW ky ++ packT f (kidT kids k)).length ≤ 100000000) := by
            rw [packL, if_pos rfl, hk9] at hlm
            simp only [Hid, List.length_append] at hlm ⊢
            omega
          clear hc hck htr hkk hk9 hlm
          go_wp2_with (go_at_call 79; refine (writeText_any hT HF.out ky (by omega) hlm0 (by omega)).mono ?_; rintro e w2 ⟨rfl, f2, b2, k2⟩; have HF2 := hideIt f2; have HB2 := hideIt (HB.out.trans b2); have HK2 := hideIt (HK.out.trans k2); have z2 := (HB.out.trans b2).size; clear f2 b2 k2)
          refine (IH.out (kidT kids k) (.iface tt xx) _ w2 HF2.out (TreeAt.keep (fun c hc2 => HB2.out.block c hc2) (Nat.le_refl _) HTR.out) (HGK.out k hlt) (by omega) HLM1.out).mono ?_
          rintro e w3 ⟨rfl, f3, b3, k3⟩
          have HF3 : Hid (FB 68 B b [] (l ++ (packC 128 222 M ++ packL (packT f) true keys kids (k + 1))) w3) := by
            rw [Hid, packL, if_pos rfl, HKY.out, ← List.append_assoc (packC 128 222 M), ← List.append_assoc l, ← List.append_assoc (packC 128 222 M), ← List.append_assoc l]; exact f3
          have HB3 := hideIt (HB2.out.trans b3)
          have HK3 := hideIt (HK2.out.trans k3)
          clear f3 b3 k3
          go_wp2_with fail
          exact ⟨⟨k + 1, by omega, by go_num, HF3.out, HB3.out, HK3.out⟩, by simp [intOf]; omega⟩
        · obtain rfl : k = M := by omega
          go_wp2_with fail
          go_end0
          exact ⟨rfl, HF.out, HB.out, HKW1.out.trans HK.out⟩
end Go.Proofs.YtokhindolimchaaGreat
