/-
  The program's headOf: a head in an array of nine bytes.
-/
import Derived.Test.YtnnofahlmlikcaaCbP
import Derived.Test.YtnnofahlmlikcaaIPk
import Derived.Test.YtnnofahlmlikcaaIHigh
import Derived.Laws.ResultCell
import Derived.Laws.Rows
namespace Go.Proofs.Ytnnofahlmlikcaa
open Go.RowKit
set_option linter.unusedSimpArgs false
set_option linter.unusedVariables false

/-- Nine cells of bytes. -/
def nineC (c : Nat → Int) : Array Value := #[.int .u8 (c 0), .int .u8 (c 1), .int .u8 (c 2), .int .u8 (c 3), .int .u8 (c 4), .int .u8 (c 5), .int .u8 (c 6), .int .u8 (c 7), .int .u8 (c 8)]
theorem nineC_at (c : Nat → Int) {i : Nat} (h : i < 9) : (nineC c)[i]? = some (.int .u8 (c i)) := by
  have : i = 0 ∨ i = 1 ∨ i = 2 ∨ i = 3 ∨ i = 4 ∨ i = 5 ∨ i = 6 ∨ i = 7 ∨ i = 8 := by omega
  rcases this with rfl | rfl | rfl | rfl | rfl | rfl | rfl | rfl | rfl <;> rfl
/-- What headOf hands back. -/
def HeadIs (l : List UInt8) (e : Ending) : Prop := ∃ c : Nat → Int, e = .returned (.tuple #[.agg (nineC c), .int .i64 l.length]) ∧ ∀ j x, l[j]? = some x → c j = x.toNat
theorem info_nine : (Try.prog.info? 94).map (·.size) = some 9 := by kernel_rfl
theorem head_ret {tmps : Array Value} {w : World} {g : Nat} {c : Nat → Int} {z : Value} {fr : Nat × Nat} (h4 : tmps.getD 4 undef = .pointer (some ⟨g, 0, none⟩)) (h5 : tmps.getD 5 undef = z) (hg : w.heap[g]? = some (.cells (nineC c) 94 fr)) :
    (results Try.f51 tmps).run Try.prog w = .ok (.tuple #[.agg (nineC c), z]) w := by
  rw [results_cell_tmp rfl, h4, h5]
  have h1 := run_loadVar_row (P := Try.prog) w g 94 94 (nineC c) fr _ hg Try.underlying94 rfl info_nine
  simp only [asAddr, Sem.run_pure, Result.andThen]
  rw [h1]

set_option maxRecDepth 100000 in
set_option maxHeartbeats 1600000 in
theorem headOf_low (k : Nat) (n : Int) (w : World) (hk : k ≤ 7) (h0 : 0 ≤ n) (h1 : n < 24) : Calls Try.prog 51 #[.int .u8 k, .int .u64 n] w fun e w' => HeadIs (headC k n) e ∧ Below w.heap.size w w' := by
  have hk1 : 32 * (k : Int) ≤ 224 := by omega
  have HE := hideB (headC_low (k := k) h1)
  go_enter Try.func51, Try.ntmps51
  go_wp2_with fail
  refine bodyPost_ret (head_ret (c := fun i => if i = 0 then 32 * (k : Int) + n else 0) rfl rfl (heap_alloc_new w _)) rfl ⟨⟨_, by rw [HE.out]; rfl, ?_⟩, (Below.refl _ _).alloc (Nat.le_refl _) _⟩
  intro j x hx
  rw [HE.out] at hx
  have hj : j = 0 := by
    have := List.getElem?_eq_some_iff.1 hx
    obtain ⟨h, _⟩ := this
    simpa using h
  subst hj
  injection hx with hx
  subst hx
  rw [byI_int]
  simp
  omega

def nsh (n : Int) : Nat → Int
  | 0 => n
  | j + 1 => nsh n j / 256
theorem nsh_is (n : Int) (j : Nat) : nsh n j = n / 256 ^ j := by
  induction j with
  | zero => simp [nsh]
  | succ j ih => rw [nsh, ih, Int.pow_succ, Int.ediv_ediv_of_nonneg (Int.le_of_lt (Int.pow_pos (by decide)))]
theorem nsh_in {n : Int} (h0 : 0 ≤ n) (h1 : n ≤ 18446744073709551615) (j : Nat) : 0 ≤ nsh n j ∧ nsh n j ≤ 18446744073709551615 := by
  induction j with
  | zero => exact ⟨h0, h1⟩
  | succ j ih => rw [nsh]; omega
/-- The cells when 'j' bytes of 'W' have been put. -/
def cellH (c0 n : Int) (W j : Nat) (i : Nat) : Int := if i = 0 then c0 else if W - j < i ∧ i ≤ W then nsh n (W - i) % 256 else 0

theorem nine_bytes {k : Nat} {n : Int} {st : Nat} {c0 : Int} (h24 : ¬ n < 24) (hs : stepI n = st) (hc0 : c0 = 32 * k + 24 + st) (hk : k ≤ 6) (hst : st ≤ 3) : ∀ j x, (headC k n)[j]? = some x → cellH c0 n (2 ^ st) (2 ^ st) j = x.toNat := by
  intro j x hx
  rw [headC_big h24 hs rfl] at hx
  cases j with
  | zero =>
    simp at hx
    subst hx
    rw [byI_int]
    unfold cellH
    simp
    omega
  | succ j =>
    rw [List.getElem?_cons_succ] at hx
    obtain ⟨hj, e⟩ := List.getElem?_eq_some_iff.1 hx
    rw [bigB_len] at hj
    have hd := bigB_drop n (2 ^ st) (2 ^ st - j) (by omega)
    rw [show 2 ^ st - (2 ^ st - j) = j by omega] at hd
    have h2 : (bigB n (2 ^ st)).drop j = (bigB n (2 ^ st))[j]'(by rw [bigB_len]; exact hj) :: (bigB n (2 ^ st)).drop (j + 1) := List.drop_eq_getElem_cons _
    rw [hd, show 2 ^ st - j = (2 ^ st - (j + 1)) + 1 by omega, bigB, e] at h2
    have h3 := (List.cons.inj h2).1
    unfold cellH
    rw [if_neg (by omega), if_pos (by omega), ← h3, byI_int, nsh_is]

set_option maxRecDepth 100000 in
set_option maxHeartbeats 3200000 in
theorem headOf_big (k : Nat) (n : Int) (w : World) (hk : k ≤ 6) (h24 : 24 ≤ n) (h1 : n ≤ 18446744073709551615) (st : Nat) (hs : stepI n = st) : Calls Try.prog 51 #[.int .u8 k, .int .u64 n] w fun e w' => HeadIs (headC k n) e ∧ Below w.heap.size w w' := by
  have hst := stepI_le n
  have HS := hideB (stepFor_any n · (by omega) h1)
  rw [hs] at hst HS
  have hk1 : 32 * (k : Int) ≤ 192 := by omega
  have h24' : ¬ n < 24 := by omega
  have HN := hideB (nine_bytes (k := k) (n := n) (c0 := 32 * k + 24 + st) h24' hs rfl hk hst)
  have HL := hideB (headC_big (k := k) h24' hs rfl)
  clear hs
  have hst4 : st = 0 ∨ st = 1 ∨ st = 2 ∨ st = 3 := by omega
  have HR := hideB (fun j => nsh_in (show 0 ≤ n by omega) h1 j)
  rcases hst4 with rfl | rfl | rfl | rfl
  · go_enter Try.func51, Try.ntmps51
    go_wp2_with (go_at_call 59; refine (HS.out _).mono ?_; rintro e w9 ⟨rfl, h9⟩; subst w9)
    go_loopw [1, 9] (fun v1 v9 wr => ∃ j : Nat, j ≤ 1 ∧ v1 = .int .u64 (nsh n j) ∧ v9 = .int .i64 ((1 - j : Nat) : Int) ∧ wr = (w.alloc (.cells #[.int .u8 0, .int .u8 0, .int .u8 0, .int .u8 0, .int .u8 0, .int .u8 0, .int .u8 0, .int .u8 0, .int .u8 0] 94)).alloc (.cells (nineC (cellH (32 * (k : Int) + 24) n 1 j)) 94)) (fun _ v9 _ => (intOf v9).toNat)
    case atStart => exact ⟨0, by omega, rfl, rfl, rfl⟩
    case round =>
      obtain ⟨j, hj, rfl, rfl, rfl⟩ := hrel
      have hm := HR.out j
      have hj4 : j = 0 ∨ j = 1 := by omega
      obtain ⟨m, hmm⟩ : ∃ m, nsh n j = m := ⟨_, rfl⟩
      have HMM := hideB hmm
      rw [hmm] at hm ⊢
      clear hmm
      rcases hj4 with rfl | rfl
      · simp only [nineC, cellH]
        go_wp2_with fail
        refine ⟨⟨1, by omega, by rw [nsh, HMM.out], rfl, ?_⟩, by simp [intOf]⟩
        simp only [nineC, cellH, Nat.reduceSub, HMM.out, nsh]
        rfl
      · simp only [nineC, cellH]
        go_wp2_with fail
        refine bodyPost_ret (head_ret (c := cellH (32 * (k : Int) + 24) n 1 1) rfl rfl ((Below.heap_alloc _ _ _ (by simp)).trans (heap_alloc_new w _))) rfl ⟨⟨_, by rw [HL.out, List.length_cons, bigB_len]; rfl, by have h := HN.out; simpa using h⟩, ((Below.refl _ _).alloc (Nat.le_refl _) _).alloc (by simp) _⟩
  · go_enter Try.func51, Try.ntmps51
    go_wp2_with (go_at_call 59; refine (HS.out _).mono ?_; rintro e w9 ⟨rfl, h9⟩; subst w9)
    go_loopw [1, 9] (fun v1 v9 wr => ∃ j : Nat, j ≤ 2 ∧ v1 = .int .u64 (nsh n j) ∧ v9 = .int .i64 ((2 - j : Nat) : Int) ∧ wr = (w.alloc (.cells #[.int .u8 0, .int .u8 0, .int .u8 0, .int .u8 0, .int .u8 0, .int .u8 0, .int .u8 0, .int .u8 0, .int .u8 0] 94)).alloc (.cells (nineC (cellH (32 * (k : Int) + 24 + 1) n 2 j)) 94)) (fun _ v9 _ => (intOf v9).toNat)
    case atStart => exact ⟨0, by omega, rfl, rfl, rfl⟩
    case round =>
      obtain ⟨j, hj, rfl, rfl, rfl⟩ := hrel
      have hm := HR.out j
      have hj4 : j = 0 ∨ j = 1 ∨ j = 2 := by omega
      obtain ⟨m, hmm⟩ : ∃ m, nsh n j = m := ⟨_, rfl⟩
      have HMM := hideB hmm
      rw [hmm] at hm ⊢
      clear hmm
      rcases hj4 with rfl | rfl | rfl
      · simp only [nineC, cellH]
        go_wp2_with fail
        refine ⟨⟨1, by omega, by rw [nsh, HMM.out], rfl, ?_⟩, by simp [intOf]⟩
        simp only [nineC, cellH, Nat.reduceSub, HMM.out, nsh]
        rfl
      · simp only [nineC, cellH]
        go_wp2_with fail
        refine ⟨⟨2, by omega, by rw [nsh, HMM.out], rfl, ?_⟩, by simp [intOf]⟩
        simp only [nineC, cellH, Nat.reduceSub, HMM.out, nsh]
        rfl
      · simp only [nineC, cellH]
        go_wp2_with fail
        refine bodyPost_ret (head_ret (c := cellH (32 * (k : Int) + 24 + 1) n 2 2) rfl rfl ((Below.heap_alloc _ _ _ (by simp)).trans (heap_alloc_new w _))) rfl ⟨⟨_, by rw [HL.out, List.length_cons, bigB_len]; rfl, by have h := HN.out; simpa using h⟩, ((Below.refl _ _).alloc (Nat.le_refl _) _).alloc (by simp) _⟩
  · go_enter Try.func51, Try.ntmps51
    go_wp2_with (go_at_call 59; refine (HS.out _).mono ?_; rintro e w9 ⟨rfl, h9⟩; subst w9)
    go_loopw [1, 9] (fun v1 v9 wr => ∃ j : Nat, j ≤ 4 ∧ v1 = .int .u64 (nsh n j) ∧ v9 = .int .i64 ((4 - j : Nat) : Int) ∧ wr = (w.alloc (.cells #[.int .u8 0, .int .u8 0, .int .u8 0, .int .u8 0, .int .u8 0, .int .u8 0, .int .u8 0, .int .u8 0, .int .u8 0] 94)).alloc (.cells (nineC (cellH (32 * (k : Int) + 24 + 2) n 4 j)) 94)) (fun _ v9 _ => (intOf v9).toNat)
    case atStart => exact ⟨0, by omega, rfl, rfl, rfl⟩
    case round =>
      obtain ⟨j, hj, rfl, rfl, rfl⟩ := hrel
      have hm := HR.out j
      have hj4 : j = 0 ∨ j = 1 ∨ j = 2 ∨ j = 3 ∨ j = 4 := by omega
      obtain ⟨m, hmm⟩ : ∃ m, nsh n j = m := ⟨_, rfl⟩
      have HMM := hideB hmm
      rw [hmm] at hm ⊢
      clear hmm
      rcases hj4 with rfl | rfl | rfl | rfl | rfl
      · simp only [nineC, cellH]
        go_wp2_with fail
        refine ⟨⟨1, by omega, by rw [nsh, HMM.out], rfl, ?_⟩, by simp [intOf]⟩
        simp only [nineC, cellH, Nat.reduceSub, HMM.out, nsh]
        rfl
      · simp only [nineC, cellH]
        go_wp2_with fail
        refine ⟨⟨2, by omega, by rw [nsh, HMM.out], rfl, ?_⟩, by simp [intOf]⟩
        simp only [nineC, cellH, Nat.reduceSub, HMM.out, nsh]
        rfl
      · simp only [nineC, cellH]
        go_wp2_with fail
        refine ⟨⟨3, by omega, by rw [nsh, HMM.out], rfl, ?_⟩, by simp [intOf]⟩
        simp only [nineC, cellH, Nat.reduceSub, HMM.out, nsh]
        rfl
      · simp only [nineC, cellH]
        go_wp2_with fail
        refine ⟨⟨4, by omega, by rw [nsh, HMM.out], rfl, ?_⟩, by simp [intOf]⟩
        simp only [nineC, cellH, Nat.reduceSub, HMM.out, nsh]
        rfl
      · simp only [nineC, cellH]
        go_wp2_with fail
        refine bodyPost_ret (head_ret (c := cellH (32 * (k : Int) + 24 + 2) n 4 4) rfl rfl ((Below.heap_alloc _ _ _ (by simp)).trans (heap_alloc_new w _))) rfl ⟨⟨_, by rw [HL.out, List.length_cons, bigB_len]; rfl, by have h := HN.out; simpa using h⟩, ((Below.refl _ _).alloc (Nat.le_refl _) _).alloc (by simp) _⟩
  · go_enter Try.func51, Try.ntmps51
    go_wp2_with (go_at_call 59; refine (HS.out _).mono ?_; rintro e w9 ⟨rfl, h9⟩; subst w9)
    go_loopw [1, 9] (fun v1 v9 wr => ∃ j : Nat, j ≤ 8 ∧ v1 = .int .u64 (nsh n j) ∧ v9 = .int .i64 ((8 - j : Nat) : Int) ∧ wr = (w.alloc (.cells #[.int .u8 0, .int .u8 0, .int .u8 0, .int .u8 0, .int .u8 0, .int .u8 0, .int .u8 0, .int .u8 0, .int .u8 0] 94)).alloc (.cells (nineC (cellH (32 * (k : Int) + 24 + 3) n 8 j)) 94)) (fun _ v9 _ => (intOf v9).toNat)
    case atStart => exact ⟨0, by omega, rfl, rfl, rfl⟩
    case round =>
      obtain ⟨j, hj, rfl, rfl, rfl⟩ := hrel
      have hm := HR.out j
      have hj4 : j = 0 ∨ j = 1 ∨ j = 2 ∨ j = 3 ∨ j = 4 ∨ j = 5 ∨ j = 6 ∨ j = 7 ∨ j = 8 := by omega
      obtain ⟨m, hmm⟩ : ∃ m, nsh n j = m := ⟨_, rfl⟩
      have HMM := hideB hmm
      rw [hmm] at hm ⊢
      clear hmm
      rcases hj4 with rfl | rfl | rfl | rfl | rfl | rfl | rfl | rfl | rfl
      · simp only [nineC, cellH]
        go_wp2_with fail
        refine ⟨⟨1, by omega, by rw [nsh, HMM.out], rfl, ?_⟩, by simp [intOf]⟩
        simp only [nineC, cellH, Nat.reduceSub, HMM.out, nsh]
        rfl
      · simp only [nineC, cellH]
        go_wp2_with fail
        refine ⟨⟨2, by omega, by rw [nsh, HMM.out], rfl, ?_⟩, by simp [intOf]⟩
        simp only [nineC, cellH, Nat.reduceSub, HMM.out, nsh]
        rfl
      · simp only [nineC, cellH]
        go_wp2_with fail
        refine ⟨⟨3, by omega, by rw [nsh, HMM.out], rfl, ?_⟩, by simp [intOf]⟩
        simp only [nineC, cellH, Nat.reduceSub, HMM.out, nsh]
        rfl
      · simp only [nineC, cellH]
        go_wp2_with fail
        refine ⟨⟨4, by omega, by rw [nsh, HMM.out], rfl, ?_⟩, by simp [intOf]⟩
        simp only [nineC, cellH, Nat.reduceSub, HMM.out, nsh]
        rfl
      · simp only [nineC, cellH]
        go_wp2_with fail
        refine ⟨⟨5, by omega, by rw [nsh, HMM.out], rfl, ?_⟩, by simp [intOf]⟩
        simp only [nineC, cellH, Nat.reduceSub, HMM.out, nsh]
        rfl
      · simp only [nineC, cellH]
        go_wp2_with fail
        refine ⟨⟨6, by omega, by rw [nsh, HMM.out], rfl, ?_⟩, by simp [intOf]⟩
        simp only [nineC, cellH, Nat.reduceSub, HMM.out, nsh]
        rfl
      · simp only [nineC, cellH]
        go_wp2_with fail
        refine ⟨⟨7, by omega, by rw [nsh, HMM.out], rfl, ?_⟩, by simp [intOf]⟩
        simp only [nineC, cellH, Nat.reduceSub, HMM.out, nsh]
        rfl
      · simp only [nineC, cellH]
        go_wp2_with fail
        refine ⟨⟨8, by omega, by rw [nsh, HMM.out], rfl, ?_⟩, by simp [intOf]⟩
        simp only [nineC, cellH, Nat.reduceSub, HMM.out, nsh]
        rfl
      · simp only [nineC, cellH]
        go_wp2_with fail
        refine bodyPost_ret (head_ret (c := cellH (32 * (k : Int) + 24 + 3) n 8 8) rfl rfl ((Below.heap_alloc _ _ _ (by simp)).trans (heap_alloc_new w _))) rfl ⟨⟨_, by rw [HL.out, List.length_cons, bigB_len]; rfl, by have h := HN.out; simpa using h⟩, ((Below.refl _ _).alloc (Nat.le_refl _) _).alloc (by simp) _⟩

theorem headOf_any (k : Nat) (n : Int) (w : World) (hk : k ≤ 6) (h0 : 0 ≤ n) (h1 : n ≤ 18446744073709551615) : Calls Try.prog 51 #[.int .u8 k, .int .u64 n] w fun e w' => HeadIs (headC k n) e ∧ Below w.heap.size w w' := by
  by_cases h : n < 24
  · exact headOf_low k n w (by omega) h0 h
  · exact headOf_big k n w hk (by omega) h1 _ rfl
end Go.Proofs.Ytnnofahlmlikcaa
