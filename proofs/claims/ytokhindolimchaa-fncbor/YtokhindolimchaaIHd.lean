/-
  A builder in a struct, kept while other memory is made.
-/
import Derived.Test.YtokhindolimchaaFBld
import Derived.RangeFuncOwn
import Derived.Test.YtokhindolimchaaIHigh
import Derived.Test.YtokhindolimchaaStepT
import Derived.Laws.ResultCell
import Derived.Laws.Rows
namespace Go.Proofs.Ytokhindolimchaa
open Go.RowKit Go.Shelf
set_option linter.unusedSimpArgs false
set_option linter.unusedVariables false

theorem FB.grown {T : TypeId} {B b : Nat} {rest : List Value} {l : List UInt8} {X Y : World} {row : Option Nat} (h : FB T B b rest l X) (hg : X.grownBy Y row) (hr : ∀ r, row = some r → ∃ o : Obj, X.heap[r]? = some o ∧ o.isCells = false) : FB T B b rest l Y := by
  obtain ⟨hB, p, v, hp, hb, hrow, hne⟩ := h
  refine ⟨hB, p, v, hp, (grownBy_keeps_cells hg hr hb rfl).trans hb, ⟨hrow.1, ?_⟩, hne⟩
  rcases hrow.2 with h0 | ⟨g, cap, cur, hv, h1, h2, h3⟩
  · exact .inl h0
  · exact .inr ⟨g, cap, cur, hv, h1, (grownBy_keeps_cells hg hr h2 rfl).trans h2, h3⟩
theorem FB.lt {T : TypeId} {B b : Nat} {rest : List Value} {l : List UInt8} {w : World} (h : FB T B b rest l w) : b < w.heap.size := by
  obtain ⟨hB, p, v, hp, hb, _⟩ := h
  exact lt_heap hb
theorem FB.drew {T : TypeId} {B b : Nat} {rest : List Value} {l : List UInt8} {X : World} (h : FB T B b rest l X) : FB T B b rest l X.drew := h
theorem FB.alloc {T : TypeId} {B b : Nat} {rest : List Value} {l : List UInt8} {X : World} (h : FB T B b rest l X) (o : Obj) : FB T B b rest l (X.alloc o) := h.grown (World.grownBy_alloc X o none) (fun r e => by cases e)

theorem FB.keep {T : TypeId} {B b : Nat} {rest : List Value} {l : List UInt8} {X Y : World} (h : FB T B b rest l X) (hk : Below X.heap.size X Y) : FB T B b rest l Y := by
  obtain ⟨hB, p, v, hp, hb, hrow, hne⟩ := h
  refine ⟨hB, p, v, hp, (hk.block b (lt_heap hb)).trans hb, ⟨hrow.1, ?_⟩, hne⟩
  rcases hrow.2 with h0 | ⟨g, cap, cur, hv, h1, h2, h3⟩
  · exact .inl h0
  · exact .inr ⟨g, cap, cur, hv, h1, (hk.block g (lt_heap h2)).trans h2, h3⟩
theorem call_wbyte (u v : Value) : ∀ w, (callFunc 45 #[u, v]).run Try.prog w = .ok (.enter 45 #[u, v]) w := fun w => by kernel_rfl
end Go.Proofs.Ytokhindolimchaa

/-
  The program's writeBytes: a number's bytes, by a range over a function.
-/
namespace Go.Proofs.Ytokhindolimchaa
open Go.RowKit Go.Shelf
set_option linter.unusedSimpArgs false
set_option linter.unusedVariables false

attribute [local go_sem] Oper.semAt_some

theorem Beside.others {T : TypeId} {B b : Nat} {rest : List Value} {l : List UInt8} {w w' : World} (h : Beside b w w') (hf : FB T B b rest l w) : KeepsOthers w w' := by
  obtain ⟨hB, p, v, hp, hb, _⟩ := hf
  refine ⟨h.1, fun k o hk ho => ?_⟩
  rw [h.2 k (lt_heap hk) (fun e => by subst e; rw [hb] at hk; cases hk; cases ho) (fun cs z e => by rw [hk] at e; cases e; cases ho)]
  exact hk
theorem Beside.box {b c : Nat} {w w' : World} {t : TypeId} {v : Value} (h : Beside b w w') (hc : Boxed w c t v) (hne : c ≠ b) (ht : t ≠ 5) : Boxed w' c t v := by
  have hh : w.heap[c]? = some (.cells #[v] t (0, 0)) := hc
  have := h.2 c (lt_heap hh) hne (fun cs z e => by rw [hh] at e; injection e with e; injection e with _ e2; exact ht e2)
  exact this.trans hh
theorem Beside.far {b : Nat} {w X Y : World} {row : Option Nat} (h : Beside b w X) (hg : X.grownBy Y row) (hr : ∀ r, row = some r → w.heap.size ≤ r) : Beside b w Y :=
  ⟨Nat.le_trans h.1 hg.size, fun c h1 h2 h3 => (hg.block c (Nat.lt_of_lt_of_le h1 h.1) (fun e => by have := hr c e.symm; omega)).trans (h.2 c h1 h2 h3)⟩
end Go.Proofs.Ytokhindolimchaa

/-
  The specification's l4Int and l4Word: numbers and texts.
-/
namespace Go.Proofs.Ytokhindolimchaa
open Go.RowKit Go.WideShapes
set_option linter.unusedSimpArgs false
set_option linter.unusedVariables false

theorem one_byteT (x : UInt8) (w : World) : (convert 22 9 (.slice (some ⟨w.heap.size, 0, none⟩) 1 1)).run Try.prog (w.alloc (.cells #[.int .u8 (x.toNat : Int)] 5)) = .ok (.string (txt [x])) (w.alloc (.cells #[.int .u8 (x.toNat : Int)] 5)) := by
  have := run_convert_bytes_back (P := Try.prog) (w.alloc (.cells #[.int .u8 (x.toNat : Int)] 5)) 22 9 5 ⟨w.heap.size, 0, none⟩ 1 [x] Try.underlying22 Try.underlying5 Try.underlying9 (fun j hj => by
    obtain rfl : j = 0 := by simpa using hj
    rw [add_plain, Nat.zero_add]
    simp)
  exact this
theorem one_int {n : Int} (h0 : 0 ≤ n) (h1 : n < 256) (w : World) : (convert 22 9 (.slice (some ⟨w.heap.size, 0, none⟩) 1 1)).run Try.prog (w.alloc (.cells #[.int .u8 n] 5)) = .ok (.string (txt [byI n])) (w.alloc (.cells #[.int .u8 n] 5)) := by
  have := one_byteT (byI n) w
  rw [byI_int, Int.emod_eq_of_lt h0 h1] at this
  exact this
theorem one_int1 {n : Int} (h0 : 0 ≤ n) (h1 : n < 256) (w : World) (A : Obj) : (convert 22 9 (.slice (some ⟨w.heap.size + 1, 0, none⟩) 1 1)).run Try.prog ((w.alloc A).alloc (.cells #[.int .u8 n] 5)) = .ok (.string (txt [byI n])) ((w.alloc A).alloc (.cells #[.int .u8 n] 5)) := by
  have := one_int h0 h1 (w.alloc A)
  rw [World.size_alloc] at this
  exact this
theorem txt_pre (x : UInt8) (l : List UInt8) : (⟨#[x]⟩ : ByteArray) ++ txt l = txt (x :: l) := txt_app [x] l
theorem packI_alone {n : Int} (h : -32 ≤ n ∧ n ≤ 127) : packI n = [byI n] := by unfold packI; rw [if_pos h]
theorem packI_up {n : Int} (h : 127 < n) {k : Nat} (hk : stepI n = k) {c : UInt8} (hc : c = byI (204 + k)) : packI n = c :: bigB n (2 ^ k) := by
  unfold packI; rw [if_neg (by omega), if_pos (by omega), hk, hc]
theorem packI_dn {n : Int} (h : n < -32) {k : Nat} (hk : stepI (2 * (-1 - n)) = k) {c : UInt8} (hc : c = byI (208 + k)) : packI n = c :: bigB n (2 ^ k) := by
  unfold packI; rw [if_neg (by omega), if_neg (by omega), hk, hc]
theorem step0 {m : Int} (h : m < 256) : stepI m = 0 := by unfold stepI; rw [if_pos h]
theorem step1 {m : Int} (h0 : ¬ m < 256) (h : m < 65536) : stepI m = 1 := by unfold stepI; rw [if_neg h0, if_pos h]
theorem step2 {m : Int} (h0 : ¬ m < 65536) (h : m < 4294967296) : stepI m = 2 := by unfold stepI; rw [if_neg (by omega), if_neg h0, if_pos h]
theorem step3 {m : Int} (h : ¬ m < 4294967296) : stepI m = 3 := by unfold stepI; rw [if_neg (by omega), if_neg (by omega), if_neg h]

end Go.Proofs.Ytokhindolimchaa

/-
  The program's packWriter: numbers, texts and counts.
-/
namespace Go.Proofs.Ytokhindolimchaa
open Go.RowKit
set_option linter.unusedSimpArgs false
set_option linter.unusedVariables false

set_option maxRecDepth 100000 in
set_option maxHeartbeats 1600000 in
theorem stepFor_any (n : Int) (w : World) (h0 : 0 ≤ n) (h1 : n ≤ 18446744073709551615) : Calls Try.prog 105 #[.int .u64 n] w fun e w' => e = .returned (.int .i64 (stepI n)) ∧ w' = w := by
  go_enter Try.func105, Try.ntmps105
  go_wp2_with fail
  go_loop [3] (fun s => ∃ k : Nat, k ≤ stepI n ∧ s = .int .i64 k) (fun s => 3 - (intOf s).toNat)
  case atStart => exact ⟨0, Nat.zero_le _, rfl⟩
  case round =>
    obtain ⟨k, hk, rfl⟩ := hrel
    have h3 := stepI_le n
    have hk3 : k = 0 ∨ k = 1 ∨ k = 2 ∨ k = 3 := by omega
    rcases hk3 with rfl | rfl | rfl | rfl
    · by_cases a : n < 256
      · have HS := hideB (step0 a)
        have hd : n / 256 = 0 := by omega
        go_wp2_with fail
        go_ret
        exact ⟨by rw [HS.out]; rfl, rfl⟩
      · have hd : 0 < n / 256 := by omega
        have hs : 1 ≤ stepI n := by unfold stepI; rw [if_neg a]; split <;> (try split) <;> omega
        have HS := hideB hs
        clear hs
        go_wp2_with fail
        exact ⟨⟨1, HS.out, rfl⟩, by simp [intOf]⟩
    · have hn : ¬ n < 256 := fun a => by rw [step0 a] at hk; omega
      by_cases a : n < 65536
      · have HS := hideB (step1 hn a)
        have hd : n / 65536 = 0 := by omega
        go_wp2_with fail
        go_ret
        exact ⟨by rw [HS.out]; rfl, rfl⟩
      · have hd : 0 < n / 65536 := by omega
        have hs : 2 ≤ stepI n := by unfold stepI; rw [if_neg hn, if_neg a]; split <;> omega
        have HS := hideB hs
        clear hs
        go_wp2_with fail
        exact ⟨⟨2, HS.out, rfl⟩, by simp [intOf]⟩
    · have hn : ¬ n < 65536 := fun a => by
        by_cases a2 : n < 256
        · rw [step0 a2] at hk; omega
        · rw [step1 a2 a] at hk; omega
      by_cases a : n < 4294967296
      · have HS := hideB (step2 hn a)
        have hd : n / 4294967296 = 0 := by omega
        go_wp2_with fail
        go_ret
        exact ⟨by rw [HS.out]; rfl, rfl⟩
      · have hd : 0 < n / 4294967296 := by omega
        have HS := hideB (step3 a)
        go_wp2_with fail
        exact ⟨⟨3, by rw [HS.out]; exact Nat.le_refl _, rfl⟩, by simp [intOf]⟩
    · have HS := hideB (show stepI n = 3 by omega)
      have hd : n / 18446744073709551616 = 0 := by omega
      go_wp2_with fail
      go_ret
      exact ⟨by rw [HS.out]; rfl, rfl⟩

end Go.Proofs.Ytokhindolimchaa

/-
  The program's headOf: a head in an array of nine bytes.
-/
namespace Go.Proofs.Ytokhindolimchaa
open Go.RowKit
set_option linter.unusedSimpArgs false
set_option linter.unusedVariables false

/-- Nine cells of bytes. -/
def nineC (c : Nat → Int) : Array Value := #[.int .u8 (c 0), .int .u8 (c 1), .int .u8 (c 2), .int .u8 (c 3), .int .u8 (c 4), .int .u8 (c 5), .int .u8 (c 6), .int .u8 (c 7), .int .u8 (c 8)]
theorem nineC_at (c : Nat → Int) {i : Nat} (h : i < 9) : (nineC c)[i]? = some (.int .u8 (c i)) := by
  have : i = 0 ∨ i = 1 ∨ i = 2 ∨ i = 3 ∨ i = 4 ∨ i = 5 ∨ i = 6 ∨ i = 7 ∨ i = 8 := by omega
  rcases this with rfl | rfl | rfl | rfl | rfl | rfl | rfl | rfl | rfl <;> rfl
/-- What headOf hands back. -/
def HeadIs (l : List UInt8) (e : Ending) : Prop := ∃ c : Nat → Int, e = .returned (.tuple #[.agg (nineC c), .int .i64 l.length]) ∧ ∀ j x, l[j]? = some x → c j = x.toNat
theorem info_nine : (Try.prog.info? 132).map (·.size) = some 9 := by kernel_rfl
theorem head_ret {tmps : Array Value} {w : World} {g : Nat} {c : Nat → Int} {z : Value} {fr : Nat × Nat} (h4 : tmps.getD 4 undef = .pointer (some ⟨g, 0, none⟩)) (h5 : tmps.getD 5 undef = z) (hg : w.heap[g]? = some (.cells (nineC c) 132 fr)) :
    (results Try.f87 tmps).run Try.prog w = .ok (.tuple #[.agg (nineC c), z]) w := by
  rw [results_cell_tmp rfl, h4, h5]
  have h1 := run_loadVar_row (P := Try.prog) w g 132 132 (nineC c) fr _ hg Try.underlying132 rfl info_nine
  simp only [asAddr, Sem.run_pure, Result.andThen]
  rw [h1]

set_option maxRecDepth 100000 in
set_option maxHeartbeats 1600000 in
theorem headOf_low (k : Nat) (n : Int) (w : World) (hk : k ≤ 7) (h0 : 0 ≤ n) (h1 : n < 24) : Calls Try.prog 87 #[.int .u8 k, .int .u64 n] w fun e w' => HeadIs (headC k n) e ∧ Below w.heap.size w w' := by
  have hk1 : 32 * (k : Int) ≤ 224 := by omega
  have HE := hideB (headC_low (k := k) h1)
  go_enter Try.func87, Try.ntmps87
  go_wp2_with fail
  refine bodyPost_ret (head_ret (c := fun i => if i = 0 then 32 * (k : Int) + n else 0) rfl rfl (heap_alloc_new w _)) rfl ⟨⟨_, by rw [HE.out]; rfl, ?_⟩, (Below.refl _ _).alloc (Nat.le_refl _) _⟩
  intro j x hx
  rw [HE.out] at hx
  have hj : j = 0 := by
    have := List.getElem?_eq_some_iff.1 hx
    obtain ⟨h, _⟩ := this
    simpa using h
  subst hj
  injection hx with hx
  subst hx
  rw [byI_int]
  simp
  omega

def nsh (n : Int) : Nat → Int
  | 0 => n
  | j + 1 => nsh n j / 256
theorem nsh_is (n : Int) (j : Nat) : nsh n j = n / 256 ^ j := by
  induction j with
  | zero => simp [nsh]
  | succ j ih => rw [nsh, ih, Int.pow_succ, Int.ediv_ediv_of_nonneg (Int.le_of_lt (Int.pow_pos (by decide)))]
theorem nsh_in {n : Int} (h0 : 0 ≤ n) (h1 : n ≤ 18446744073709551615) (j : Nat) : 0 ≤ nsh n j ∧ nsh n j ≤ 18446744073709551615 := by
  induction j with
  | zero => exact ⟨h0, h1⟩
  | succ j ih => rw [nsh]; omega
/-- The cells when 'j' bytes of 'W' have been put. -/
def cellH (c0 n : Int) (W j : Nat) (i : Nat) : Int := if i = 0 then c0 else if W - j < i ∧ i ≤ W then nsh n (W - i) % 256 else 0

theorem nine_bytes {k : Nat} {n : Int} {st : Nat} {c0 : Int} (h24 : ¬ n < 24) (hs : stepI n = st) (hc0 : c0 = 32 * k + 24 + st) (hk : k ≤ 6) (hst : st ≤ 3) : ∀ j x, (headC k n)[j]? = some x → cellH c0 n (2 ^ st) (2 ^ st) j = x.toNat := by
  intro j x hx
  rw [headC_big h24 hs rfl] at hx
  cases j with
  | zero =>
    simp at hx
    subst hx
    rw [byI_int]
    unfold cellH
    simp
    omega
  | succ j =>
    rw [List.getElem?_cons_succ] at hx
    obtain ⟨hj, e⟩ := List.getElem?_eq_some_iff.1 hx
    rw [bigB_len] at hj
    have hd := bigB_drop n (2 ^ st) (2 ^ st - j) (by omega)
    rw [show 2 ^ st - (2 ^ st - j) = j by omega] at hd
    have h2 : (bigB n (2 ^ st)).drop j = (bigB n (2 ^ st))[j]'(by rw [bigB_len]; exact hj) :: (bigB n (2 ^ st)).drop (j + 1) := List.drop_eq_getElem_cons _
    rw [hd, show 2 ^ st - j = (2 ^ st - (j + 1)) + 1 by omega, bigB, e] at h2
    have h3 := (List.cons.inj h2).1
    unfold cellH
    rw [if_neg (by omega), if_pos (by omega), ← h3, byI_int, nsh_is]

set_option maxRecDepth 100000 in
set_option maxHeartbeats 3200000 in
theorem headOf_big (k : Nat) (n : Int) (w : World) (hk : k ≤ 6) (h24 : 24 ≤ n) (h1 : n ≤ 18446744073709551615) (st : Nat) (hs : stepI n = st) : Calls Try.prog 87 #[.int .u8 k, .int .u64 n] w fun e w' => HeadIs (headC k n) e ∧ Below w.heap.size w w' := by
  have hst := stepI_le n
  have HS := hideB (stepFor_any n · (by omega) h1)
  rw [hs] at hst HS
  have hk1 : 32 * (k : Int) ≤ 192 := by omega
  have h24' : ¬ n < 24 := by omega
  have HN := hideB (nine_bytes (k := k) (n := n) (c0 := 32 * k + 24 + st) h24' hs rfl hk hst)
  have HL := hideB (headC_big (k := k) h24' hs rfl)
  clear hs
  have hst4 : st = 0 ∨ st = 1 ∨ st = 2 ∨ st = 3 := by omega
  have HR := hideB (fun j => nsh_in (show 0 ≤ n by omega) h1 j)
  rcases hst4 with rfl | rfl | rfl | rfl
  · go_enter Try.func87, Try.ntmps87
    go_wp2_with (go_at_call 105; refine (HS.out _).mono ?_; rintro e w9 ⟨rfl, h9⟩; subst w9)
    go_loopw [1, 9] (fun v1 v9 wr => ∃ j : Nat, j ≤ 1 ∧ v1 = .int .u64 (nsh n j) ∧ v9 = .int .i64 ((1 - j : Nat) : Int) ∧ wr = (w.alloc (.cells #[.int .u8 0, .int .u8 0, .int .u8 0, .int .u8 0, .int .u8 0, .int .u8 0, .int .u8 0, .int .u8 0, .int .u8 0] 132)).alloc (.cells (nineC (cellH (32 * (k : Int) + 24) n 1 j)) 132)) (fun _ v9 _ => (intOf v9).toNat)
    case atStart => exact ⟨0, by omega, rfl, rfl, rfl⟩
    case round =>
      obtain ⟨j, hj, rfl, rfl, rfl⟩ := hrel
      have hm := HR.out j
      have hj4 : j = 0 ∨ j = 1 := by omega
      obtain ⟨m, hmm⟩ : ∃ m, nsh n j = m := ⟨_, rfl⟩
      have HMM := hideB hmm
      rw [hmm] at hm ⊢
      clear hmm
      rcases hj4 with rfl | rfl
      · simp only [nineC, cellH]
        go_wp2_with fail
        refine ⟨⟨1, by omega, by rw [nsh, HMM.out], rfl, ?_⟩, by simp [intOf]⟩
        simp only [nineC, cellH, Nat.reduceSub, HMM.out, nsh]
        rfl
      · simp only [nineC, cellH]
        go_wp2_with fail
        refine bodyPost_ret (head_ret (c := cellH (32 * (k : Int) + 24) n 1 1) rfl rfl ((Below.heap_alloc _ _ _ (by simp)).trans (heap_alloc_new w _))) rfl ⟨⟨_, by rw [HL.out, List.length_cons, bigB_len]; rfl, by have h := HN.out; simpa using h⟩, ((Below.refl _ _).alloc (Nat.le_refl _) _).alloc (by simp) _⟩
  · go_enter Try.func87, Try.ntmps87
    go_wp2_with (go_at_call 105; refine (HS.out _).mono ?_; rintro e w9 ⟨rfl, h9⟩; subst w9)
    go_loopw [1, 9] (fun v1 v9 wr => ∃ j : Nat, j ≤ 2 ∧ v1 = .int .u64 (nsh n j) ∧ v9 = .int .i64 ((2 - j : Nat) : Int) ∧ wr = (w.alloc (.cells #[.int .u8 0, .int .u8 0, .int .u8 0, .int .u8 0, .int .u8 0, .int .u8 0, .int .u8 0, .int .u8 0, .int .u8 0] 132)).alloc (.cells (nineC (cellH (32 * (k : Int) + 24 + 1) n 2 j)) 132)) (fun _ v9 _ => (intOf v9).toNat)
    case atStart => exact ⟨0, by omega, rfl, rfl, rfl⟩
    case round =>
      obtain ⟨j, hj, rfl, rfl, rfl⟩ := hrel
      have hm := HR.out j
      have hj4 : j = 0 ∨ j = 1 ∨ j = 2 := by omega
      obtain ⟨m, hmm⟩ : ∃ m, nsh n j = m := ⟨_, rfl⟩
      have HMM := hideB hmm
      rw [hmm] at hm ⊢
      clear hmm
      rcases hj4 with rfl | rfl | rfl
      · simp only [nineC, cellH]
        go_wp2_with fail
        refine ⟨⟨1, by omega, by rw [nsh, HMM.out], rfl, ?_⟩, by simp [intOf]⟩
        simp only [nineC, cellH, Nat.reduceSub, HMM.out, nsh]
        rfl
      · simp only [nineC, cellH]
        go_wp2_with fail
        refine ⟨⟨2, by omega, by rw [nsh, HMM.out], rfl, ?_⟩, by simp [intOf]⟩
        simp only [nineC, cellH, Nat.reduceSub, HMM.out, nsh]
        rfl
      · simp only [nineC, cellH]
        go_wp2_with fail
        refine bodyPost_ret (head_ret (c := cellH (32 * (k : Int) + 24 + 1) n 2 2) rfl rfl ((Below.heap_alloc _ _ _ (by simp)).trans (heap_alloc_new w _))) rfl ⟨⟨_, by rw [HL.out, List.length_cons, bigB_len]; rfl, by have h := HN.out; simpa using h⟩, ((Below.refl _ _).alloc (Nat.le_refl _) _).alloc (by simp) _⟩
  · go_enter Try.func87, Try.ntmps87
    go_wp2_with (go_at_call 105; refine (HS.out _).mono ?_; rintro e w9 ⟨rfl, h9⟩; subst w9)
    go_loopw [1, 9] (fun v1 v9 wr => ∃ j : Nat, j ≤ 4 ∧ v1 = .int .u64 (nsh n j) ∧ v9 = .int .i64 ((4 - j : Nat) : Int) ∧ wr = (w.alloc (.cells #[.int .u8 0, .int .u8 0, .int .u8 0, .int .u8 0, .int .u8 0, .int .u8 0, .int .u8 0, .int .u8 0, .int .u8 0] 132)).alloc (.cells (nineC (cellH (32 * (k : Int) + 24 + 2) n 4 j)) 132)) (fun _ v9 _ => (intOf v9).toNat)
    case atStart => exact ⟨0, by omega, rfl, rfl, rfl⟩
    case round =>
      obtain ⟨j, hj, rfl, rfl, rfl⟩ := hrel
      have hm := HR.out j
      have hj4 : j = 0 ∨ j = 1 ∨ j = 2 ∨ j = 3 ∨ j = 4 := by omega
      obtain ⟨m, hmm⟩ : ∃ m, nsh n j = m := ⟨_, rfl⟩
      have HMM := hideB hmm
      rw [hmm] at hm ⊢
      clear hmm
      rcases hj4 with rfl | rfl | rfl | rfl | rfl
      · simp only [nineC, cellH]
        go_wp2_with fail
        refine ⟨⟨1, by omega, by rw [nsh, HMM.out], rfl, ?_⟩, by simp [intOf]⟩
        simp only [nineC, cellH, Nat.reduceSub, HMM.out, nsh]
        rfl
      · simp only [nineC, cellH]
        go_wp2_with fail
        refine ⟨⟨2, by omega, by rw [nsh, HMM.out], rfl, ?_⟩, by simp [intOf]⟩
        simp only [nineC, cellH, Nat.reduceSub, HMM.out, nsh]
        rfl
      · simp only [nineC, cellH]
        go_wp2_with fail
        refine ⟨⟨3, by omega, by rw [nsh, HMM.out], rfl, ?_⟩, by simp [intOf]⟩
        simp only [nineC, cellH, Nat.reduceSub, HMM.out, nsh]
        rfl
      · simp only [nineC, cellH]
        go_wp2_with fail
        refine ⟨⟨4, by omega, by rw [nsh, HMM.out], rfl, ?_⟩, by simp [intOf]⟩
        simp only [nineC, cellH, Nat.reduceSub, HMM.out, nsh]
        rfl
      · simp only [nineC, cellH]
        go_wp2_with fail
        refine bodyPost_ret (head_ret (c := cellH (32 * (k : Int) + 24 + 2) n 4 4) rfl rfl ((Below.heap_alloc _ _ _ (by simp)).trans (heap_alloc_new w _))) rfl ⟨⟨_, by rw [HL.out, List.length_cons, bigB_len]; rfl, by have h := HN.out; simpa using h⟩, ((Below.refl _ _).alloc (Nat.le_refl _) _).alloc (by simp) _⟩
  · go_enter Try.func87, Try.ntmps87
    go_wp2_with (go_at_call 105; refine (HS.out _).mono ?_; rintro e w9 ⟨rfl, h9⟩; subst w9)
    go_loopw [1, 9] (fun v1 v9 wr => ∃ j : Nat, j ≤ 8 ∧ v1 = .int .u64 (nsh n j) ∧ v9 = .int .i64 ((8 - j : Nat) : Int) ∧ wr = (w.alloc (.cells #[.int .u8 0, .int .u8 0, .int .u8 0, .int .u8 0, .int .u8 0, .int .u8 0, .int .u8 0, .int .u8 0, .int .u8 0] 132)).alloc (.cells (nineC (cellH (32 * (k : Int) + 24 + 3) n 8 j)) 132)) (fun _ v9 _ => (intOf v9).toNat)
    case atStart => exact ⟨0, by omega, rfl, rfl, rfl⟩
    case round =>
      obtain ⟨j, hj, rfl, rfl, rfl⟩ := hrel
      have hm := HR.out j
      have hj4 : j = 0 ∨ j = 1 ∨ j = 2 ∨ j = 3 ∨ j = 4 ∨ j = 5 ∨ j = 6 ∨ j = 7 ∨ j = 8 := by omega
      obtain ⟨m, hmm⟩ : ∃ m, nsh n j = m := ⟨_, rfl⟩
      have HMM := hideB hmm
      rw [hmm] at hm ⊢
      clear hmm
      rcases hj4 with rfl | rfl | rfl | rfl | rfl | rfl | rfl | rfl | rfl
      · simp only [nineC, cellH]
        go_wp2_with fail
        refine ⟨⟨1, by omega, by rw [nsh, HMM.out], rfl, ?_⟩, by simp [intOf]⟩
        simp only [nineC, cellH, Nat.reduceSub, HMM.out, nsh]
        rfl
      · simp only [nineC, cellH]
        go_wp2_with fail
        refine ⟨⟨2, by omega, by rw [nsh, HMM.out], rfl, ?_⟩, by simp [intOf]⟩
        simp only [nineC, cellH, Nat.reduceSub, HMM.out, nsh]
        rfl
      · simp only [nineC, cellH]
        go_wp2_with fail
        refine ⟨⟨3, by omega, by rw [nsh, HMM.out], rfl, ?_⟩, by simp [intOf]⟩
        simp only [nineC, cellH, Nat.reduceSub, HMM.out, nsh]
        rfl
      · simp only [nineC, cellH]
        go_wp2_with fail
        refine ⟨⟨4, by omega, by rw [nsh, HMM.out], rfl, ?_⟩, by simp [intOf]⟩
        simp only [nineC, cellH, Nat.reduceSub, HMM.out, nsh]
        rfl
      · simp only [nineC, cellH]
        go_wp2_with fail
        refine ⟨⟨5, by omega, by rw [nsh, HMM.out], rfl, ?_⟩, by simp [intOf]⟩
        simp only [nineC, cellH, Nat.reduceSub, HMM.out, nsh]
        rfl
      · simp only [nineC, cellH]
        go_wp2_with fail
        refine ⟨⟨6, by omega, by rw [nsh, HMM.out], rfl, ?_⟩, by simp [intOf]⟩
        simp only [nineC, cellH, Nat.reduceSub, HMM.out, nsh]
        rfl
      · simp only [nineC, cellH]
        go_wp2_with fail
        refine ⟨⟨7, by omega, by rw [nsh, HMM.out], rfl, ?_⟩, by simp [intOf]⟩
        simp only [nineC, cellH, Nat.reduceSub, HMM.out, nsh]
        rfl
      · simp only [nineC, cellH]
        go_wp2_with fail
        refine ⟨⟨8, by omega, by rw [nsh, HMM.out], rfl, ?_⟩, by simp [intOf]⟩
        simp only [nineC, cellH, Nat.reduceSub, HMM.out, nsh]
        rfl
      · simp only [nineC, cellH]
        go_wp2_with fail
        refine bodyPost_ret (head_ret (c := cellH (32 * (k : Int) + 24 + 3) n 8 8) rfl rfl ((Below.heap_alloc _ _ _ (by simp)).trans (heap_alloc_new w _))) rfl ⟨⟨_, by rw [HL.out, List.length_cons, bigB_len]; rfl, by have h := HN.out; simpa using h⟩, ((Below.refl _ _).alloc (Nat.le_refl _) _).alloc (by simp) _⟩

theorem headOf_any (k : Nat) (n : Int) (w : World) (hk : k ≤ 6) (h0 : 0 ≤ n) (h1 : n ≤ 18446744073709551615) : Calls Try.prog 87 #[.int .u8 k, .int .u64 n] w fun e w' => HeadIs (headC k n) e ∧ Below w.heap.size w w' := by
  by_cases h : n < 24
  · exact headOf_low k n w (by omega) h0 h
  · exact headOf_big k n w hk (by omega) h1 _ rfl
end Go.Proofs.Ytokhindolimchaa
