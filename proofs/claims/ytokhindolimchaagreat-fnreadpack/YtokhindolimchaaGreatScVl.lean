/-
  Plain: a byte put behind a number that may be below 0.
-/
import Derived.Test.YtokhindolimchaaGreatPkR
import Derived.Laws.Bits64b
import Derived.Test.YtokhindolimchaaGreatScY4
import Derived.Test.YtokhindolimchaaGreatCbG
import Derived.Test.YtokhindolimchaaGreatScT
namespace Go.Proofs.YtokhindolimchaaGreat
open Go.RowKit
set_option linter.unusedSimpArgs false
set_option linter.unusedVariables false

theorem or_byte64 {v : Int} {a : Nat} (h1 : -36028797018963968 ≤ v) (h2 : v < 36028797018963968) (ha : a < 256) : bits BinOp.or IntKind.i64 (v * 256) (a : Int) = 256 * v + (a : Int) := by
  obtain ⟨u, hu⟩ : ∃ u : Nat, (u : Int) = v % 72057594037927936 := ⟨(v % 72057594037927936).toNat, by omega⟩
  have e1 : (BitVec.ofInt 64 (v * 256)).toNat = 256 * u := by
    rw [BitVec.toNat_ofInt]
    have : ((2 ^ 64 : Nat) : Int) = 18446744073709551616 := by decide
    rw [this]
    omega
  have e2 : (BitVec.ofInt 64 (a : Int)).toNat = a := by
    rw [BitVec.ofInt_natCast, BitVec.toNat_ofNat]; exact Nat.mod_eq_of_lt (by omega)
  have e3 : 256 * u ||| a = 256 * u + a := by
    have h2 := Nat.shiftLeft_add_eq_or_of_lt (i := 8) (b := a) (by omega) u
    rw [Nat.shiftLeft_eq] at h2
    rw [show 256 * u = u * 2 ^ 8 by omega, ← h2]
  show IntKind.i64.wrap ((BitVec.ofInt 64 (v * 256) ||| BitVec.ofInt 64 (a : Int)).toNat : Int) = _
  rw [BitVec.toNat_or, e1, e2, e3]
  have hw : IntKind.i64.wrap ((256 * u + a : Nat) : Int) = 256 * v + (a : Int) := by
    simp only [IntKind.wrap, IntKind.bits, IntKind.signed]
    simp
    omega
  exact hw
/-- The first so many bytes of a number that may be below 0. -/
def sgJ (L : List UInt8) (p j : Nat) : Int := (bigN L p j : Int) - (if 128 ≤ byAt L p then ((256 ^ j : Nat) : Int) else 0)
theorem sgJ_succ (L : List UInt8) (p j : Nat) : sgJ L p (j + 1) = 256 * sgJ L p j + (byAt L (p + j) : Int) := by
  unfold sgJ
  rw [bigN, Nat.pow_succ]
  generalize 256 ^ j = A
  split <;> omega
theorem pow_le8 {j : Nat} (h : j ≤ 7) : 256 ^ j ≤ 72057594037927936 := by
  have : 256 ^ j ≤ 256 ^ 7 := Nat.pow_le_pow_right (by omega) h
  simpa using this
/-- The first byte's bit decides. -/
theorem bigN_top (L : List UInt8) (p : Nat) : ∀ j, (128 ≤ byAt L p → 128 * 256 ^ j ≤ bigN L p (j + 1)) ∧ (byAt L p < 128 → bigN L p (j + 1) < 128 * 256 ^ j) := by
  intro j
  induction j with
  | zero => simp [bigN]
  | succ j ih =>
    have := byAt_lt L (p + (j + 1))
    rw [bigN, Nat.pow_succ]
    generalize 256 ^ j = A at ih ⊢
    constructor
    · intro h; have := ih.1 h; omega
    · intro h; have := ih.2 h; omega
theorem sgJ_in (L : List UInt8) (p : Nat) {j : Nat} (h : j ≤ 7) : -36028797018963968 ≤ sgJ L p j ∧ sgJ L p j < 36028797018963968 := by
  cases j with
  | zero => unfold sgJ; simp only [bigN, Nat.pow_zero]; split <;> omega
  | succ j =>
    have h1 := bigN_top L p j
    have h2 := bigN_lt L p (j + 1)
    have h3 : 256 ^ j ≤ 281474976710656 := by
      have : 256 ^ j ≤ 256 ^ 6 := Nat.pow_le_pow_right (by omega) (by omega)
      simpa using this
    unfold sgJ
    rw [Nat.pow_succ] at h2 ⊢
    generalize 256 ^ j = A at h1 h2 h3 ⊢
    split
    · have := h1.1 (by assumption); omega
    · have := h1.2 (by omega); omega
theorem sgJ_all (L : List UInt8) (p : Nat) {m : Nat} (hm : 1 ≤ m) : sgJ L p m = sgnN m (bigN L p m) := by
  obtain ⟨j, rfl⟩ : ∃ j, m = j + 1 := ⟨m - 1, by omega⟩
  have h1 := bigN_top L p j
  unfold sgJ sgnN
  rw [Nat.pow_succ]
  generalize 256 ^ j = A at h1 ⊢
  by_cases hb : 128 ≤ byAt L p
  · have := h1.1 hb
    rw [if_pos hb, if_neg (by omega)]
  · have := h1.2 (by omega)
    rw [if_neg hb, if_pos (by omega)]
    omega
end Go.Proofs.YtokhindolimchaaGreat

/-
  The specification's l3Rc: MessagePack's numbers that may be below 0.
-/
namespace Go.Proofs.YtokhindolimchaaGreat
open Go.RowKit
set_option linter.unusedSimpArgs false
set_option linter.unusedVariables false

set_option maxRecDepth 100000 in
set_option maxHeartbeats 6400000 in
theorem signed4_any {rb p c : Nat} {s : ByteArray} {w : World} (h : ScAt w rb s p false c) (hs : s.size ≤ 4000) (m : Nat) (hm : 1 ≤ m) (hm8 : m ≤ 8) :
    Calls Tryz.prog 86 #[.pointer (some ⟨rb, 0, none⟩), .int .i64 m] w fun e w' => But rb w w' ∧ ∃ n : Int, e = .returned (.int .i64 n) ∧
      ((sgnS s.data.toList p m c = some (leafN 3 n ByteArray.empty, p + m, c) ∧ ScAt w' rb s (p + m) false c) ∨ (sgnS s.data.toList p m c = none ∧ Spoilt w' rb s c)) := by
  have H := hideB h
  obtain ⟨c0, c1, c2, c3⟩ := h.cells
  have f1 := h.free 1
  have f2 := h.free 2
  have hle := h.le
  have hlen := len_is s
  have hrb := h.lt
  clear h
  by_cases hfit : p + m ≤ s.size
  rotate_left
  · have hgt : (s.size : Int) < (p : Int) + (m : Int) := by omega
    have HN : Hid (sgnS s.data.toList p m c = none) := by rw [Hid]; unfold sgnS; rw [if_neg (fun h => hfit (by have := h.1; omega))]
    go_enter Tryz.func86, Tryz.ntmps86
    go_wp2_with fail
    go_quiet (fail)
    have HD1 := hideB (below_drewB (w := w) nq)
    have HR1 := hideB (H.out.below HD1.out)
    have k2 := HR1.out.free 2
    generalize w.drewN nq = W1 at HR1 HD1 k2 ⊢
    clear nq c0 c1 c2 c3 f1 f2
    have d2 := HR1.out.cells.2.2.1
    go_wp2_with fail
    go_ret
    exact ⟨(But.of_below HD1.out).trans (But.of_set _ _), 0, rfl, .inr ⟨HN.out, p, HR1.out.setB true⟩⟩
  have hgt : ¬ (s.size : Int) < (p : Int) + (m : Int) := by omega
  have HGB : Hid (∀ k (h : k < s.size), byAt s.data.toList k = s[k].toNat) := fun k h => getB h
  have hps : p < s.size := by omega
  have HG0 := hideB (HGB.out p hps)
  have e0 : ((p : Int)).toNat = p := by omega
  obtain ⟨y0, hy0⟩ : ∃ y, s[p] = y := ⟨_, rfl⟩
  rw [hy0] at HG0
  have hyl0 : y0.toNat < 256 := y0.toNat_lt
  have hps' : (p : Int) < (s.size : Int) := by omega
  go_enter Tryz.func86, Tryz.ntmps86
  go_wp2_with fail
  go_quiet (fail)
  have HD1 := hideB (below_drewB (w := w) nq)
  have HR1 := hideB (H.out.below HD1.out)
  generalize w.drewN nq = W1 at HR1 HD1 ⊢
  clear nq c0 c1 c2 c3 f1 f2
  go_wp2_with fail
  obtain ⟨c0, c1, c2, c3⟩ := HR1.out.cells
  go_quiet (fail)
  have HD2 := hideB (below_drewB (w := W1) nq)
  have HR2 := hideB (HR1.out.below HD2.out)
  have HB2 := hideB ((But.of_below (rb := rb) HD1.out).trans (But.of_below HD2.out))
  generalize W1.drewN nq = W2 at HR2 HD2 HB2 ⊢
  clear nq c0 c1 c2 c3
  by_cases hy : 128 ≤ y0.toNat
  focus
    have hy' : (128 : Int) ≤ (y0.toNat : Int) := by omega
    have HJ0 : Hid (sgJ s.data.toList p 0 = -1) := by rw [Hid]; unfold sgJ; rw [HG0.out, if_pos hy]; rfl
    go_wp2_with fail
  rotate_left
  focus
    have hy' : ¬ (128 : Int) ≤ (y0.toNat : Int) := by omega
    have HJ0 : Hid (sgJ s.data.toList p 0 = 0) := by rw [Hid]; unfold sgJ; rw [HG0.out, if_neg hy]; rfl
    go_wp2_with fail
  all_goals
    clear hy hy'
    go_loopw [5, 6] (fun n i wr => ∃ j : Nat, j ≤ m ∧ i = .int .i64 j ∧ n = .int .i64 (sgJ s.data.toList p j) ∧ ScAt wr rb s p false c ∧ But rb w wr) (fun _ i _ => m - (intOf i).toNat)
    case atStart => exact ⟨0, Nat.zero_le _, rfl, by rw [HJ0.out], HR2.out, HB2.out⟩
    case round =>
      obtain ⟨j, hj, rfl, rfl, hsc, hbt⟩ := hrel
      have HSC := hideB hsc
      have HBT := hideB hbt
      obtain ⟨c0, c1, c2, c3⟩ := hsc.cells
      have f1 := hsc.free 1
      have f2 := hsc.free 2
      clear hsc hbt
      have HNX := hideB (sgJ_succ s.data.toList p j)
      have HIN := hideB (fun (h : j ≤ 7) => sgJ_in s.data.toList p h)
      have HALL := hideB (fun (h : j = m) => sgJ_all s.data.toList p (m := j) (by omega))
      obtain ⟨N, hN⟩ : ∃ N, sgJ s.data.toList p j = N := ⟨_, rfl⟩
      have HNN := hideB hN
      rw [hN] at HNX HIN HALL ⊢
      clear hN
      by_cases hlt : j < m
      · have hlt' : (j : Int) < (m : Int) := by omega
        obtain ⟨n1, n2⟩ := HIN.out (by omega)
        have hpj : p + j < s.size := by omega
        have hpj' : (p : Int) + (j : Int) < (s.size : Int) := by omega
        have e1 : ((p : Int) + (j : Int)).toNat = p + j := by omega
        have hby := HGB.out (p + j) hpj
        have hb256 := byAt_lt s.data.toList (p + j)
        obtain ⟨B, hB⟩ : ∃ B, byAt s.data.toList (p + j) = B := ⟨_, rfl⟩
        rw [hB] at HNX hby hb256
        clear hB
        obtain ⟨y, hy⟩ : ∃ y, s[p + j] = y := ⟨_, rfl⟩
        rw [hy] at hby
        have HBY := hideB hby
        have hyl : y.toNat < 256 := y.toNat_lt
        have hor : bits BinOp.or IntKind.i64 (N * 256) (y.toNat : Int) = 256 * N + (y.toNat : Int) := or_byte64 n1 n2 hyl
        clear hby
        go_wp2_with fail
        go_quiet (fail)
        have HD3 := hideB (below_drewB (w := wr) nq)
        have HR3 := hideB (HSC.out.below HD3.out)
        have HB3 := hideB (HBT.out.trans (But.of_below HD3.out))
        generalize wr.drewN nq = W3 at HR3 HD3 HB3 ⊢
        go_wp2_with fail
        refine ⟨⟨j + 1, by omega, by go_num, ?_, HR3.out, HB3.out⟩, by simp [intOf]; omega⟩
        rw [HNX.out, HBY.out]
      · obtain rfl : j = m := by omega
        have HN : Hid (N = sgnN j (bigN s.data.toList p j)) := HALL.out rfl
        have e1 : ((p + j : Nat) : Int) = (p : Int) + (j : Int) := by omega
        have HSP := hideB (HSC.out.setP (q := p + j) hfit)
        rw [e1] at HSP
        have HB3 := hideB (HBT.out.trans (But.of_set (rb := rb) 1 (.int .i64 ((p : Int) + (j : Int)))))
        have HFL : Hid (p + j ≤ s.data.toList.length) := by rw [Hid, hlen]; exact hfit
        go_wp2_with fail
        generalize wr.setCell ⟨rb, 1, none⟩ (.int .i64 ((p : Int) + (j : Int))) = W4 at HSP HB3 ⊢
        clear c0 c1 c2 c3 f1 f2
        refine (l1In_any _ _ _ _).mono ?_
        rintro e w5 ⟨rfl, rfl⟩
        have k2 := HSP.out.cells.2.2.1
        have f2 := HSP.out.free 2
        cases hin : inB N (-1000000000000000) 1000000000000000
        · have HNO : Hid (sgnS s.data.toList p j c = none) := by
            rw [Hid]; unfold sgnS
            rw [← HN.out, if_neg (fun hx => by
              have h2 := hx.2
              unfold inB at hin
              simp only [Bool.and_eq_false_iff, decide_eq_false_iff_not] at hin
              omega)]
          have HS6 := hideB (HSP.out.setB true)
          have HB6 := hideB (HB3.out.trans (But.of_set (rb := rb) 2 (.bool true)))
          go_wp2_with fail
          go_ret
          exact ⟨HB6.out, _, rfl, .inr ⟨HNO.out, _, HS6.out⟩⟩
        · have HYES : Hid (sgnS s.data.toList p j c = some (leafN 3 N ByteArray.empty, p + j, c)) := by
            rw [Hid]; unfold sgnS
            unfold inB at hin
            simp only [Bool.and_eq_true, decide_eq_true_eq] at hin
            rw [← HN.out, if_pos ⟨HFL.out, by omega, by omega⟩]
          go_wp2_with fail
          go_ret
          exact ⟨HB3.out, _, rfl, .inl ⟨HYES.out, HSP.out⟩⟩
end Go.Proofs.YtokhindolimchaaGreat

/-
  Plain: what the specification reads of MessagePack is small, counts its nodes, and goes on.
-/
namespace Go.Proofs.YtokhindolimchaaGreat
open Go.RowKit
set_option linter.unusedSimpArgs false
set_option linter.unusedVariables false

theorem wok_pack (L : List UInt8) (f : Nat) : WOk (spW L f) := by
  intro p s q h
  cases f with
  | zero => simp [spW] at h
  | succ f =>
    rw [spW] at h
    by_cases c0 : L.length ≤ p
    · rw [if_pos c0] at h; cases h
    rw [if_neg c0] at h
    by_cases c1 : 160 ≤ byAt L p ∧ byAt L p < 192
    · rw [if_pos c1] at h
      have h2 := take_fine h
      exact ⟨h2.1, by omega⟩
    rw [if_neg c1] at h
    by_cases c2 : 217 ≤ byAt L p ∧ byAt L p ≤ 219
    · rw [if_pos c2] at h
      cases e : bigS L (p + 1) (2 ^ (byAt L p - 217)) with
      | none => rw [e] at h; cases h
      | some x =>
        obtain ⟨n, r⟩ := x
        rw [e] at h
        have h1 := big_fine e (two_pos _)
        have h2 := take_fine h
        exact ⟨h2.1, by omega⟩
    · rw [if_neg c2] at h; cases h
theorem ok_pack (L : List UInt8) : ∀ f deep, SpOk (spP L f deep) := by
  intro f
  induction f with
  | zero => intro deep p c ns q d _ h; simp [spP] at h
  | succ f ih =>
    intro deep p c ns q d hc h
    have hb := byAt_lt L p
    rw [spP] at h
    by_cases c0 : 80 < c + 1 ∨ L.length ≤ p
    · rw [if_pos c0] at h; cases h
    rw [if_neg c0] at h
    have leaf : ∀ {k n : Int} {s : ByteArray} {q' : Nat}, some (leafN k n s, q', c + 1) = some (ns, q, d) → 0 ≤ k ∧ k ≤ 6 → -9223372036854775808 ≤ n ∧ n ≤ 9223372036854775807 → s.size ≤ 60 → p < q' → SmNs ns ∧ d = c + ns.length ∧ d ≤ 80 ∧ p < q := fun h h1 h2 h3 h4 => by
      simp only [Option.some.injEq, Prod.mk.injEq] at h
      obtain ⟨rfl, rfl, rfl⟩ := h
      exact ⟨sm_leaf h1 h2 h3, rfl, by omega, h4⟩
    have row : ∀ {named : Bool} {n r : Nat}, p < r → spRow (spW L f) (spP L f (deep + 1)) named n (deep + 1) r (c + 1) = some (ns, q, d) → SmNs ns ∧ d = c + ns.length ∧ d ≤ 80 ∧ p < q := fun {named n r} h1 h => by
      have := row_fine (wok_pack L f) (ih (deep + 1)) (by omega) (by omega) h
      exact ⟨this.1, by omega, by omega, by omega⟩
    have brow : ∀ {named : Bool} {w : Nat}, 1 ≤ w → bigRow (spW L f) (spP L f (deep + 1)) L named w (deep + 1) (p + 1) (c + 1) = some (ns, q, d) → SmNs ns ∧ d = c + ns.length ∧ d ≤ 80 ∧ p < q := fun {named w} h1 h => by
      unfold bigRow at h
      split at h
      · cases h
      · rename_i n r e
        have h2 := big_fine e h1
        exact row (by omega) h
    by_cases c1 : (160 ≤ byAt L p ∧ byAt L p < 192) ∨ (217 ≤ byAt L p ∧ byAt L p ≤ 219)
    · rw [if_pos c1] at h
      unfold wordV at h
      split at h
      · cases h
      · rename_i s r e
        have := wok_pack L (f + 1) p s r e
        exact leaf h (by decide) (by decide) this.1 this.2
    rw [if_neg c1] at h
    by_cases c2 : byAt L p < 128
    · rw [if_pos c2] at h; exact leaf h (by decide) (by omega) (by decide) (by omega)
    rw [if_neg c2] at h
    by_cases c3 : byAt L p < 144
    · rw [if_pos c3] at h; exact row (by omega) h
    rw [if_neg c3] at h
    by_cases c4 : byAt L p < 160
    · rw [if_pos c4] at h; exact row (by omega) h
    rw [if_neg c4] at h
    by_cases c5 : byAt L p = 192
    · rw [if_pos c5] at h; exact leaf h (by decide) (by decide) (by decide) (by omega)
    rw [if_neg c5] at h
    by_cases c6 : byAt L p = 194
    · rw [if_pos c6] at h; exact leaf h (by decide) (by decide) (by decide) (by omega)
    rw [if_neg c6] at h
    by_cases c7 : byAt L p = 195
    · rw [if_pos c7] at h; exact leaf h (by decide) (by decide) (by decide) (by omega)
    rw [if_neg c7] at h
    by_cases c8 : 204 ≤ byAt L p ∧ byAt L p ≤ 207
    · rw [if_pos c8] at h
      unfold bigV at h
      split at h
      · cases h
      · rename_i n r e
        have h2 := big_fine e (two_pos _)
        exact leaf h (by decide) (by omega) (by decide) (by omega)
    rw [if_neg c8] at h
    by_cases c9 : 208 ≤ byAt L p ∧ byAt L p ≤ 211
    · rw [if_pos c9] at h
      unfold sgnS at h
      split at h
      · rename_i g
        exact leaf h (by decide) (by omega) (by decide) (Nat.lt_of_lt_of_le (Nat.lt_succ_self p) (Nat.le_add_right _ _))
      · cases h
    rw [if_neg c9] at h
    by_cases d0 : byAt L p = 220 ∨ byAt L p = 221
    · rw [if_pos d0] at h; exact brow (by have := two_pos (byAt L p - 220); exact Nat.mul_pos (by omega) this) h
    rw [if_neg d0] at h
    by_cases d1 : byAt L p = 222 ∨ byAt L p = 223
    · rw [if_pos d1] at h; exact brow (by have := two_pos (byAt L p - 222); exact Nat.mul_pos (by omega) this) h
    rw [if_neg d1] at h
    by_cases d2 : 224 ≤ byAt L p
    · rw [if_pos d2] at h; exact leaf h (by decide) (by omega) (by decide) (by omega)
    · rw [if_neg d2] at h; cases h
end Go.Proofs.YtokhindolimchaaGreat

/-
  The specification's l3Rc: a value of MessagePack, by a reader that is spoilt, or at its end.
-/
namespace Go.Proofs.YtokhindolimchaaGreat
open Go.RowKit
set_option linter.unusedSimpArgs false
set_option linter.unusedVariables false

set_option maxRecDepth 100000 in
set_option maxHeartbeats 6400000 in
theorem value4_bad {rb p c deep : Nat} {s : ByteArray} {w : World} {bad : Bool} (h : ScAt w rb s p bad c) (hs : s.size ≤ 4000) (hc : c ≤ 80) (hd : deep ≤ 8) (hx : bad = true ∨ 80 < c + 1 ∨ s.size ≤ p) :
    Calls Tryz.prog 42 #[.pointer (some ⟨rb, 0, none⟩), .int .i64 deep] w (ValOr rb s none w) := by
  have hrb := h.lt
  obtain ⟨c0, c1, c2, c3⟩ := h.cells
  have f3 := h.free 3
  have HS1 := hideB (h.setN (d := c + 1) (by omega))
  have e1 : ((c + 1 : Nat) : Int) = (c : Int) + 1 := by omega
  rw [e1] at HS1
  have HB1 := hideB (But.of_set (rb := rb) (a := w) 3 (.int .i64 ((c : Int) + 1)))
  clear h
  go_enter Tryz.func42, Tryz.ntmps42
  go_wp2_with fail
  generalize w.setCell ⟨rb, 3, none⟩ (.int .i64 ((c : Int) + 1)) = W1 at HS1 HB1 ⊢
  clear c0 c1 c2 c3 f3
  obtain ⟨c0, c1, c2, c3⟩ := HS1.out.cells
  rw [e1] at c3
  by_cases g : 80 < c + 1 ∨ s.size ≤ p
  focus
    by_cases g1 : 80 < c + 1
    focus
      have g1' : decide ((80 : Int) < (c : Int) + 1) = true := by simp; omega
      go_quiet (fail)
    rotate_left
    focus
      have g1' : decide ((80 : Int) < (c : Int) + 1) = false := by simp; omega
      have g2' : decide ((s.size : Int) ≤ (p : Int)) = true := by simp; omega
      go_quiet (fail)
    all_goals
      have HD3 := hideB (below_drewB (w := W1) nq)
      have HS3 := hideB (HS1.out.below HD3.out)
      have HB3 := hideB (HB1.out.trans (But.of_below HD3.out))
      generalize W1.drewN nq = W3 at HS3 HD3 HB3 ⊢
      clear nq c0 c1 c2 c3
      have k2 := HS3.out.cells.2.2.1
      have f2 := HS3.out.free 2
      have HS4 := hideB (HS3.out.setB true)
      have HB4 := hideB (HB3.out.trans (But.of_set (rb := rb) 2 (.bool true)))
      go_wp2_with fail
      generalize W3.setCell ⟨rb, 2, none⟩ (.bool true) = W4 at HS4 HB4 ⊢
  rotate_left 2
  focus
    obtain rfl : bad = true := by rcases hx with h | h; exact h; exact absurd h g
    have g1' : decide ((80 : Int) < (c : Int) + 1) = false := by simp; omega
    have g2' : decide ((s.size : Int) ≤ (p : Int)) = false := by simp; omega
    go_quiet (fail)
    have HD3 := hideB (below_drewB (w := W1) nq)
    have HS4 := hideB (HS1.out.below HD3.out)
    have HB4 := hideB (HB1.out.trans (But.of_below HD3.out))
    generalize W1.drewN nq = W4 at HS4 HD3 HB4 ⊢
    clear nq c0 c1 c2 c3
    have k2 := HS4.out.cells.2.2.1
    go_wp2_with fail
  all_goals
    refine (sNull_any W4).mono ?_
    rintro e w5 ⟨rfl, _, hb⟩
    have HB5 := hideB hb
    clear hb
    go_wp2_with fail
    go_ret
    exact ⟨_, _, _, rfl, HB4.out.trans (But.of_below HB5.out), .inr ⟨rfl, c + 1, by omega, _, HS4.out.below HB5.out⟩⟩

set_option maxRecDepth 100000 in
set_option maxHeartbeats 6400000 in
theorem row4_spoilt {rb p c deep : Nat} {s : ByteArray} {w : World} {named : Bool} (h : ScAt w rb s p true c) (hd : deep ≤ 9) :
    Calls Tryz.prog 84 #[.pointer (some ⟨rb, 0, none⟩), .int .i64 (-1), .bool named, .int .i64 deep] w fun e w' => ∃ a n k, e = .returned (.slice a n k) ∧ But rb w w' ∧ Spoilt w' rb s c := by
  have hrb := h.lt
  have H := hideB h
  have f2 := h.free 2
  have c2 := h.cells.2.2.1
  clear h
  have HSA := hideB (H.out.setB true)
  have HBA := hideB (((Below.refl (w.setCell ⟨rb, 2, none⟩ (.bool true)).heap.size (w.setCell ⟨rb, 2, none⟩ (.bool true))).alloc (Nat.le_refl _) (.cells #[] 9)).alloc (o := .cells #[] 25) (by simp))
  have HSB := hideB (HSA.out.below HBA.out)
  have HBU := hideB ((But.of_set (rb := rb) (a := w) 2 (.bool true)).trans (But.of_below HBA.out))
  clear HSA
  go_enter Tryz.func84, Tryz.ntmps84
  go_wp2_with fail
  clear HBA
  generalize ((w.setCell ⟨rb, 2, none⟩ (.bool true)).alloc (.cells #[] 9)).alloc (.cells #[] 25) = W1 at HSB HBU ⊢
  clear f2 c2
  go_loopw [9, 10, 11] (fun _ _ i wr => i = .int .i64 0 ∧ wr = W1) (fun _ _ i _ => 1)
  case atStart => exact ⟨rfl, rfl⟩
  case round =>
    obtain ⟨rfl, rfl⟩ := hrel
    have k2 := HSB.out.cells.2.2.1
    have HN := hideB (sNull_any wr)
    go_wp2_with fail
    refine HN.out.mono ?_
    rintro e w2 ⟨rfl, _, hb⟩
    have HB2 := hideB hb
    clear hb
    go_wp2_with fail
    go_ret
    exact ⟨_, _, _, rfl, HBU.out.trans (But.of_below HB2.out), _, HSB.out.below HB2.out⟩
end Go.Proofs.YtokhindolimchaaGreat

/-
  The specification's l3Rc: a value.
-/
namespace Go.Proofs.YtokhindolimchaaGreat
open Go.RowKit
set_option linter.unusedSimpArgs false
set_option linter.unusedVariables false

set_option maxRecDepth 100000 in
set_option maxHeartbeats 6400000 in
theorem value_spoilt {rb p c deep : Nat} {s : ByteArray} {w : World} (h : ScAt w rb s p true c) (hs : s.size ≤ 4000) (hc : c ≤ 80) (hd : deep ≤ 8) :
    Calls Tryz.prog 29 #[.pointer (some ⟨rb, 0, none⟩), .int .i64 deep] w (ValOr rb s none w) := by
  have hrb := h.lt
  obtain ⟨c0, c1, c2, c3⟩ := h.cells
  have f3 := h.free 3
  have HS1 := hideB (h.setN (d := c + 1) (by omega))
  have e1 : ((c + 1 : Nat) : Int) = (c : Int) + 1 := by omega
  rw [e1] at HS1
  have HB1 := hideB (But.of_set (rb := rb) (a := w) 3 (.int .i64 ((c : Int) + 1)))
  clear h
  go_enter Tryz.func29, Tryz.ntmps29
  by_cases g : c + 1 ≤ 80
  focus
    have g' : ¬ (80 : Int) < (c : Int) + 1 := by omega
    go_wp2_with fail
    have HS2 := hideB HS1.out
    have HB2 := hideB HB1.out
    generalize w.setCell ⟨rb, 3, none⟩ (.int .i64 ((c : Int) + 1)) = W1 at HS1 HB1 HS2 HB2 ⊢
  rotate_left
  focus
    have g' : (80 : Int) < (c : Int) + 1 := by omega
    have HS2 := hideB (HS1.out.setB true)
    have HB2 := hideB (HB1.out.trans (But.of_set (rb := rb) 2 (.bool true)))
    have k2 := HS1.out.cells.2.2.1
    have l2 := HS1.out.free 2
    go_wp2_with fail
    generalize (w.setCell ⟨rb, 3, none⟩ (.int .i64 ((c : Int) + 1))).setCell ⟨rb, 2, none⟩ (.bool true) = W1 at HS2 HB2 ⊢
    clear k2 l2
  all_goals
    clear c0 c1 c2 c3 f3 HS1 HB1
    obtain ⟨c0, c1, c2, c3⟩ := HS2.out.cells
    go_quiet (fail)
    have HD3 := hideB (below_drewB (w := W1) nq)
    have HS3 := hideB (HS2.out.below HD3.out)
    have HB3 := hideB (HB2.out.trans (But.of_below HD3.out))
    generalize W1.drewN nq = W3 at HS3 HD3 HB3 ⊢
    clear nq c0 c1 c2 c3
    have HHD := hideB (shead_bad HS3.out hs)
    go_wp2_with fail
    refine HHD.out.mono ?_
    rintro e w4 ⟨hb4, ⟨a, b, rfl⟩, p4, hsc4⟩
    have HS4 := hideB hsc4
    have HB4 := hideB (HB3.out.trans hb4)
    have k2 := hsc4.cells.2.2.1
    have HN := hideB (sNull_any w4)
    clear hsc4 hb4
    go_wp2_with fail
    refine HN.out.mono ?_
    rintro e w5 ⟨rfl, _, hb⟩
    have HB5 := hideB hb
    clear hb
    go_wp2_with fail
    go_ret
    exact ⟨_, _, _, rfl, HB4.out.trans (But.of_below HB5.out), .inr ⟨rfl, c + 1, by omega, _, HS4.out.below HB5.out⟩⟩
end Go.Proofs.YtokhindolimchaaGreat

/-
  Values of the specification's reading: leaves.
-/
namespace Go.Proofs.YtokhindolimchaaGreat
open Go.RowKit
set_option linter.unusedSimpArgs false
set_option linter.unusedVariables false

theorem leaf_or {rb p c : Nat} {s : ByteArray} {w w1 w2 : World} {k n : Int} {t : ByteArray} {S : Option (List VN × Nat × Nat)} (hb : But rb w w1) (hs : ScAt w1 rb s p false c) (hn : Nest w1.heap.size w2 (.slice (some ⟨w1.heap.size, 0, none⟩) 1 1) (leafN k n t) (fun _ => .slice none 0 0) (fun _ => .slice none 0 0)) (hb2 : Below w1.heap.size w1 w2) (hS : S = some (leafN k n t, p, c)) :
    ValOr rb s S w (.returned (.slice (some ⟨w1.heap.size, 0, none⟩) 1 1)) w2 :=
  ⟨_, _, _, rfl, hb.trans (But.of_below hb2), .inl ⟨_, _, _, _, _, hS, rfl, hn.low hb.size, hs.below hb2⟩⟩

theorem ValOr.back {rb : Nat} {s : ByteArray} {S : Option (List VN × Nat × Nat)} {w w1 w2 : World} {e : Ending} (hb : But rb w w1) (h : ValOr rb s S w1 e w2) : ValOr rb s S w e w2 := by
  obtain ⟨a, n, c, h1, h2, h3⟩ := h
  refine ⟨a, n, c, h1, hb.trans h2, ?_⟩
  rcases h3 with ⟨ns, q, d, KV, IV, x1, x2, x3, x4⟩ | h3
  · exact .inl ⟨ns, q, d, KV, IV, x1, x2, x3.low hb.size, x4⟩
  · exact .inr h3
end Go.Proofs.YtokhindolimchaaGreat
