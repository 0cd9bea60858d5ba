/-
  The specification's single nodes, and the head of what l3Rc reads.
-/
import Derived.Test.YtokhindolimchaaGreatScM
import Derived.Test.YtokhindolimchaaGreatCbR
import Derived.Test.YtokhindolimchaaGreatDrV
import Derived.Test.YtokhindolimchaaGreatLowN
namespace Go.Proofs.YtokhindolimchaaGreat
open Go.RowKit
set_option linter.unusedSimpArgs false
set_option linter.unusedVariables false

set_option maxRecDepth 100000 in
theorem sNull_any (w : World) : Calls Tryz.prog 43 #[] w fun e w' => e = .returned (.slice (some ⟨w.heap.size, 0, none⟩) 1 1) ∧ Nest w.heap.size w' (.slice (some ⟨w.heap.size, 0, none⟩) 1 1) (leafN 1 0 ByteArray.empty) (fun _ => .slice none 0 0) (fun _ => .slice none 0 0) ∧ Below w.heap.size w w' := by
  go_enter Tryz.func43, Tryz.ntmps43
  go_wp2_with fail
  go_ret
  exact ⟨rfl, leaf_nest w 1 0 ⟨#[]⟩, (Below.refl _ _).alloc (Nat.le_refl _) _⟩
set_option maxRecDepth 100000 in
theorem sBool_any (b : Bool) (w : World) : Calls Tryz.prog 44 #[.bool b] w fun e w' => e = .returned (.slice (some ⟨w.heap.size, 0, none⟩) 1 1) ∧ Nest w.heap.size w' (.slice (some ⟨w.heap.size, 0, none⟩) 1 1) (leafN 2 (if b = true then 1 else 0) ByteArray.empty) (fun _ => .slice none 0 0) (fun _ => .slice none 0 0) ∧ Below w.heap.size w w' := by
  cases b
  · go_enter Tryz.func44, Tryz.ntmps44
    go_wp2_with fail
    go_ret
    exact ⟨rfl, leaf_nest w 2 0 ⟨#[]⟩, (Below.refl _ _).alloc (Nat.le_refl _) _⟩
  · go_enter Tryz.func44, Tryz.ntmps44
    go_wp2_with fail
    go_ret
    exact ⟨rfl, leaf_nest w 2 1 ⟨#[]⟩, (Below.refl _ _).alloc (Nat.le_refl _) _⟩
set_option maxRecDepth 100000 in
theorem sNumber_any (n : Int) (w : World) : Calls Tryz.prog 45 #[.int .i64 n] w fun e w' => e = .returned (.slice (some ⟨w.heap.size, 0, none⟩) 1 1) ∧ Nest w.heap.size w' (.slice (some ⟨w.heap.size, 0, none⟩) 1 1) (leafN 3 n ByteArray.empty) (fun _ => .slice none 0 0) (fun _ => .slice none 0 0) ∧ Below w.heap.size w w' := by
  go_enter Tryz.func45, Tryz.ntmps45
  go_wp2_with fail
  go_ret
  exact ⟨rfl, leaf_nest w 3 n ⟨#[]⟩, (Below.refl _ _).alloc (Nat.le_refl _) _⟩
set_option maxRecDepth 100000 in
theorem sWord_any (s : ByteArray) (w : World) : Calls Tryz.prog 47 #[.string s] w fun e w' => e = .returned (.slice (some ⟨w.heap.size, 0, none⟩) 1 1) ∧ Nest w.heap.size w' (.slice (some ⟨w.heap.size, 0, none⟩) 1 1) (leafN 4 0 s) (fun _ => .slice none 0 0) (fun _ => .slice none 0 0) ∧ Below w.heap.size w w' := by
  go_enter Tryz.func47, Tryz.ntmps47
  go_wp2_with fail
  go_ret
  exact ⟨rfl, leaf_nest w 4 0 s, (Below.refl _ _).alloc (Nat.le_refl _) _⟩

theorem u8_rem32' (c : Nat) : ((c : Int)).tmod 32 = ((c % 32 : Nat) : Int) := by rw [Int.tmod_eq_emod_of_nonneg (by omega)]; omega
/-- A head is read: its kind and number; or the reader is spoilt. -/
def HeadOr (rb p c : Nat) (s : ByteArray) (w : World) (e : Ending) (w' : World) : Prop :=
  But rb w w' ∧ ((∃ n q : Nat, p < s.size ∧ headS s.data.toList p = some (n, q) ∧ e = .returned (.tuple #[.int .i64 ((byAt s.data.toList p / 32 : Nat) : Int), .int .i64 n]) ∧ ScAt w' rb s q false c ∧ n ≤ 256000000000000255) ∨
    ((p < s.size → headS s.data.toList p = none) ∧ (∃ a b : Int, e = .returned (.tuple #[.int .i64 a, .int .i64 b]) ∧ -1 ≤ b ∧ b ≤ 256000000000000255) ∧ Spoilt w' rb s c))
theorem big_one {L : List UInt8} {p : Nat} : bigS L p 1 = if p + 1 ≤ L.length then some (byAt L p, p + 1) else none := by
  unfold bigS
  simp only [Nat.sub_self, bigN, Nat.add_zero, Nat.mul_zero, Nat.zero_add, maxI]
  by_cases h : p + 1 ≤ L.length
  · rw [if_pos ⟨h, by omega⟩, if_pos h]
  · rw [if_neg (fun hx => h hx.1), if_neg h]

end Go.Proofs.YtokhindolimchaaGreat

/-
  The head of what l3Rc reads.
-/
namespace Go.Proofs.YtokhindolimchaaGreat
open Go.RowKit
set_option linter.unusedSimpArgs false
set_option linter.unusedVariables false

set_option maxRecDepth 100000 in
set_option maxHeartbeats 3200000 in
theorem shead_any {rb p c : Nat} {s : ByteArray} {w : World} (h : ScAt w rb s p false c) (hs : s.size ≤ 4000) :
    Calls Tryz.prog 60 #[.pointer (some ⟨rb, 0, none⟩)] w (HeadOr rb p c s w) := by
  have hlen := len_is s
  have HLN := hideB hlen
  have HC := hideB (scBig_any h hs 1 (by omega) (by omega))
  have hle := h.le
  clear h hlen
  go_enter Tryz.func60, Tryz.ntmps60
  go_wp2_with fail
  refine HC.out.mono ?_
  rintro e w1 ⟨b1, ⟨n, q, hr, rfl, hsc, _⟩ | ⟨hr, rfl, hsp⟩⟩
  rotate_left
  · obtain ⟨p', hsc⟩ := hsp
    have k2 := hsc.cells.2.2.1
    have HSC := hideB hsc
    have HB := hideB b1
    have HN : Hid (p < s.size → headS s.data.toList p = none) := fun hp => by
      rw [big_one, if_pos (by rw [HLN.out]; omega)] at hr
      cases hr
    clear hr hsc b1
    go_wp2_with fail
    go_ret2
    exact ⟨HB.out, .inr ⟨HN.out, ⟨0, 0, rfl, by omega, by omega⟩, p', HSC.out⟩⟩
  rw [big_one] at hr
  by_cases hp : p + 1 ≤ s.data.toList.length
  rotate_left
  · rw [if_neg hp] at hr; cases hr
  rw [if_pos hp] at hr
  simp only [Option.some.injEq, Prod.mk.injEq] at hr
  obtain ⟨rfl, rfl⟩ := hr
  have hps : p < s.size := by have := HLN.out; omega
  have hb256 := byAt_lt s.data.toList p
  have k2 := hsc.cells.2.2.1
  have HSC := hideB hsc
  have HB := hideB b1
  have HHD : Hid (headS s.data.toList p = if byAt s.data.toList p % 32 < 24 then some (byAt s.data.toList p % 32, p + 1) else if byAt s.data.toList p % 32 < 28 then bigS s.data.toList (p + 1) (2 ^ (byAt s.data.toList p % 32 - 24)) else none) := rfl
  have HBIG := hideB (fun (W : World) (h : ScAt W rb s (p + 1) false c) (m : Nat) (h1 : 1 ≤ m) (h8 : m ≤ 8) => scBig_any h hs m h1 h8)
  obtain ⟨b, hb⟩ : ∃ b, byAt s.data.toList p = b := ⟨_, rfl⟩
  have HBB := hideB hb
  rw [hb] at hb256 HHD ⊢
  clear hsc b1 hb hp HC
  have f2 := HSC.out.free 2
  have HPW : Hid (24 ≤ b % 32 → b % 32 < 28 → wrap64 (2 ^ (b % 32 - 24)) = ((2 ^ (b % 32 - 24) : Nat) : Int) ∧ 1 ≤ 2 ^ (b % 32 - 24) ∧ 2 ^ (b % 32 - 24) ≤ 8) := fun h1 h2 => by
    rcases (show b % 32 - 24 = 0 ∨ b % 32 - 24 = 1 ∨ b % 32 - 24 = 2 ∨ b % 32 - 24 = 3 by omega) with h | h | h | h <;> rw [h] <;> exact ⟨by first | decide | simp [wrap64], by decide, by decide⟩
  go_wp2_with fail
  · go_ret2
    have j1 : b % 32 < 24 := by omega
    rw [if_pos j1] at HHD
    refine ⟨HB.out, .inl ⟨b % 32, p + 1, hps, HHD.out, ?_, HSC.out, by omega⟩⟩
    rw [HBB.out]; rfl
  · have j1 : ¬ b % 32 < 24 := by omega
    have j2 : b % 32 < 28 := by omega
    rw [if_neg j1, if_pos j2] at HHD
    obtain ⟨p1, p2, p3⟩ := HPW.out (by omega) j2
    rw [p1]
    have HCC := hideB (HBIG.out w1 HSC.out _ p2 p3)
    clear p1 HPW
    refine HCC.out.mono ?_
    rintro e w2 ⟨b2, ⟨n, q, hr, rfl, hsc2, hn⟩ | ⟨hr, rfl, hsp⟩⟩
    · have HS2 := hideB hsc2
      have HB2 := hideB (HB.out.trans b2)
      have HRR := hideB (HHD.out.trans hr)
      clear hsc2 b2 hr
      go_wp2_with fail
      go_ret2
      refine ⟨HB2.out, .inl ⟨n, q, hps, HRR.out, ?_, HS2.out, hn⟩⟩
      rw [HBB.out]; rfl
    · have HS2 := hideB hsp
      have HB2 := hideB (HB.out.trans b2)
      have HRR := hideB (HHD.out.trans hr)
      clear hsp b2 hr
      go_wp2_with fail
      go_ret2
      exact ⟨HB2.out, .inr ⟨fun _ => HRR.out, ⟨_, -1, rfl, by omega, by omega⟩, HS2.out⟩⟩
  · go_ret2
    have j1 : ¬ b % 32 < 24 := by omega
    have j2 : ¬ b % 32 < 28 := by omega
    rw [if_neg j1, if_neg j2] at HHD
    exact ⟨HB.out.trans (But.of_set _ _), .inr ⟨fun _ => HHD.out, ⟨0, 0, rfl, by omega, by omega⟩, _, HSC.out.setB true⟩⟩

set_option maxRecDepth 100000 in
set_option maxHeartbeats 3200000 in
theorem shead_bad {rb p c : Nat} {s : ByteArray} {w : World} (h : ScAt w rb s p true c) (hs : s.size ≤ 4000) :
    Calls Tryz.prog 60 #[.pointer (some ⟨rb, 0, none⟩)] w fun e w' => But rb w w' ∧ (∃ a b : Int, e = .returned (.tuple #[.int .i64 a, .int .i64 b])) ∧ Spoilt w' rb s c := by
  have HC := hideB (scBig_any h hs 1 (by omega) (by omega))
  clear h
  go_enter Tryz.func60, Tryz.ntmps60
  go_wp2_with fail
  refine HC.out.mono ?_
  rintro e w1 ⟨b1, ⟨n, q, hr, rfl, hsc, _⟩ | ⟨hr, rfl, hsp⟩⟩
  · have k2 := hsc.cells.2.2.1
    have HSC := hideB hsc
    have HB := hideB b1
    clear hr hsc b1
    go_wp2_with fail
    go_ret2
    exact ⟨HB.out, ⟨0, 0, rfl⟩, q, HSC.out⟩
  · obtain ⟨p', hsc⟩ := hsp
    have k2 := hsc.cells.2.2.1
    have HSC := hideB hsc
    have HB := hideB b1
    clear hr hsc b1
    go_wp2_with fail
    go_ret2
    exact ⟨HB.out, ⟨0, 0, rfl⟩, p', HSC.out⟩
end Go.Proofs.YtokhindolimchaaGreat

/-
  Plain: what the specification reads is small, counts its nodes, and goes on.
-/
namespace Go.Proofs.YtokhindolimchaaGreat
open Go.RowKit
set_option linter.unusedSimpArgs false
set_option linter.unusedVariables false

def SpOk (S : Nat → Nat → Option (List VN × Nat × Nat)) : Prop := ∀ p c ns q d, c ≤ 80 → S p c = some (ns, q, d) → SmNs ns ∧ d = c + ns.length ∧ d ≤ 80 ∧ p < q
def WOk (W : Nat → Option (ByteArray × Nat)) : Prop := ∀ p s q, W p = some (s, q) → s.size ≤ 60 ∧ p < q

theorem items_fine {S : Nat → Nat → Option (List VN × Nat × Nat)} (H : SpOk S) : ∀ {k p c : Nat} {l : List (List VN)} {q d : Nat}, c ≤ 80 → spItems S k p c = some (l, q, d) → d = c + sumL (rowAt l) k ∧ d ≤ 80 ∧ l.length = k ∧ (∀ i, i < k → SmNs (rowAt l i)) ∧ p ≤ q := by
  intro k
  induction k with
  | zero => intro p c l q d hc h; simp [spItems] at h; obtain ⟨rfl, rfl, rfl⟩ := h; exact ⟨by simp [sumL], hc, rfl, fun i hi => by omega, Nat.le_refl _⟩
  | succ k ih =>
    intro p c l q d hc h
    rw [spItems] at h
    cases e1 : S p c with
    | none => simp [e1] at h
    | some x =>
      obtain ⟨n1, q1, d1⟩ := x
      simp only [e1] at h
      cases e2 : spItems S k q1 d1 with
      | none => simp [e2] at h
      | some y =>
        obtain ⟨m, z, d2⟩ := y
        simp only [e2, Option.some.injEq, Prod.mk.injEq] at h
        obtain ⟨rfl, rfl, rfl⟩ := h
        obtain ⟨a1, a2, a3, a4⟩ := H _ _ _ _ _ hc e1
        obtain ⟨b1, b2, b3, b4, b5⟩ := ih a3 e2
        refine ⟨?_, b2, by simp [b3], fun i hi => ?_, by omega⟩
        · rw [sumL_cons, rowAt_cons]
          show d2 = c + (n1.length + _)
          omega
        · cases i with
          | zero => exact a1
          | succ i => exact b4 i (by omega)
theorem pairs_fine {W : Nat → Option (ByteArray × Nat)} {S : Nat → Nat → Option (List VN × Nat × Nat)} (HW : WOk W) (H : SpOk S) : ∀ {k p c : Nat} {ks : List ByteArray} {l : List (List VN)} {q d : Nat}, c ≤ 80 → spPairs W S k p c = some (ks, l, q, d) → d = c + sumL (rowAt l) k ∧ d ≤ 80 ∧ l.length = k ∧ (∀ i, i < k → SmNs (rowAt l i)) ∧ p ≤ q ∧ ks.length = k ∧ (∀ i, i < k → (keyAt ks i).size ≤ 60) := by
  intro k
  induction k with
  | zero => intro p c ks l q d hc h; simp [spPairs] at h; obtain ⟨rfl, rfl, rfl, rfl⟩ := h; exact ⟨by simp [sumL], hc, rfl, fun i hi => by omega, Nat.le_refl _, rfl, fun i hi => by omega⟩
  | succ k ih =>
    intro p c ks l q d hc h
    rw [spPairs] at h
    cases e0 : W p with
    | none => simp [e0] at h
    | some x =>
      obtain ⟨s, q0⟩ := x
      simp only [e0] at h
      cases e1 : S q0 c with
      | none => simp [e1] at h
      | some x =>
        obtain ⟨n1, q1, d1⟩ := x
        simp only [e1] at h
        cases e2 : spPairs W S k q1 d1 with
        | none => simp [e2] at h
        | some y =>
          obtain ⟨ks1, m, z, d2⟩ := y
          simp only [e2, Option.some.injEq, Prod.mk.injEq] at h
          obtain ⟨rfl, rfl, rfl, rfl⟩ := h
          obtain ⟨w1, w2⟩ := HW _ _ _ e0
          obtain ⟨a1, a2, a3, a4⟩ := H _ _ _ _ _ hc e1
          obtain ⟨b1, b2, b3, b4, b5, b6, b7⟩ := ih a3 e2
          refine ⟨?_, b2, by simp [b3], fun i hi => ?_, by omega, by simp [b6], fun i hi => ?_⟩
          · rw [sumL_cons, rowAt_cons]
            show d2 = c + (n1.length + _)
            omega
          · cases i with
            | zero => exact a1
            | succ i => exact b4 i (by omega)
          · cases i with
            | zero => exact w1
            | succ i => exact b7 i (by omega)
theorem sorted_fine {ks ns : List ByteArray} {ps : List Nat} {l : List (List VN)} (h : sortIn ks ks.length = some (ns, ps)) (hl : ∀ i, i < ks.length → SmNs (rowAt l i)) (hk : ∀ i, i < ks.length → (keyAt ks i).size ≤ 60) (h80 : ks.length ≤ 80) :
    ns.length = ks.length ∧ ps.length = ks.length ∧ (∀ i, i < ks.length → ps.getD i 0 < ks.length) ∧ (∀ i, i < ks.length → SmNs (rowAt l (ps.getD i 0))) ∧ (∀ i, i < ns.length → (keyAt ns i).size ≤ 60) ∧ (catNs (fun j => rowAt l (ps.getD j 0)) ks.length).length = sumL (rowAt l) ks.length := by
  obtain ⟨h1, h2⟩ := sortIn_len h
  obtain ⟨s1, s2⟩ := srt_sorted h
  have hp : ∀ i, i < ks.length → ps.getD i 0 < ks.length := fun i hi => by have := srt_lt hi; rw [s1] at this; exact this
  refine ⟨h1, h2, hp, fun i hi => hl _ (hp i hi), fun i hi => ?_, ?_⟩
  · obtain ⟨j, a1, a2⟩ := sortIn_keys h _ (keyAt_mem hi)
    rw [a2]; exact hk j a1
  · rw [cat_sum, ← s1, sumL_perm (rowAt l) (srt_perm ks)]
theorem row_fine {W : Nat → Option (ByteArray × Nat)} {S : Nat → Nat → Option (List VN × Nat × Nat)} (HW : WOk W) (H : SpOk S) {named : Bool} {many deep p c : Nat} {ns : List VN} {q d : Nat} (h1 : 1 ≤ c) (hc : c ≤ 80) (h : spRow W S named many deep p c = some (ns, q, d)) : SmNs ns ∧ d + 1 = c + ns.length ∧ d ≤ 80 ∧ p ≤ q := by
  unfold spRow at h
  split at h
  · cases h
  rename_i hm
  cases named
  · simp only [Bool.false_eq_true, if_false] at h
    cases e : spItems S many p c with
    | none => simp [e] at h
    | some x =>
      obtain ⟨l, q1, d1⟩ := x
      simp only [e, Option.some.injEq, Prod.mk.injEq] at h
      obtain ⟨rfl, rfl, rfl⟩ := h
      obtain ⟨b1, b2, b3, b4, b5⟩ := items_fine H hc e
      refine ⟨sm_make (by rw [b3]; exact b4) (by rw [cat_sum, b3]; omega) (by omega) (by omega) (by simp) (fun i hi => absurd hi (by simp)), by rw [make_len, cat_sum, b3]; omega, b2, b5⟩
  · simp only [if_true] at h
    cases e : spPairs W S many p c with
    | none => simp [e] at h
    | some x =>
      obtain ⟨ks, l, q1, d1⟩ := x
      simp only [e] at h
      cases es : sortIn ks ks.length with
      | none => simp [es] at h
      | some y =>
        obtain ⟨nk, ps⟩ := y
        simp only [es, Option.some.injEq, Prod.mk.injEq] at h
        obtain ⟨rfl, rfl, rfl⟩ := h
        obtain ⟨b1, b2, b3, b4, b5, b6, b7⟩ := pairs_fine HW H hc e
        subst b6
        obtain ⟨s1, s2, s3, s4, s5, s6⟩ := sorted_fine es b4 b7 (by omega)
        refine ⟨sm_make s4 (by rw [s6]; omega) (by omega) (by omega) (by omega) s5, by rw [make_len, s6]; omega, b2, b5⟩
theorem big_fine {L : List UInt8} {p m n q : Nat} (h : bigS L p m = some (n, q)) (hm : 1 ≤ m) : n ≤ 256000000000000255 ∧ p < q ∧ q ≤ L.length := by
  unfold bigS maxI at h
  split at h
  · rename_i g
    simp only [Option.some.injEq, Prod.mk.injEq] at h
    obtain ⟨rfl, rfl⟩ := h
    obtain ⟨m, rfl⟩ : ∃ k, m = k + 1 := ⟨m - 1, by omega⟩
    rw [Nat.add_sub_cancel] at g
    have := byAt_lt L (p + m)
    rw [bigN]
    omega
  · cases h
theorem head_fine {L : List UInt8} {p n q : Nat} (hp : p < L.length) (h : headS L p = some (n, q)) : n ≤ 256000000000000255 ∧ p < q ∧ q ≤ L.length := by
  unfold headS at h
  split at h
  · simp only [Option.some.injEq, Prod.mk.injEq] at h
    obtain ⟨rfl, rfl⟩ := h
    omega
  · split at h
    · have := big_fine h (two_pos _); omega
    · cases h
theorem take_fine {L : List UInt8} {p n : Nat} {s : ByteArray} {q : Nat} (h : takeS L n p = some (s, q)) : s.size ≤ 60 ∧ p ≤ q ∧ q ≤ L.length ∧ n ≤ 60 ∧ q = p + n ∧ s = cutT L p n := by
  unfold takeS at h
  split at h
  · simp only [Option.some.injEq, Prod.mk.injEq] at h
    obtain ⟨rfl, rfl⟩ := h
    refine ⟨?_, by omega, by omega, by omega, rfl, rfl⟩
    rw [cutT_size (by omega)]; omega
  · cases h
theorem wok_cbor (L : List UInt8) (f : Nat) : WOk (spWc L f) := by
  intro p s q h
  cases f with
  | zero => simp [spWc] at h
  | succ f =>
    rw [spWc] at h
    split at h
    · cases h
    cases e : headS L p with
    | none => simp [e] at h
    | some x =>
      obtain ⟨n, r⟩ := x
      simp only [e] at h
      split at h
      · have h1 := head_fine (by omega) e
        have h2 := take_fine h
        exact ⟨h2.1, by omega⟩
      · cases h
theorem ok_cbor (L : List UInt8) : ∀ f deep, SpOk (spC L f deep) := by
  intro f
  induction f with
  | zero => intro deep p c ns q d _ h; simp [spC] at h
  | succ f ih =>
    intro deep p c ns q d hc h
    rw [spC] at h
    split at h
    · cases h
    rename_i hg
    have leaf : ∀ {k n : Int} {s : ByteArray} {q' : Nat}, some (leafN k n s, q', c + 1) = some (ns, q, d) → 0 ≤ k ∧ k ≤ 6 → -9223372036854775808 ≤ n ∧ n ≤ 9223372036854775807 → s.size ≤ 60 → p < q' → SmNs ns ∧ d = c + ns.length ∧ d ≤ 80 ∧ p < q := fun h h1 h2 h3 h4 => by
      simp only [Option.some.injEq, Prod.mk.injEq] at h
      obtain ⟨rfl, rfl, rfl⟩ := h
      exact ⟨sm_leaf h1 h2 h3, rfl, by omega, h4⟩
    split at h
    · exact leaf h (by decide) (by decide) (by decide) (by omega)
    split at h
    · exact leaf h (by decide) (by decide) (by decide) (by omega)
    split at h
    · exact leaf h (by decide) (by decide) (by decide) (by omega)
    cases e : headS L p with
    | none => simp [e] at h
    | some x =>
      obtain ⟨n, r⟩ := x
      simp only [e] at h
      have h1 := head_fine (by omega) e
      unfold kindS at h
      split at h
      · exact leaf h (by decide) (by omega) (by decide) (by omega)
      split at h
      · exact leaf h (by decide) (by omega) (by decide) (by omega)
      split at h
      · unfold wordS at h
        cases e2 : takeS L n r with
        | none => simp [e2] at h
        | some y =>
          obtain ⟨s, z⟩ := y
          simp only [e2] at h
          have h2 := take_fine e2
          exact leaf h (by decide) (by decide) h2.1 (by omega)
      split at h
      · have := row_fine (wok_cbor L f) (ih (deep + 1)) (by omega) (by omega) h; exact ⟨this.1, by omega, by omega, by omega⟩
      split at h
      · have := row_fine (wok_cbor L f) (ih (deep + 1)) (by omega) (by omega) h; exact ⟨this.1, by omega, by omega, by omega⟩
      · cases h
end Go.Proofs.YtokhindolimchaaGreat

/-
  The specification's l3Rc: rows.
-/
namespace Go.Proofs.YtokhindolimchaaGreat
open Go.RowKit
set_option linter.unusedSimpArgs false
set_option linter.unusedVariables false

/-- A value is read, as S says; or the reader is spoilt. -/
def ValOr (rb : Nat) (s : ByteArray) (S : Option (List VN × Nat × Nat)) (w : World) (e : Ending) (w' : World) : Prop :=
  ∃ a n c, e = .returned (.slice a n c) ∧ But rb w w' ∧ ((∃ ns q d KV IV, S = some (ns, q, d) ∧ ns.length = n ∧ Nest w.heap.size w' (.slice a n c) ns KV IV ∧ ScAt w' rb s q false d) ∨ (S = none ∧ ∃ d, d ≤ 81 ∧ Spoilt w' rb s d))
theorem But.from {rb base : Nat} {w w' : World} (h : But rb w w') (hr : rb < base) : From base w w' := ⟨h.size, fun c h1 h2 => h.block c h2 (by omega)⟩
theorem But.far {rb base : Nat} {w a b : World} (h : But rb w a) (k : Below base a b) (hb : w.heap.size ≤ base) : But rb w b := h.next (k.mono hb)
theorem rowAt_snoc {l : List (List VN)} {ns : List VN} {k : Nat} (hl : l.length = k) (i : Nat) (hi : i < k + 1) : rowAt (l ++ [ns]) i = updF (rowAt l) k ns i := by
  unfold updF
  show (l ++ [ns]).getD i [] = if i = k then ns else l.getD i []
  rw [List.getD_eq_getElem?_getD, List.getD_eq_getElem?_getD]
  split
  · rename_i e; subst e; rw [List.getElem?_append_right (by omega), hl, Nat.sub_self]; rfl
  · rw [List.getElem?_append_left (by omega)]

set_option maxRecDepth 100000 in
set_option maxHeartbeats 6400000 in
theorem row_over {rb p c many deep : Nat} {s : ByteArray} {w : World} {named : Bool} (h : ScAt w rb s p false c) (hc : c ≤ 81) (hmn : many ≤ 256000000000000255) (hd : deep ≤ 9) (ho : 80 < many ∨ 8 < deep) :
    Calls Tryz.prog 62 #[.pointer (some ⟨rb, 0, none⟩), .int .i64 many, .bool named, .int .i64 deep] w fun e w' => ∃ a n k, e = .returned (.slice a n k) ∧ But rb w w' ∧ Spoilt w' rb s c := by
  have hrb := h.lt
  have H := hideB h
  have f2 := h.free 2
  have c2 := h.cells.2.2.1
  clear h
  have HSA := hideB (H.out.setB true)
  have hsz : (w.setCell ⟨rb, 2, none⟩ (.bool true)).heap.size = w.heap.size := by simp
  have HBA := hideB (((Below.refl (w.setCell ⟨rb, 2, none⟩ (.bool true)).heap.size (w.setCell ⟨rb, 2, none⟩ (.bool true))).alloc (Nat.le_refl _) (.cells #[] 9)).alloc (o := .cells #[] 25) (by simp))
  have HSB := hideB (HSA.out.below HBA.out)
  have HBU := hideB ((But.of_set (rb := rb) (a := w) 2 (.bool true)).trans (But.of_below HBA.out))
  clear HSA hsz
  have o1 : ¬ (many : Int) < 0 := by omega
  by_cases o2 : 80 < many
  focus
    have o2' : (80 : Int) < (many : Int) := by omega
    go_enter Tryz.func62, Tryz.ntmps62
    go_wp2_with fail
  rotate_left
  focus
    have o2' : ¬ (80 : Int) < (many : Int) := by omega
    have o3 : (8 : Int) < (deep : Int) := by omega
    go_enter Tryz.func62, Tryz.ntmps62
    go_wp2_with fail
  all_goals
    clear HBA
    generalize ((w.setCell ⟨rb, 2, none⟩ (.bool true)).alloc (.cells #[] 9)).alloc (.cells #[] 25) = W1 at HSB HBU ⊢
    clear f2 c2
    go_loopw [9, 10, 11, 12, 13] (fun _ _ i _ _ wr => i = .int .i64 0 ∧ wr = W1) (fun _ _ i _ _ _ => 1)
    case atStart => exact ⟨rfl, rfl⟩
    case round =>
      obtain ⟨rfl, rfl⟩ := hrel
      have k2 := HSB.out.cells.2.2.1
      have HN := hideB (sNull_any wr)
      rcases Nat.eq_zero_or_pos many with hm | hm
      focus
        first
          | (exfalso; omega)
          | (subst hm; go_wp2_with fail)
      rotate_left
      focus
        have hm' : (0 : Int) < (many : Int) := by omega
        go_wp2_with fail
      all_goals
        refine HN.out.mono ?_
        rintro e w2 ⟨rfl, _, hb⟩
        have HB2 := hideB hb
        clear hb
        go_wp2_with fail
        go_ret
        exact ⟨_, _, _, rfl, HBU.out.trans (But.of_below HB2.out), _, HSB.out.below HB2.out⟩
end Go.Proofs.YtokhindolimchaaGreat

/-
  The specification's l3Rc: lists.
-/
namespace Go.Proofs.YtokhindolimchaaGreat
open Go.RowKit
set_option linter.unusedSimpArgs false
set_option linter.unusedVariables false

theorem ScAt.far {base : Nat} {w w' : World} {rb p c : Nat} {s : ByteArray} {bad : Bool} (h : ScAt w rb s p bad c) (hb : Below base w w') (hr : rb < base) : ScAt w' rb s p bad c := h.keep (hb.block rb hr)
theorem Spoilt.far {base : Nat} {w w' : World} {rb c : Nat} {s : ByteArray} (h : Spoilt w rb s c) (hb : Below base w w') (hr : rb < base) : Spoilt w' rb s c := by obtain ⟨p, hp⟩ := h; exact ⟨p, hp.far hb hr⟩

theorem spRow_list_no {W : Nat → Option (ByteArray × Nat)} {S : Nat → Nat → Option (List VN × Nat × Nat)} {many deep p c : Nat} (hm : many ≤ 80) (hd : deep ≤ 8) (h : spItems S many p c = none) : spRow W S false many deep p c = none := by
  unfold spRow; rw [if_neg (by omega)]; simp [h]
theorem spRow_list_yes {W : Nat → Option (ByteArray × Nat)} {S : Nat → Nat → Option (List VN × Nat × Nat)} {many deep p c : Nat} {l : List (List VN)} {q d : Nat} (hm : many ≤ 80) (hd : deep ≤ 8) (h : spItems S many p c = some (l, q, d)) : spRow W S false many deep p c = some (makeNs 5 [] (rowAt l) l.length, q, d) := by
  unfold spRow; rw [if_neg (by omega)]; simp [h]

set_option maxRecDepth 100000 in
set_option maxHeartbeats 6400000 in
theorem row_list {rb p c many deep : Nat} {s : ByteArray} {w : World} {W : Nat → Option (ByteArray × Nat)} {S : Nat → Nat → Option (List VN × Nat × Nat)} (h : ScAt w rb s p false c) (h1 : 1 ≤ c) (hc : c ≤ 80) (hmn : many ≤ 80) (hd : deep ≤ 8) (HS : SpOk S)
    (hv : ∀ w q d, ScAt w rb s q false d → d ≤ 80 → p ≤ q → Calls Tryz.prog 29 #[.pointer (some ⟨rb, 0, none⟩), .int .i64 deep] w (ValOr rb s (S q d) w)) :
    Calls Tryz.prog 62 #[.pointer (some ⟨rb, 0, none⟩), .int .i64 many, .bool false, .int .i64 deep] w (ValOr rb s (spRow W S false many deep p c) w) := by
  have hrb := h.lt
  have H := hideB h
  have HV := hideB hv
  have HSS := hideB HS
  clear h hv HS
  obtain ⟨i2, hi2, hzz2, hs2, hy2⟩ := info_parts infoRowV
  have o1 : ¬ (many : Int) < 0 := by omega
  have o2 : ¬ (80 : Int) < (many : Int) := by omega
  have o3 : ¬ (8 : Int) < (deep : Int) := by omega
  go_enter Tryz.func62, Tryz.ntmps62
  go_wp2_with fail
  have hba : Below w.heap.size w ((w.alloc (.cells #[] 9)).alloc (.cells #[] 25)) := ((Below.refl _ _).alloc (Nat.le_refl _) _).alloc (by simp) _
  have HRA : Hid (((w.alloc (.cells #[] 9)).alloc (.cells #[] 25)).ownsRow w.heap.size 25 1 (.slice (some ⟨w.heap.size + 1, 0, none⟩) 0 0) 0 []) := by
    have := World.ownsRow_lit (base := w.heap.size) (e := 25) (size := 1) (w.alloc (.cells #[] 9)) #[] 0 (by simp) (by simp [maxLen]) rfl
    simpa [Hid] using this
  have HDA := hideB (H.out.below hba)
  have HBA := hideB (But.of_below (rb := rb) hba)
  have hsA : w.heap.size ≤ ((w.alloc (.cells #[] 9)).alloc (.cells #[] 25)).heap.size := by simp; omega
  have HR0 := hideB (Rows2.start HRA.out hsA (rowAt []))
  generalize (w.alloc (.cells #[] 9)).alloc (.cells #[] 25) = WA at HDA HBA hsA HR0 ⊢
  clear hba HRA
  go_loopw [9, 10, 11, 12, 13] (fun _ lv i _ _ wr => ∃ j : Nat, j ≤ many ∧ i = .int .i64 j ∧ But rb w wr ∧ w.heap.size ≤ wr.heap.size ∧ ((∃ (l : List (List VN)) (q d : Nat) (rs : Nat → Value) (KV IV : Nat → Nat → Value) (lo : Nat → Nat), spItems S j p c = some (l, q, d) ∧ ScAt wr rb s q false d ∧ Rows2 w.heap.size wr lv j (rowAt l) rs KV IV lo) ∨ (spItems S many p c = none ∧ ∃ d, d ≤ 81 ∧ Spoilt wr rb s d))) (fun _ _ i _ _ _ => many - (intOf i).toNat)
  case atStart => exact ⟨0, Nat.zero_le _, rfl, HBA.out, hsA, .inl ⟨[], p, c, _, _, _, _, rfl, HDA.out, HR0.out⟩⟩
  case round =>
    obtain ⟨j, hj, rfl, hbt, hzr, hor⟩ := hrel
    have HBT := hideB hbt
    clear hbt HR0 HDA HBA hsA
    rcases hor with ⟨l, q, d, rs, KV, IV, lo, hit, hsc, hrw⟩ | ⟨hno, d, hd81, hsp⟩
    rotate_left
    · have HNO : Hid (spRow W S false many deep p c = none) := spRow_list_no hmn hd hno
      obtain ⟨pp, hsp⟩ := hsp
      have k2 := hsp.cells.2.2.1
      have HSC := hideB hsp
      have HN := hideB (sNull_any wr)
      clear hno hsp
      by_cases hm : j < many
      focus
        have hm' : (j : Int) < (many : Int) := by omega
        go_wp2_with fail
      rotate_left
      focus
        have hm' : ¬ (j : Int) < (many : Int) := by omega
        go_wp2_with fail
      all_goals
        refine HN.out.mono ?_
        rintro e w2 ⟨rfl, _, hb⟩
        have HB2 := hideB hb
        clear hb
        go_wp2_with fail
        go_ret
        exact ⟨_, _, _, rfl, HBT.out.trans (But.of_below HB2.out), .inr ⟨HNO.out, d, hd81, _, HSC.out.below HB2.out⟩⟩
    have HF := hideB (items_fine HSS.out hc hit)
    have hdd : d ≤ 80 := HF.out.2.1
    have hpq : p ≤ q := HF.out.2.2.2.2
    have HIT := hideB hit
    have HSC := hideB hsc
    have k2 := hsc.cells.2.2.1
    have HR := hideB hrw
    obtain ⟨ao, co, eo⟩ := own_slice hrw.row
    subst eo
    clear hit hsc hrw
    by_cases hm : j < many
    · have hm' : (j : Int) < (many : Int) := by omega
      have HCV := hideB (HV.out wr q d HSC.out hdd hpq)
      go_wp2_with fail
      refine HCV.out.mono ?_
      rintro e w3 ⟨ar, Lk, cr, rfl, hb3, hor⟩
      have HOR := hideB hor
      have HB3 := hideB hb3
      have HFR := hideB (hb3.from hrb)
      have z3 := hb3.size
      have HRO := hideB (HR.out.from HFR.out).row
      clear hor hb3 HCV k2
      go_wp2_with (at_builtin; refine wpList_append_own_at _ rfl _ _ 76 rfl w.heap.size 25 i2 (.slice none 0 0) 1 24 Tryz.underlying76 hi2 hzz2 hs2 hy2 rfl (by decide) _ _ _ rfl (HRO.out.alloc _) ⟨w3.heap.size, 0, none⟩ 1 1 [.slice ar Lk cr] rfl rfl ?c1 ?c2 ?c3 ?c4 ?c5 ?_)
      case c1 => exact cell_one_new _ _ _
      case c2 => intro u hu; simp at hu; subst hu; rfl
      case c3 => unfold maxLen; omega
      case c4 => omega
      case c5 => simp; omega
      intro v' w5 hown hgrow _ _
      have hb5 : Below w.heap.size w3 w5 := ((Below.refl w.heap.size w3).alloc (by omega) _).grown hgrow (by simp; omega) (fun y hy => (HRO.out.lt y hy).1)
      have HBT5 := hideB ((HBT.out.trans HB3.out).far hb5 (Nat.le_refl _))
      have z5 := hb5.size
      have HFIN : Hid ((∃ (l : List (List VN)) (q d : Nat) (rs : Nat → Value) (KV IV : Nat → Nat → Value) (lo : Nat → Nat), spItems S (j + 1) p c = some (l, q, d) ∧ ScAt w5 rb s q false d ∧ Rows2 w.heap.size w5 v' (j + 1) (rowAt l) rs KV IV lo) ∨ (spItems S many p c = none ∧ ∃ d, d ≤ 81 ∧ Spoilt w5 rb s d)) := by
        rcases HOR.out with ⟨ns, q3, d3, KV3, IV3, hs3, hl3, hn3, hsc3⟩ | ⟨hs3, d3, hd3, hsp3⟩
        · subst hl3
          have hl := HF.out.2.2.1
          have HRC := HR.out.congr (L' := updF (rowAt l) j ns) (fun i hi => updF_other _ _ (by omega))
          have HR5 := HRC.snocF HFR.out (by rw [updF_same]; exact hn3) hown hgrow
          exact .inl ⟨l ++ [ns], q3, d3, _, _, _, _, spItems_snoc HIT.out hs3, hsc3.far hb5 hrb, HR5.congr (fun i hi => rowAt_snoc hl i hi)⟩
        · exact .inr ⟨spItems_stop HIT.out hs3 hm, d3, hd3, hsp3.far hb5 hrb⟩
      obtain ⟨a5, c5, e5⟩ := own_slice hown
      subst e5
      clear hown hgrow hb5
      go_wp2_with fail
      go_roundw
      case rel => exact ⟨j + 1, by omega, by go_num, HBT5.out, by omega, HFIN.out⟩
      case measure => simp [intOf]; omega
    · obtain rfl : j = many := by omega
      have hm' : ¬ (j : Int) < (j : Int) := by omega
      have hl := HF.out.2.2.1
      have HYES : Hid (spRow W S false j deep p c = some (makeNs 5 [] (rowAt l) j, q, d)) := by have := spRow_list_yes (W := W) hmn hd HIT.out; rw [hl] at this; exact this
      have hcat : (catNs (rowAt l) j).length + 1 ≤ 100000 := by have := HF.out.1; rw [cat_sum]; omega
      have HLL := hideB hl
      have HCL := hideB (l1Make_any wr.heap.size 5 (.slice none 0 0) (.slice ao j co) [] j (rowAt l) wr ⟨by simp, fun i hi => absurd hi (by simp), none, 0, rfl, fun h => absurd h (by simp)⟩ (HR.out.rows (by omega) (fun i hi => (HF.out.2.2.2.1 i hi).few)) (Nat.le_refl _) (by omega) (by simp) hcat (fun i hi => (HF.out.2.2.2.1 i hi).near))
      clear hl hcat
      go_wp2_with fail
      refine HCL.out.mono ?_
      rintro e w6 ⟨r, KV6, IV6, rfl, hn6, hb6⟩
      have HN6 := hideB (hn6.low hzr)
      have HB6 := hideB hb6
      obtain ⟨ar, cr, er⟩ := own_slice hn6.row
      obtain ⟨M, hM⟩ : ∃ M, (makeNs 5 [] (rowAt l) j).length = M := ⟨_, rfl⟩
      have HM := hideB hM
      rw [hM] at er
      subst er
      clear hn6 hb6 hM
      go_wp2_with fail
      go_ret
      exact ⟨_, _, _, rfl, HBT.out.trans (But.of_below HB6.out), .inl ⟨_, _, _, KV6, IV6, HYES.out, HM.out, HN6.out, HSC.out.below HB6.out⟩⟩
end Go.Proofs.YtokhindolimchaaGreat
