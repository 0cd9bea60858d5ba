/-
  slices' symMerge at rows of numbers, with the closure of sortedPlaces: two rows that rise become one.
-/
import Derived.Test.YtpfnkpkcjefelaaStbQ
import Derived.Test.YtpfnkpkcjefelaaStbW
import Derived.Deep.QuietTactic
namespace Go.Proofs.Ytpfnkpkcjefelaa
open Go.RowKit
set_option linter.unusedSimpArgs false
set_option linter.unusedVariables false

/-- The closure that compares two places: it turns nothing. -/
def CmpAt (g N : Nat) (w0 : World) (c1 c2 : Value) (cf : Int → Int → Int) : Prop :=
  ∀ W, Sw g w0 W → ∀ x y : Int, 0 ≤ x → x < N → 0 ≤ y → y < N → Calls Try.prog 116 #[.int .i64 x, .int .i64 y, c1, c2] W fun e W' => e = .returned (.int .i64 (cf x y)) ∧ ∃ n, W' = W.drewN n

def NumsIn (f : Nat → Int) (N : Nat) : Prop := ∀ p, p < N → 0 ≤ f p ∧ f p < N

theorem Merged.vals {R : Int → Int → Prop} {f f' : Nat → Int} {a b N : Nat} (h : Merged R f f' a b) (hv : NumsIn f N) (hb : b ≤ N) : NumsIn f' N := fun p hp => by
  by_cases c : a ≤ p ∧ p < b
  · obtain ⟨q, q1, q2, q3⟩ := h.inn p c.1 c.2
    rw [q3]; exact hv q (by omega)
  · rw [h.out p (by omega)]; exact hv p hp

theorem rot_vals {s m e N : Nat} {f : Nat → Int} (hv : NumsIn f N) (h1 : s ≤ m) (h2 : m ≤ e) (h3 : e ≤ N) : NumsIn (rot s m e f) N := fun p hp => by
  obtain ⟨q, q1, q2, q3⟩ := rot_inn (f := f) h1 h2 (Nat.zero_le s) h3 p (Nat.zero_le _) hp
  rw [q3]; exact hv q q2

/-- What is asked of a merge. -/
structure Asked (R : Int → Int → Prop) (cf : Int → Int → Int) (g N : Nat) (w0 : World) (c1 c2 : Value) (f : Nat → Int) (a m b : Nat) (w : World) : Prop where
  tot : Tot R
  cmp : CmpAt g N w0 c1 c2 cf
  cr : ∀ x y : Int, x < y → (cf y x < 0 ↔ R y x)
  row : w.rowIs g 3 N (nums f)
  sw : Sw g w0 w
  val : NumsIn f N
  am : a < m
  mb : m < b
  bN : b ≤ N
  NN : N ≤ 1099511627776
  r1 : Rises R f a m
  r2 : Rises R f m b
  cx : Cross f a m b

set_option maxRecDepth 100000 in
set_option maxHeartbeats 6400000 in
theorem symMerge_1 (R : Int → Int → Prop) (cf : Int → Int → Int) (g N cap : Nat) (w0 : World) (c1 c2 : Value) (f : Nat → Int) (a m b : Nat) (w : World) (h : Asked R cf g N w0 c1 c2 f a m b w) (hm : m = a + 1) :
    Calls Try.prog 126 #[.slice (some ⟨g, 0, none⟩) N cap, .int .i64 a, .int .i64 m, .int .i64 b, .func (.func 116) #[] #[c1, c2]] w fun e w' => e = .returned (.tuple #[]) ∧ ∃ f', w'.rowIs g 3 N (nums f') ∧ Merged R f f' a b ∧ Sw g w0 w' := by
  have H := hideIt h
  have hab := h.mb
  have hbN := h.bN
  have hNN := h.NN
  clear h
  have hone : ((m : Int) - (a : Int) == 1) = true := by rw [beq_iff_eq]; omega
  have h1a : a + 1 ≤ m := by omega
  have h1b : m ≤ a + 1 := by omega
  have HM1 := hideIt hm
  clear hm
  go_enter Try.func126, Try.ntmps126
  go_wp2_with fail
  go_loopw [10, 11] (fun vi vj wr => ∃ i j : Nat, vi = .int .i64 i ∧ vj = .int .i64 j ∧ m ≤ i ∧ i ≤ j ∧ j ≤ b ∧ Hid (∀ q, m ≤ q → q < i → R (f q) (f a)) ∧ Hid (∀ q, j ≤ q → q < b → R (f a) (f q)) ∧ wr.rowIs g 3 N (nums f) ∧ Sw g w0 wr) (fun vi vj _ => (intOf vj).toNat - (intOf vi).toNat)
  case atStart => exact ⟨m, b, rfl, rfl, Nat.le_refl _, by omega, Nat.le_refl _, fun q h1 h2 => absurd h1 (by omega), fun q h1 h2 => absurd h1 (by omega), H.out.row, H.out.sw⟩
  case round =>
    obtain ⟨i, j, rfl, rfl, hai, hij, hjb, HL, HG, hrow, hsw⟩ := hrel
    by_cases hlt : i < j
    case pos =>
      obtain ⟨x, hx⟩ : ∃ x : Nat, x = (i + j) / 2 := ⟨_, rfl⟩
      have x1 : i ≤ x := by omega
      have x2 : x < j := by omega
      have p0 : ((i : Int) + (j : Int)) / 2 = (x : Int) := by omega
      have hxN : x < N := by omega
      have haN : a < N := by omega
      have d1 := hrow.cell hxN
      have d2 := hrow.cell haN
      unfold nums at d1 d2
      have v1 := H.out.val x hxN
      have v2 := H.out.val a haN
      obtain ⟨v11, v12⟩ := v1
      obtain ⟨v21, v22⟩ := v2
      have HCR := hideIt (H.out.cr (f a) (f x) (H.out.cx a x (Nat.le_refl _) (by omega) (by omega) (by omega)))
      have HLT := hideIt (H.out.cx a x (Nat.le_refl _) (by omega) (by omega) (by omega))
      have HF := hideIt (find_1 H.out.tot (a := a) H.out.r2 (h := x) (by omega) (by omega))
      have HROW := hideIt hrow
      have HSW := hideIt hsw
      clear hx hrow hsw
      by_cases hc : cf (f x) (f a) < 0
      · have HL2 : Hid (∀ q, m ≤ q → q < x + 1 → R (f q) (f a)) := fun q h1 h2 => HF.out.1 (HCR.out.1 hc) q h1 (by omega)
        go_wp2_with fail
        go_quiet ((go_at_call 116; exact Calls.quiet_of (H.out.cmp _ (HSW.out.drewN _) (f x) (f a) v11 v12 v21 v22)))
        go_wp2_with fail
        go_roundw
        case rel => exact ⟨x + 1, j, by go_num, rfl, by omega, by omega, hjb, HL2, HG, HROW.out, HSW.out.drewN nq⟩
        case measure => simp [intOf]; omega
      · have HG2 : Hid (∀ q, x ≤ q → q < b → R (f a) (f q)) := fun q h1 h2 => HF.out.2 (not_ahead H.out.tot HLT.out (fun hr => hc (HCR.out.2 hr))) q h1 h2
        go_wp2_with fail
        go_quiet ((go_at_call 116; exact Calls.quiet_of (H.out.cmp _ (HSW.out.drewN _) (f x) (f a) v11 v12 v21 v22)))
        go_wp2_with fail
        go_roundw
        case rel => exact ⟨i, x, rfl, rfl, hai, x1, by omega, HL, HG2, HROW.out, HSW.out.drewN nq⟩
        case measure => simp [intOf]; omega
    case neg =>
    obtain rfl : i = j := by omega
    have HM : Hid (Merged R f (rot a m i f) a b) := merged_1 (by omega) hai hjb H.out.r1 H.out.r2 (fun p q h1 h2 h3 h4 => by
        obtain rfl : p = a := by omega
        exact HL.out q h3 h4) (fun p q h1 h2 h3 h4 => by
        obtain rfl : p = a := by omega
        exact HG.out q h3 h4)
    have ei : (i : Int) - 1 = ((i - 1 : Nat) : Int) := by omega
    obtain ⟨i1, hi1⟩ : ∃ i1, i = i1 + 1 := ⟨i - 1, by omega⟩
    subst hi1
    have ei2 : ((i1 + 1 : Nat) : Int) - 1 = (i1 : Int) := by omega
    clear ei
    obtain ⟨W0, rfl⟩ : ∃ W0, W0 = wr := ⟨_, rfl⟩
    have HROW := hideIt hrow
    have HSW := hideIt hsw
    clear hrow hsw hlt
    go_wp2_with fail
    go_loopw [13] (fun vk wr => ∃ k : Nat, vk = .int .i64 k ∧ a ≤ k ∧ k ≤ i1 ∧ wr.rowIs g 3 N (nums (rot a m (k + 1) f)) ∧ Sw g w0 wr) (fun vk _ => i1 - (intOf vk).toNat)
    case atStart => exact ⟨a, rfl, Nat.le_refl _, by omega, HROW.out.congr fun p _ => by unfold nums; rw [rot_none (Or.inr HM1.out) (by omega) (by omega)], HSW.out⟩
    case round =>
      obtain ⟨k, rfl, hak, hki, hrow, hsw⟩ := hrel
      by_cases hlt : k < i1
      · have q1 := hrow.cell (i := k) (by omega)
        have q2 := hrow.cell (i := k + 1) (by omega)
        have f1 := hrow.frozen k
        have f2 := hrow.frozen (k + 1)
        unfold nums at q1 q2
        have hkN : k < N := by omega
        have hk1N : k + 1 < N := by omega
        have t1 : ((k : Int) + 1).toNat = k + 1 := by omega
        have b1 : (k : Int) + 1 < (N : Int) := by omega
        obtain ⟨u, hu⟩ : ∃ u, rot a m (k + 1) f k = u := ⟨_, rfl⟩
        obtain ⟨v, hv⟩ : ∃ v, rot a m (k + 1) f (k + 1) = v := ⟨_, rfl⟩
        rw [hu] at q1
        rw [hv] at q2
        have HNEW : Hid (((wr.setCell ⟨g, k, none⟩ (.int .i64 v)).setCell ⟨g, k + 1, none⟩ (.int .i64 u)).drew.rowIs g 3 N (nums (rot a m (k + 1 + 1) f))) := by
          refine (nums_set2 hrow k (k + 1) v u).congr fun p _ => ?_
          unfold nums
          rw [HM1.out] at hu hv ⊢; rw [← rot_up hak f p, hu, hv]
        have HO := hideIt ((hsw.set k (.int .i64 v)).set (k + 1) (.int .i64 u)).drew
        clear hrow hsw hu hv
        go_wp2_with fail
        go_region
        all_goals
          go_wp2_with fail
          go_roundw
          case rel => exact ⟨k + 1, by go_num, by omega, by omega, HNEW.out, HO.out⟩
          case measure => simp [intOf]; omega
      · obtain rfl : k = i1 := by omega
        go_wp2_with fail
        refine ⟨rfl, .tuple #[], results_none rfl _ _ _, rfl, _, hrow, HM.out, hsw⟩
end Go.Proofs.Ytpfnkpkcjefelaa

/-
  slices' symMerge where the second row is of one cell.
-/
namespace Go.Proofs.Ytpfnkpkcjefelaa
open Go.RowKit
set_option linter.unusedSimpArgs false
set_option linter.unusedVariables false

set_option maxRecDepth 100000 in
set_option maxHeartbeats 6400000 in
theorem symMerge_2 (R : Int → Int → Prop) (cf : Int → Int → Int) (g N cap : Nat) (w0 : World) (c1 c2 : Value) (f : Nat → Int) (a m b : Nat) (w : World) (h : Asked R cf g N w0 c1 c2 f a m b w) (hm : a + 1 < m) (hb : b = m + 1) :
    Calls Try.prog 126 #[.slice (some ⟨g, 0, none⟩) N cap, .int .i64 a, .int .i64 m, .int .i64 b, .func (.func 116) #[] #[c1, c2]] w fun e w' => e = .returned (.tuple #[]) ∧ ∃ f', w'.rowIs g 3 N (nums f') ∧ Merged R f f' a b ∧ Sw g w0 w' := by
  have H := hideIt h
  have hab := h.mb
  have hbN := h.bN
  have hNN := h.NN
  clear h
  have hone : ((m : Int) - (a : Int) == 1) = false := by rw [beq_eq_false_iff_ne]; omega
  have hone2 : ((b : Int) - (m : Int) == 1) = true := by rw [beq_iff_eq]; omega
  have h1b : b ≤ m + 1 := by omega
  have HB1 := hideIt hb
  clear hb
  go_enter Try.func126, Try.ntmps126
  go_wp2_with fail
  go_loopw [14, 15] (fun vi vj wr => ∃ i j : Nat, vi = .int .i64 i ∧ vj = .int .i64 j ∧ a ≤ i ∧ i ≤ j ∧ j ≤ m ∧ Hid (∀ p, a ≤ p → p < i → R (f p) (f m)) ∧ Hid (∀ p, j ≤ p → p < m → R (f m) (f p)) ∧ wr.rowIs g 3 N (nums f) ∧ Sw g w0 wr) (fun vi vj _ => (intOf vj).toNat - (intOf vi).toNat)
  case atStart => exact ⟨a, m, rfl, rfl, Nat.le_refl _, by omega, Nat.le_refl _, fun q h1 h2 => absurd h1 (by omega), fun q h1 h2 => absurd h1 (by omega), H.out.row, H.out.sw⟩
  case round =>
    obtain ⟨i, j, rfl, rfl, hai, hij, hjm, HL, HG, hrow, hsw⟩ := hrel
    by_cases hlt : i < j
    case pos =>
      obtain ⟨x, hx⟩ : ∃ x : Nat, x = (i + j) / 2 := ⟨_, rfl⟩
      have x1 : i ≤ x := by omega
      have x2 : x < j := by omega
      have p0 : ((i : Int) + (j : Int)) / 2 = (x : Int) := by omega
      have hxN : x < N := by omega
      have hmN : m < N := by omega
      have d1 := hrow.cell hxN
      have d2 := hrow.cell hmN
      unfold nums at d1 d2
      obtain ⟨v11, v12⟩ := H.out.val x hxN
      obtain ⟨v21, v22⟩ := H.out.val m hmN
      have HLT := hideIt (H.out.cx x m (by omega) (by omega) (Nat.le_refl _) (by omega))
      have HCR := hideIt (H.out.cr (f x) (f m) HLT.out)
      have HROW := hideIt hrow
      have HSW := hideIt hsw
      clear hx hrow hsw
      by_cases hc : cf (f m) (f x) < 0
      · have HG2 : Hid (∀ p, x ≤ p → p < m → R (f m) (f p)) := fun p h1 h2 => (ris_le H.out.tot H.out.r1 (p := x) (q := p) (by omega) h1 h2).2 (HCR.out.1 hc)
        go_wp2_with fail
        go_quiet ((go_at_call 116; exact Calls.quiet_of (H.out.cmp _ (HSW.out.drewN _) (f m) (f x) v21 v22 v11 v12)))
        go_wp2_with fail
        go_roundw
        case rel => exact ⟨i, x, rfl, rfl, hai, x1, by omega, HL, HG2, HROW.out, HSW.out.drewN nq⟩
        case measure => simp [intOf]; omega
      · have HL2 : Hid (∀ p, a ≤ p → p < x + 1 → R (f p) (f m)) := fun p h1 h2 => (ris_le H.out.tot H.out.r1 (p := p) (q := x) h1 (by omega) (by omega)).1 (not_ahead H.out.tot HLT.out (fun hr => hc (HCR.out.2 hr)))
        have hcd : (!decide (cf (f m) (f x) < 0)) = true := by simp; omega
        go_wp2_with fail
        go_quiet ((go_at_call 116; exact Calls.quiet_of (H.out.cmp _ (HSW.out.drewN _) (f m) (f x) v21 v22 v11 v12)))
        go_wp2_with fail
        go_roundw
        case rel => exact ⟨x + 1, j, by go_num, rfl, by omega, by omega, hjm, HL2, HG, HROW.out, HSW.out.drewN nq⟩
        case measure => simp [intOf]; omega
    case neg =>
    obtain rfl : i = j := by omega
    have HM : Hid (Merged R f (rot i m b f) a b) := merged_2 hai hjm (by omega) H.out.r1 H.out.r2 (fun p q h1 h2 h3 h4 => by
        obtain rfl : q = m := by omega
        exact HL.out p h1 h2) (fun p q h1 h2 h3 h4 => by
        obtain rfl : q = m := by omega
        exact HG.out p h1 h2)
    obtain ⟨W0, rfl⟩ : ∃ W0, W0 = wr := ⟨_, rfl⟩
    have HROW := hideIt hrow
    have HSW := hideIt hsw
    clear hrow hsw hlt
    go_wp2_with fail
    go_loopw [17] (fun vk wr => ∃ k : Nat, vk = .int .i64 k ∧ i ≤ k ∧ k ≤ m ∧ wr.rowIs g 3 N (nums (rot k m (m + 1) f)) ∧ Sw g w0 wr) (fun vk _ => (intOf vk).toNat - i)
    case atStart => exact ⟨m, rfl, hjm, Nat.le_refl _, HROW.out.congr fun p _ => by unfold nums; rw [rot_none (Or.inl rfl) (Nat.le_refl _) (by omega)], HSW.out⟩
    case round =>
      obtain ⟨k, rfl, hik, hkm, hrow, hsw⟩ := hrel
      by_cases hlt : i < k
      · obtain ⟨z, hz⟩ : ∃ z, k = z + 1 := ⟨k - 1, by omega⟩
        have q1 := hrow.cell (i := k) (by omega)
        have q2 := hrow.cell (i := z) (by omega)
        have f1 := hrow.frozen k
        have f2 := hrow.frozen z
        unfold nums at q1 q2
        have hkN : k < N := by omega
        have hzN : z < N := by omega
        have e1 : (k : Int) - 1 = (z : Int) := by omega
        obtain ⟨u, hu⟩ : ∃ u, rot k m (m + 1) f k = u := ⟨_, rfl⟩
        obtain ⟨v, hv⟩ : ∃ v, rot k m (m + 1) f z = v := ⟨_, rfl⟩
        rw [hu] at q1
        rw [hv] at q2
        have hne1 : k ≠ z := by omega
        have hne2 : z ≠ k := by omega
        have HNEW : Hid (((wr.setCell ⟨g, k, none⟩ (.int .i64 v)).setCell ⟨g, z, none⟩ (.int .i64 u)).drew.rowIs g 3 N (nums (rot z m (m + 1) f))) := by
          refine (nums_set2 hrow k z v u).congr fun p _ => ?_
          unfold nums
          rw [hz] at hu hv ⊢
          rw [← rot_down (show z + 1 ≤ m by omega) f p, hu, hv]
        have HO := hideIt ((hsw.set k (.int .i64 v)).set z (.int .i64 u)).drew
        have HZ := hideIt hz
        clear hrow hsw hu hv hz
        go_wp2_with fail
        go_region
        all_goals
          go_wp2_with fail
          go_roundw
          case rel => exact ⟨z, by go_num, by have := HZ.out; omega, by have := HZ.out; omega, HNEW.out, HO.out⟩
          case measure => have := HZ.out; simp [intOf]; omega
      · obtain rfl : k = i := by omega
        go_wp2_with fail
        refine ⟨rfl, .tuple #[], results_none rfl _ _ _, rfl, _, hrow, ?_, hsw⟩
        rw [← HB1.out]
        exact HM.out
end Go.Proofs.Ytpfnkpkcjefelaa
