/-
  impl.PartOf: the nodes of the part, in new memory; both answers in one form.
-/
import Derived.Test.YtpfnkpkcjefelaaSPartOf
import Derived.Test.YtpfnkpkcjefelaaWn6
import Derived.Test.YtpfnkpkcjefelaaVOf
namespace Go.Proofs.Ytpfnkpkcjefelaa
open Go.RowKit
set_option linter.unusedSimpArgs false
set_option linter.unusedVariables false

theorem partB_yes {vs : List VN} {n : Int} (h : partB vs n = true) : okB vs = true ∧ ∃ m : Nat, n = m ∧ m < vs.length := by
  unfold partB inB at h
  simp at h
  exact ⟨h.1, n.toNat, by omega, by omega⟩

theorem partB_no {vs : List VN} {n : Int} (h : partB vs n = false) (hok : okB vs = true) : n < 0 ∨ (vs.length : Int) ≤ n := by
  unfold partB inB at h
  rw [hok] at h
  simp at h
  omega

set_option maxRecDepth 100000 in
set_option maxHeartbeats 1600000 in
theorem implPartOf_no (B : Nat) (v : Value) (vs : List VN) (n : Int) (w : World) (h : NodesAt B w v vs) (hB : B ≤ w.heap.size) (hno : partB vs n = false) :
    Calls Try.prog 21 #[v, .int .i64 n] w fun e w' => e = .returned (.tuple #[.slice none 0 0, .bool false]) ∧ Below w.heap.size w w' := by
  have HV := hideIt h
  have hl := h.1
  obtain ⟨_, a, cap, rfl, _⟩ := h
  have HNO := hideIt hno
  clear hno
  go_enter Try.func21, Try.ntmps21
  go_wp2_with fail
  refine (implOk_any B _ vs _ HV.out hB).mono ?_
  rintro e w1 ⟨rfl, hb1⟩
  cases ok1 : okB vs
  · go_wp2_with fail
    go_ret2
    exact ⟨rfl, hb1⟩
  · have hx := partB_no HNO.out ok1
    by_cases h0 : n < 0
    · go_wp2_with fail
      go_ret2
      exact ⟨rfl, hb1⟩
    · have h1 : (vs.length : Int) ≤ n := by omega
      clear hx
      go_wp2_with fail
      go_ret2
      exact ⟨rfl, hb1⟩

set_option maxRecDepth 100000 in
set_option maxHeartbeats 1600000 in
theorem implPartOf_yes (B : Nat) (v : Value) (vs : List VN) (n : Nat) (w : World) (h : NodesAt B w v vs) (hB : B ≤ w.heap.size) (hok : okB vs = true) (hn : n < vs.length) :
    Calls Try.prog 21 #[v, .int .i64 n] w fun e w' => ∃ r base KV IV, e = .returned (.tuple #[r, .bool true]) ∧ w.heap.size ≤ base ∧ base ≤ w'.heap.size ∧ Nest base w' r (partOf vs n) KV IV ∧ Below w.heap.size w w' := by
  have HV := hideIt h
  have hl := h.1
  obtain ⟨_, a, cap, rfl, _⟩ := h
  obtain ⟨⟨hn1, hn2⟩, hokk, _, hkn⟩ := okB_parts hok
  have HOK := hideIt hokk
  have HKN := hideIt hkn
  have HLP := hideIt (lay_part hok (Nat.lt_succ_self n) hn)
  clear hokk hkn
  go_enter Try.func21, Try.ntmps21
  go_wp2_with fail
  refine (implOk_any B _ vs _ HV.out hB).mono ?_
  rintro e w1 ⟨rfl, hb1⟩
  have z1 := hb1.size
  go_wp2_with fail
  refine (valuesAt_any B _ vs _ (HV.out.below (hb1.mono hB)) (by omega) hn1 hn2 HOK.out HKN.out).mono ?_
  rintro e w2 ⟨VV, rfl, hrow, hvals, hb2⟩
  have z2 := hb2.size
  obtain ⟨t, x, hx⟩ := (hvals n hn).iface
  have hc : w2.cell? ⟨w1.heap.size, n, none⟩ = some (.iface t x) := by rw [hrow.cell (by omega), hx]
  have hlt := hrow.lt
  have hval := hvals n hn
  rw [hx] at hval
  have HT := hideIt (ValIs.tree (by omega) HOK.out HKN.out hn2 hn hval)
  clear hrow hvals hx hval
  go_wp2_with fail
  refine (withNodes_any w2.heap.size w2.heap.size (Nat.le_refl _) (n + 1) (treeOf vs (n + 1) n) (.iface t x) (.slice none 0 0) [] (fun _ => undef) (fun _ => undef) w2 (Nest.nil _ _ _ _) HT.out (Nat.le_refl _) (by have := HLP.out; simp only [List.length_nil, Nat.zero_add, this.1]; omega)).mono ?_
  rintro e w3 ⟨v', KV', IV', rfl, hl3⟩
  have hnest : Nest w2.heap.size w3 v' (partOf vs n) KV' IV' := by have := hl3.1; rw [List.nil_append, List.length_nil, HLP.out.1] at this; exact this
  have hb3 : Below w2.heap.size w2 w3 := (Below.refl _ _).grown hl3.2.1 (Nat.le_refl _) (fun k hk => by simp [Value.ownBlock] at hk)
  have HN := hideIt hnest
  have HB3 := hideIt hb3
  obtain ⟨ar, cr, hr⟩ := own_slice hnest.row
  obtain ⟨L, hL⟩ : ∃ L, (partOf vs n).length = L := ⟨_, rfl⟩
  rw [hL] at hr
  subst hr
  clear hnest hl3 hb3 hL
  go_wp2_with fail
  go_ret2
  exact ⟨_, w2.heap.size, KV', IV', rfl, by omega, HB3.out.size, HN.out, (hb1.trans (hb2.mono z1)).trans (HB3.out.mono (by omega))⟩

/-- The answer's nodes. -/
def resOf (vs : List VN) (n : Int) : List VN := if partB vs n = true then partOf vs n.toNat else []

theorem specPartOf_any (B : Nat) (v : Value) (vs : List VN) (n : Int) (w : World) (h : NodesAt B w v vs) (hB : B ≤ w.heap.size) :
    Calls Try.prog 22 #[v, .int .i64 n] w fun e w' => ∃ r base KV IV, e = .returned (.tuple #[r, .bool (partB vs n)]) ∧ w.heap.size ≤ base ∧ Nest base w' r (resOf vs n) KV IV ∧ Below w.heap.size w w' := by
  cases hp : partB vs n
  · refine (specPartOf_no B v vs n w h hB hp).mono ?_
    rintro e w' ⟨rfl, hb⟩
    exact ⟨_, w.heap.size, fun _ => undef, fun _ => undef, rfl, Nat.le_refl _, by unfold resOf; rw [hp]; exact Nest.nil _ _ _ _, hb⟩
  · obtain ⟨hok, m, rfl, hm⟩ := partB_yes hp
    refine (specPartOf_yes B v vs m w h hB hok hm).mono ?_
    rintro e w' ⟨r, base, KV, IV, rfl, h1, h2, h3⟩
    exact ⟨r, base, KV, IV, rfl, h1, by unfold resOf; rw [hp]; simpa using h2, h3⟩

theorem implPartOf_any (B : Nat) (v : Value) (vs : List VN) (n : Int) (w : World) (h : NodesAt B w v vs) (hB : B ≤ w.heap.size) :
    Calls Try.prog 21 #[v, .int .i64 n] w fun e w' => ∃ r base KV IV, e = .returned (.tuple #[r, .bool (partB vs n)]) ∧ w.heap.size ≤ base ∧ base ≤ w'.heap.size ∧ Nest base w' r (resOf vs n) KV IV ∧ Below w.heap.size w w' := by
  cases hp : partB vs n
  · refine (implPartOf_no B v vs n w h hB hp).mono ?_
    rintro e w' ⟨rfl, hb⟩
    exact ⟨_, w.heap.size, fun _ => undef, fun _ => undef, rfl, Nat.le_refl _, hb.size, by unfold resOf; rw [hp]; exact Nest.nil _ _ _ _, hb⟩
  · obtain ⟨hok, m, rfl, hm⟩ := partB_yes hp
    refine (implPartOf_yes B v vs m w h hB hok hm).mono ?_
    rintro e w' ⟨r, base, KV, IV, rfl, h1, h1', h2, h3⟩
    exact ⟨r, base, KV, IV, rfl, h1, h1', by unfold resOf; rw [hp]; simpa using h2, h3⟩

/-- The answer's nodes fit. -/
theorem res_fits {vs : List VN} (hf : ∀ i, i < vs.length → Fits (nodeAt vs i)) (n : Int) : (resOf vs n).length ≤ 80 ∧ ∀ i, i < (resOf vs n).length → Fits (nodeAt (resOf vs n) i) ∧ (nodeAt (resOf vs n) i).keys.length ≤ 80 ∧ (nodeAt (resOf vs n) i).kids.length ≤ 80 := by
  unfold resOf
  by_cases hp : partB vs n = true
  · rw [if_pos hp]
    obtain ⟨hok, m, rfl, hm⟩ := partB_yes hp
    rw [show ((m : Int)).toNat = m by omega]
    exact ⟨(lay_part hok (Nat.lt_succ_self m) hm).2, part_fits hok hf hm⟩
  · rw [if_neg hp]
    exact ⟨by simp, fun i hi => absurd hi (by simp)⟩
end Go.Proofs.Ytpfnkpkcjefelaa
