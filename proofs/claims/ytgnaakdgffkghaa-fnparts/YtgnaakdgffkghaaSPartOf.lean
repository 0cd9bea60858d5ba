/-
  The draws of FnOrder: values out of a code.
-/
import Derived.Test.YtgnaakdgffkghaaDrM
import Derived.ProofKit
import Derived.OpenShut
import Derived.ShutString
import Derived.ChangeOld
import Derived.Below
import Derived.Test.YtgnaakdgffkghaaSame
import Derived.Test.YtgnaakdgffkghaaPartOk
import Derived.Test.YtgnaakdgffkghaaOrdZ
namespace Go.Proofs.Ytgnaakdgffkghaa
open Go.RowKit
set_option linter.unusedSimpArgs false
set_option linter.unusedVariables false

/-- A code of n bytes. -/
def CodeAt (B : Nat) (w : World) (v : Value) (n : Nat) : Prop :=
  n ≤ 1048576 ∧ ∃ a cap, v = .slice a n cap ∧ (0 < n → ∃ b o, a = some ⟨b, o, none⟩ ∧ b < B ∧ ∀ i, i < n → ∃ x : Nat, x < 256 ∧ w.cell? ⟨b, o + i, none⟩ = some (.int .u8 x))

theorem CodeAt.below {B : Nat} {w w' : World} {v : Value} {n : Nat} (h : CodeAt B w v n) (hb : Below B w w') : CodeAt B w' v n := by
  obtain ⟨hn, a, cap, e, hc⟩ := h
  refine ⟨hn, a, cap, e, fun hp => ?_⟩
  obtain ⟨b, o, e2, hlt, hx⟩ := hc hp
  exact ⟨b, o, e2, hlt, fun i hi => by obtain ⟨x, h3, h4⟩ := hx i hi; exact ⟨x, h3, (below_cell hb hlt).trans h4⟩⟩

set_option maxHeartbeats 800000 in
theorem l1Open_any (B : Nat) (v : Value) (n : Nat) (w : World) (h : CodeAt B w v n) (hB : B ≤ w.heap.size) :
    Calls Try.prog 22 #[v] w fun e w' => e = .returned (.pointer (some ⟨w.heap.size, 0, none⟩)) ∧ RdAt w' w.heap.size n 0 ∧ Below w.heap.size w w' := by
  obtain ⟨hn, a, cap, rfl, hc⟩ := h
  have HC := hideIt hc
  clear hc
  go_enter Try.func22, Try.ntmps22
  go_wp2_with fail
  go_ret
  have hb : Below w.heap.size w (w.alloc (.cells #[.slice a n cap, .int .i64 0] 88)) := (Below.refl _ _).alloc (Nat.le_refl _) _
  refine ⟨rfl, ⟨by simp, ⟨a, cap, by simp, fun hp => ?_⟩, by simp, by omega, hn, frozen_of_row _ _ 1 _ _ (heap_alloc_new w _)⟩, hb⟩
  obtain ⟨b, o, e, hlt, hx⟩ := HC.out hp
  exact ⟨b, o, e, by omega, fun i hi => by obtain ⟨x, h3, h4⟩ := hx i hi; exact ⟨x, h3, (below_cell hb (by omega)).trans h4⟩⟩

end Go.Proofs.Ytgnaakdgffkghaa

/-
  Codes of bytes that came in: whether they are too many, and how the argument is opened.
-/
namespace Go.Proofs.Ytgnaakdgffkghaa
open Go.ChangeShapes Go.WideShapes Go.ChangeAt Go.RowKit
set_option linter.unusedSimpArgs false
set_option linter.unusedVariables false

set_option maxHeartbeats 400000 in
theorem big_any (a : Option Addr) (n cap : Nat) (w : World) (hn : n ≤ 9223372036854775807) :
    Calls Try.prog 5 #[.slice a n cap] w fun e w' => e = .returned (.bool (decide (1048576 < n))) ∧ w' = w := by
  by_cases h : 1048576 < n
  · have h' : (1048576 : Int) < (n : Int) := by omega
    go_enter Try.func5, Try.ntmps5
    go_wp2
    go_ret
    exact ⟨ret_bool (by simp [h]), rfl⟩
  · have h' : ¬ (1048576 : Int) < (n : Int) := by omega
    go_enter Try.func5, Try.ntmps5
    go_wp2
    go_ret
    exact ⟨ret_bool (by simp [h]), rfl⟩

/-- Bytes that came in. -/
def RawCode (w : World) (v : Value) (n : Nat) : Prop :=
  n ≤ 9223372036854775807 ∧ ∃ a cap, v = .slice a n cap ∧ (0 < n → ∃ b o, a = some ⟨b, o, none⟩ ∧ b < w.heap.size ∧ ∀ i, i < n → ∃ x : Nat, x < 256 ∧ w.cell? ⟨b, o + i, none⟩ = some (.int .u8 x))

theorem cells1b : Try.prog.cellsOf 5 = 1 := by kernel_rfl

theorem wfByte {n : Int} (h : (Lit.int .u8 n).wf = true) : 0 ≤ n ∧ n ≤ 255 := by
  simp [Lit.wf, IntKind.min, IntKind.max, IntKind.signed, IntKind.bits] at h
  omega

theorem lt_cellB {w : World} {b o : Nat} {v : Value} (h : w.cell? ⟨b, o, none⟩ = some v) : b < w.heap.size := by
  unfold World.cell? at h
  cases hb : w.heap[b]? with
  | none => simp [hb] at h
  | some x => exact (Array.getElem?_eq_some_iff.1 hb).1

section
variable {H : Type} {enc : TypeId × Value → H} {W : World} {base : Nat} {spare : Nat → Bool} {held : Bool}

theorem raw_code {fuel : Nat} {v : Value} {x : DataW H × List MemPlace} (h : DataW.trod enc Try.prog W base spare held fuel 22 [v] = some x) : ∃ n, RawCode W v n := by
  rcases open_ints Try.underlying22 Try.underlying5 cells1b h with ⟨hcs, _⟩ | ⟨a, len, cap, zs, hcs, _, hl, hm, hz, _, hcell, hwz⟩
  · refine ⟨0, by omega, none, 0, by simpa using hcs, fun hl => absurd hl (by simp)⟩
  · have hlen : len ≤ zs.length := by rw [hz]; split <;> omega
    have hm' : len ≤ 9223372036854775807 := by unfold maxLen at hm; omega
    refine ⟨len, hm', some a, cap, by simpa using hcs, fun hl0 => ?_⟩
    obtain ⟨b, o, spot⟩ := a
    have hc0 := hcell 0 (by omega)
    have hspot : spot = none := by simpa [Addr.add] using World.cell?_spot hc0
    subst hspot
    have hc' : ∀ i, i < len → W.cell? ⟨b, o + i, none⟩ = some (.int .u8 (zs.getD i 0)) := fun i hi => by
      have := hcell i (by omega)
      by_cases e : i = 0
      · subst e; simpa [Addr.add] using this
      · simpa [Addr.add, e] using this
    refine ⟨b, o, rfl, lt_cellB (hc' 0 (by omega)), fun i hi => ?_⟩
    have hw := wfByte (hwz (zs.getD i 0) (by
      rw [List.getD_eq_getElem?_getD, List.getElem?_eq_getElem (by omega)]
      exact List.getElem_mem _))
    refine ⟨(zs.getD i 0).toNat, by omega, ?_⟩
    rw [hc' i hi, show (((zs.getD i 0).toNat : Nat) : Int) = zs.getD i 0 by omega]
end

end Go.Proofs.Ytgnaakdgffkghaa

/-
  The law's comparison of two rows of rows of nodes; and the draw of a value with a place in it.
-/
namespace Go.Proofs.Ytgnaakdgffkghaa
open Go.RowKit
set_option linter.unusedSimpArgs false
set_option linter.unusedVariables false

/-- Two rows of rows are the same. -/
def SameRows (m n : Nat) (L L' : Nat → List VN) : Prop := m = n ∧ ∀ i, i < m → L i = L' i

set_option maxRecDepth 100000 in
set_option maxHeartbeats 1600000 in
theorem sameAll_any (B : Nat) (u1 u2 : Value) (m n : Nat) (L L' : Nat → List VN) (w : World) (h1 : RowsAt B w u1 m L) (h2 : RowsAt B w u2 n L') (hB : B ≤ w.heap.size) :
    Calls Try.prog 11 #[u1, u2] w fun e w' => (∃ b, e = .returned (.bool b) ∧ (b = true ↔ SameRows m n L L')) ∧ Below w.heap.size w w' := by
  obtain ⟨hm, a1, c1, rfl, hc1⟩ := h1
  obtain ⟨hn, a2, c2, rfl, hc2⟩ := h2
  have HC1 := hideIt hc1
  have HC2 := hideIt hc2
  clear hc1 hc2
  by_cases hl : m = n
  case neg =>
    have hne : ((m : Int) != (n : Int)) = true := by simp; omega
    have HO : Hid (¬ SameRows m n L L') := fun e => hl e.1
    clear hl
    go_enter Try.func11, Try.ntmps11
    go_wp2_with fail
    go_ret
    exact ⟨ret_no HO.out, Below.refl _ _⟩
  case pos =>
  subst hl
  have hne : ((m : Int) != (m : Int)) = false := by simp
  go_enter Try.func11, Try.ntmps11
  go_wp2_with fail
  go_loopw [5] (fun i wr => ∃ k : Nat, k ≤ m ∧ i = .int .i64 k ∧ Hid (∀ j, j < k → L j = L' j) ∧ Below w.heap.size w wr) (fun i _ => m - (intOf i).toNat)
  case atStart => exact ⟨0, Nat.zero_le _, rfl, fun j hj => absurd hj (by omega), Below.refl _ _⟩
  case round =>
    obtain ⟨k, hk, rfl, HE, hbel⟩ := hrel
    have zs := hbel.size
    by_cases hlt : k < m
    case neg =>
      have HO : Hid (SameRows m m L L') := ⟨rfl, fun j hj => HE.out j (by omega)⟩
      go_wp2_with fail
      go_ret
      exact ⟨⟨true, rfl, by simp only [true_iff]; exact HO.out⟩, hbel⟩
    case pos =>
    obtain ⟨b1, rfl, hb1, hr1⟩ := HC1.out (by omega)
    obtain ⟨b2, rfl, hb2, hr2⟩ := HC2.out (by omega)
    obtain ⟨r1, e1, n1⟩ := hr1 k hlt
    obtain ⟨r2, e2, n2⟩ := hr2 k hlt
    have f1 := (below_cell hbel (show b1 < w.heap.size by omega)).trans e1
    have f2 := (below_cell hbel (show b2 < w.heap.size by omega)).trans e2
    have HN1 := hideIt (n1.below (hbel.mono hB))
    have HN2 := hideIt (n2.below (hbel.mono hB))
    obtain ⟨_, ar1, cr1, rfl, _⟩ := n1
    obtain ⟨_, ar2, cr2, rfl, _⟩ := n2
    clear hr1 hr2 e1 e2
    go_wp2_with fail
    go_region_with (go_at_call 10; refine (same_any B _ _ (L k) (L' k) _ ?_ ?_ ?_).mono ?_; exact HN1.out.below (bsame rfl rfl rfl rfl); exact HN2.out.below (bsame rfl rfl rfl rfl); exact (by simp; omega); rintro e w1 ⟨⟨b, rfl, hb⟩, hq⟩)
    all_goals
      have HB1 : Hid (Below w.heap.size w w1) := hbel.drew.trans (hq.mono (by simpa using zs))
      have HBB := hideIt hb
      clear hb hq
      cases b
      · have HO : Hid (¬ SameRows m m L L') := fun e => by
          have := HBB.out.2 (e.2 k hlt)
          cases this
        go_wp2_with fail
        go_ret
        exact ⟨ret_no HO.out, HB1.out⟩
      · have HE2 : Hid (∀ j, j < k + 1 → L j = L' j) := fun j hj => by
          by_cases e : j = k
          · subst e; exact HBB.out.1 rfl
          · exact HE.out j (by omega)
        go_wp2_with fail
        go_roundw
        case rel => exact ⟨k + 1, by omega, by go_num, HE2, HB1.out⟩
        case measure => simp [intOf]; omega

set_option maxHeartbeats 800000 in
theorem drawPartOf_any (B : Nat) (v : Value) (n : Nat) (w : World) (h : CodeAt B w v n) (hB : B ≤ w.heap.size) :
    Calls Try.prog 6 #[v] w fun e w' => ∃ r vs KV IV q, e = .returned (.tuple #[r, .int .i64 q]) ∧ -9223372036854775808 ≤ q ∧ q ≤ 9223372036854775807 ∧ Fine 40 vs ∧ Nest w.heap.size w' r vs KV IV ∧ Below w.heap.size w w' := by
  have H := hideIt h
  obtain ⟨_, a, cap, rfl, _⟩ := h
  go_enter Try.func6, Try.ntmps6
  go_wp2_with fail
  refine (l1Open_any B _ n w H.out hB).mono ?_
  rintro e w1 ⟨rfl, hr, hb⟩
  have HR := hideIt hr
  have HB := hideIt hb
  have z1 := hb.size
  have hw1 : w.heap.size < w1.heap.size := hr.lt
  clear hr hb
  go_wp2_with fail
  refine (rdMaybe_any w.heap.size n w1 ⟨0, HR.out⟩).mono ?_
  rintro e w2 ⟨⟨r, vs, KV, IV, rfl, hf, hn⟩, hd⟩
  have HF := hideIt hf
  have HN := hideIt hn
  have HD := hideIt hd
  have hl1 : 0 < vs.length := hf.1
  have hl2 : vs.length ≤ 40 := hf.2.1
  obtain ⟨ar, cr, er⟩ := own_slice hn.row
  obtain ⟨M, hM⟩ : ∃ M, vs.length = M := ⟨_, rfl⟩
  rw [hM] at er hl1 hl2
  subst er
  clear hf hn hd hM
  go_wp2_with fail
  refine (rdOff_any w.heap.size n 0 ((M : Int) - 1) w2 HD.out.rd (by omega) (by omega) (by omega)).mono ?_
  rintro e w3 ⟨⟨q, hq1, hq2, rfl⟩, hd3⟩
  have HN3 := hideIt ((HN.out.from (hd3.from hw1)).low z1)
  have HB3 := hideIt (HB.out.trans (HD.out.trans hd3).below)
  clear hd3
  go_wp2_with fail
  go_ret2
  exact ⟨_, vs, KV, IV, q, rfl, hq1, hq2, HF.out, HN3.out, HB3.out⟩
end Go.Proofs.Ytgnaakdgffkghaa

/-
  spec.PartOf: nothing where the value is not right or there is no such node, else the nodes of the part.
-/
namespace Go.Proofs.Ytgnaakdgffkghaa
open Go.RowKit
set_option linter.unusedSimpArgs false
set_option linter.unusedVariables false

set_option maxRecDepth 100000 in
set_option maxHeartbeats 1600000 in
theorem specPartOf_no (B : Nat) (v : Value) (vs : List VN) (n : Int) (w : World) (h : NodesAt B w v vs) (hB : B ≤ w.heap.size) (hno : partB vs n = false) :
    Calls Try.prog 8 #[v, .int .i64 n] w fun e w' => e = .returned (.tuple #[.slice none 0 0, .bool false]) ∧ Below w.heap.size w w' := by
  have HV := hideIt h
  have hl := h.1
  obtain ⟨_, a, cap, rfl, _⟩ := h
  unfold partB at hno
  go_enter Try.func8, Try.ntmps8
  go_wp2_with fail
  refine (specOk_any B _ vs _ HV.out hB).mono ?_
  rintro e w1 ⟨rfl, hb1⟩
  cases ok1 : okB vs
  · go_wp2_with fail
    go_ret2
    exact ⟨rfl, hb1⟩
  · rw [ok1, Bool.true_and] at hno
    go_wp2_with fail
    refine (l1In_any _ _ _ _).mono ?_
    rintro e w2 ⟨rfl, rfl⟩
    rw [hno]
    go_wp2_with fail
    go_ret2
    exact ⟨rfl, hb1⟩

set_option maxRecDepth 100000 in
set_option maxHeartbeats 1600000 in
theorem specPartOf_yes (B : Nat) (v : Value) (vs : List VN) (n : Nat) (w : World) (h : NodesAt B w v vs) (hB : B ≤ w.heap.size) (hok : okB vs = true) (hn : n < vs.length) :
    Calls Try.prog 8 #[v, .int .i64 n] w fun e w' => ∃ r base KV IV, e = .returned (.tuple #[r, .bool true]) ∧ w.heap.size ≤ base ∧ Nest base w' r (partOf vs n) KV IV ∧ Below w.heap.size w w' := by
  have HV := hideIt h
  have hl := h.1
  obtain ⟨_, a, cap, rfl, _⟩ := h
  have hin : inB n 0 ((vs.length : Int) - 1) = true := by simp [inB]; omega
  obtain ⟨p1, _, p3, _⟩ := okB_parts hok
  have HKF := hideIt (keys_few hok)
  obtain ⟨⟨a0, h0⟩, htr⟩ := p3 n hn
  have HTR := hideIt htr
  have HP : Hid (partOf vs n = run vs (-(a0 : Int)) a0 (n + 1 - a0)) := by rw [Hid, partOf, htr]; simp [trF]
  clear p3 htr
  go_enter Try.func8, Try.ntmps8
  go_wp2_with fail
  refine (specOk_any B _ vs _ HV.out hB).mono ?_
  rintro e w1 ⟨rfl, hb1⟩
  rw [hok]
  have z1 := hb1.size
  go_wp2_with fail
  refine (l1In_any _ _ _ _).mono ?_
  rintro e w2 ⟨rfl, hw2⟩
  subst hw2
  rw [hin]
  go_wp2_with fail
  refine (l1Part_any B _ vs n a0 h0 _ (HV.out.below (hb1.mono hB)) (by omega) p1.2 HKF.out hn HTR.out).mono ?_
  rintro e w3 ⟨r, KV, IV, rfl, hnest, hb3⟩
  have HN := hideIt hnest
  obtain ⟨ar, cr, rfl⟩ := own_slice hnest.row
  clear hnest
  go_wp2_with fail
  go_ret2
  exact ⟨_, _, KV, IV, rfl, z1, by rw [HP.out]; exact HN.out, hb1.trans (hb3.mono z1)⟩
end Go.Proofs.Ytgnaakdgffkghaa
