/-
  The specification's check of a node that is a map: its keys, one behind the other.
-/
import Derived.Test.YtgmnihofkpjboaaGreatDoorEq
import Derived.Laws.Cover1
namespace Go.Proofs.YtgmnihofkpjboaaGreatDoor
open Go.RowKit
set_option linter.unusedSimpArgs false
set_option linter.unusedVariables false

theorem riseB_true {l : List ByteArray} (h : ∀ j, j < l.length → riseAt l j = true) : riseB l = true := by
  unfold riseB
  rw [List.all_eq_true]
  exact fun j hj => h j (List.mem_range.1 hj)

theorem riseB_false {l : List ByteArray} {k : Nat} (hk : k < l.length) (h : riseAt l k = false) : riseB l = false := by
  unfold riseB
  rw [List.all_eq_false]
  exact ⟨k, List.mem_range.2 hk, by simp [h]⟩

theorem natEq (a b : Nat) : ((a : Int) == (b : Int)) = decide (a = b) := by
  rw [Bool.eq_iff_iff]; simp; omega

set_option maxRecDepth 100000 in
set_option maxHeartbeats 3200000 in
theorem l1NodeOk_6 (B : Nat) (x : VN) (ka ki : Value) (w : World) (h : NodeIn B w x ka ki) (hB : B ≤ w.heap.size) (hk : x.kind = 6) :
    Calls Tryz.prog 25 #[.agg #[.int .i64 x.kind, .int .i64 x.n, .string x.s, ka, ki]] w fun e w' => e = .returned (.bool (nodeB x)) ∧ Below w.heap.size w w' := by
  have hsz := h.size
  obtain ⟨hkn, hks, a1, c1, e1, hcell⟩ := h.keys
  obtain ⟨hin, _, a2, c2, e2, _⟩ := h.kids
  subst e1 e2
  clear h
  have HK : Hid (x.kind = 6) := hk
  have hw1 : ∀ o, Below w.heap.size w (w.alloc o) := fun o => (Below.refl _ _).alloc (Nat.le_refl _) o
  go_enter Tryz.func25, Tryz.ntmps25
  go_wp2_with fail
  all_goals
    go_loopw [4] (fun i wr => ∃ k : Nat, k ≤ x.keys.length ∧ i = .int .i64 k ∧ (∀ j, j < k → riseAt x.keys j = true) ∧ Below (w.heap.size + 1) (w.alloc (.cells #[.int .i64 6, .int .i64 x.n, .string x.s, .slice a1 x.keys.length c1, .slice a2 x.kids.length c2] 37)) wr) (fun i _ => x.keys.length - (intOf i).toNat)
    case atStart => exact ⟨0, Nat.zero_le _, rfl, fun j hj => by omega, Below.refl _ _⟩
    case round =>
      obtain ⟨k, hkl, rfl, hrise, hbel⟩ := hrel
      have hc0 : ∀ o, wr.cell? ⟨w.heap.size, o, none⟩ = _ := fun o => hbel.cell (p := ⟨w.heap.size, o, none⟩) (Nat.lt_succ_self _)
      by_cases hlt : k < x.keys.length
      · obtain ⟨b, o, rfl, hbB, hc⟩ := hcell (by omega)
        have hck : wr.cell? ⟨b, o + k, none⟩ = some (.string (keyAt x.keys k)) := (below_cell (o := o + k) hbel (by omega)).trans ((below_cell (o := o + k) (hw1 _) (by omega)).trans (hc k hlt))
        have hs := hks k hlt
        by_cases ht : textB (keyAt x.keys k) = true
        · by_cases h0 : k = 0
          · have HR : Hid (∀ j, j < k + 1 → riseAt x.keys j = true) := fun j hj => by
              obtain rfl : j = k := by omega
              simp only [riseAt, ht, h0, decide_true, Bool.true_or, Bool.and_true]
              rw [h0] at ht
              exact ht
            have hd : decide ((0 : Int) < (k : Int)) = false := by simp; omega
            have hd2 : decide (0 < k) = false := by simp; omega
            have HX : Hid (k = 0) := h0
            clear hrise hc hcell h0
            go_wp2_with fail
            go_quiet ((go_at_call 42; exact Calls.quiet_of_same (l1Text_any _ _ hs)))
            go_wp2_with fail
            go_roundw
            case rel => exact ⟨k + 1, by omega, by go_num, HR.out, below_drewN hbel nq⟩
            case measure => simp [intOf]; omega
          · have hpos : (0 : Int) < (k : Int) := by omega
            have hcm : wr.cell? ⟨b, o + (k - 1), none⟩ = some (.string (keyAt x.keys (k - 1))) := (below_cell (o := o + (k - 1)) hbel (by omega)).trans ((below_cell (o := o + (k - 1)) (hw1 _) (by omega)).trans (hc (k - 1) (by omega)))
            have hd1 : decide ((0 : Int) < (k : Int)) = true := by simp; omega
            have hd2 : decide (0 < k) = true := by simp; omega
            have hd3 : 0 < k := by omega
            have pw : IntKind.i64.wrap ((k : Int) - 1) = (k : Int) - 1 := by rw [IntKind.wrap_i64]; omega
            have p0 : ((k : Int) - 1).toNat = k - 1 := by omega
            have p1 : 0 ≤ (k : Int) - 1 := by omega
            have p2 : (k : Int) - 1 < (x.keys.length : Int) := by omega
            have p3 : (1 : Int) ≤ (k : Int) := by omega
            have p4 : 1 ≤ k := by omega
            have p5 : (k : Int) < (x.keys.length : Int) + 1 := by omega
            have p6 : (k : Int) ≤ (x.keys.length : Int) := by omega
            have p7 : k ≤ x.keys.length := by omega
            have p8 : k < x.keys.length + 1 := by omega
            by_cases hl : Op.bytesLess (keyAt x.keys (k - 1)).toList (keyAt x.keys k).toList = true
            · have HR : Hid (∀ j, j < k + 1 → riseAt x.keys j = true) := fun j hj => by
                by_cases e : j = k
                · subst e; simp [riseAt, ht, lessB, hl]
                · exact hrise j (by omega)
              clear hrise hc hcell
              go_wp2_with fail
              go_quiet ((go_at_call 42; exact Calls.quiet_of_same (l1Text_any _ _ hs)))
              go_wp2_with fail
              go_roundw
              case rel => exact ⟨k + 1, by omega, by go_num, HR.out, below_drewN hbel nq⟩
              case measure => simp [intOf]; omega
            · have HR : Hid (riseB x.keys = false) := riseB_false hlt (by simp [riseAt, ht, lessB, hl]; omega)
              have hl' : Op.bytesLess (keyAt x.keys (k - 1)).toList (keyAt x.keys k).toList = false := by simpa using hl
              clear hrise hc hcell hl
              go_wp2_with fail
              go_quiet ((go_at_call 42; exact Calls.quiet_of_same (l1Text_any _ _ hs)))
              go_wp2_with fail
              go_ret
              exact ⟨ret_bool (by simp [nodeB, namedB, HK.out, HR.out]), (hw1 _).trans ((below_drewN hbel nq).mono (by omega))⟩
        · have HR : Hid (riseB x.keys = false) := riseB_false hlt (by simp [riseAt, ht])
          have ht' : textB (keyAt x.keys k) = false := by simpa using ht
          clear hrise hc hcell ht
          go_wp2_with fail
          go_quiet ((go_at_call 42; exact Calls.quiet_of_same (l1Text_any _ _ hs)))
          go_wp2_with fail
          go_ret
          exact ⟨ret_bool (by simp [nodeB, namedB, HK.out, HR.out]), (hw1 _).trans ((below_drewN hbel nq).mono (by omega))⟩
      · obtain rfl : k = x.keys.length := by omega
        have HR : Hid (riseB x.keys = true) := riseB_true hrise
        clear hrise hcell
        go_wp2_with fail
        all_goals
          go_ret
          refine ⟨ret_bool ?_, (hw1 _).trans (hbel.mono (by omega))⟩
          simp [nodeB, unnamedB, namedB, HK.out, HR.out, natEq, *]
end Go.Proofs.YtgmnihofkpjboaaGreatDoor
