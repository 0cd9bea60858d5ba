/-
  The laws' marks of steps, laid and held; rows of rows of steps.
-/
import Derived.Test.YtbclgogolimbgaaRowsP
import Derived.Test.YtbclgogolimbgaaMark
import Derived.Deep.RegionWith
namespace Go.Proofs.Ytbclgogolimbgaa
open Go.RowKit
set_option linter.unusedSimpArgs false
set_option linter.unusedVariables false

/-- Step j holds its marks. -/
structure HStep (w : World) (b j o : Nat) : Prop where
  c0 : w.cell? ⟨b, j * 3, none⟩ = some (.bool ((o : Int) % 3 == 0))
  c1 : w.cell? ⟨b, j * 3 + 1, none⟩ = some (.string (markOf (o + 1)))
  c2 : w.cell? ⟨b, j * 3 + 2, none⟩ = some (.int .i64 ((o + 2 : Nat) : Int))

theorem HStep.below {w w' : World} {b j o B : Nat} (h : HStep w b j o) (hb : Below B w w') (hB : b < B) : HStep w' b j o :=
  ⟨(below_cell hb hB).trans h.c0, (below_cell hb hB).trans h.c1, (below_cell hb hB).trans h.c2⟩
theorem HStep.set {w : World} {b j o p : Nat} (h : HStep w b j o) (hp : j * 3 + 2 < p) (v : Value) : HStep (w.setCell ⟨b, p, none⟩ v) b j o :=
  ⟨(World.cell?_setCell_other _ _ _ _ (fun e => by have := congrArg Addr.off e; simp at this; omega)).trans h.c0, (World.cell?_setCell_other _ _ _ _ (fun e => by have := congrArg Addr.off e; simp at this; omega)).trans h.c1, (World.cell?_setCell_other _ _ _ _ (fun e => by have := congrArg Addr.off e; simp at this; omega)).trans h.c2⟩

set_option maxRecDepth 100000 in
set_option maxHeartbeats 3200000 in
theorem markPStepS_held (lo b n cap k : Nat) (a : Option Addr) (w : World) (ha : 0 < n → a = some ⟨b, 0, none⟩ ∧ lo ≤ b ∧ b < w.heap.size ∧ WRow w b (n * 3)) (hlo : lo ≤ w.heap.size) (hn : n ≤ 1048576) (hk0 : 1 ≤ k) (hk : k < 10 ^ 16) :
    Calls Try.prog 26 #[.slice a n cap, .int .i64 k] w fun e w' => e = .returned (.int .i64 (k + n * 3 : Nat)) ∧ (∀ j, j < n → HStep w' b j (k + j * 3)) ∧ Only (fun c => 0 < n ∧ c = b) w w' ∧ Below lo w w' := by
  have HA := hideIt ha
  clear ha
  go_enter Try.func26, Try.ntmps26
  go_wp2_with fail
  go_loopw [1, 5] (fun q i wr => ∃ c : Nat, c ≤ n ∧ q = .int .i64 (k + c * 3 : Nat) ∧ i = .int .i64 c ∧ (0 < n → WRow wr b (n * 3)) ∧ (∀ j, j < c → HStep wr b j (k + j * 3)) ∧ Only (fun c => 0 < n ∧ c = b) w wr ∧ Below lo w wr) (fun _ i _ => n - (intOf i).toNat)
  case atStart => exact ⟨0, Nat.zero_le _, by simp, rfl, fun h => (HA.out h).2.2.2, fun j hj => by omega, Only.refl _ _, Below.refl _ _⟩
  case round =>
    obtain ⟨c, hc, rfl, rfl, hw, hd, ho, hbl⟩ := hrel
    have HO := hideIt ho
    have HD := hideIt hd
    have zs := hbl.size
    clear hd
    by_cases hlt : c < n
    · have HW := hideIt (hw (by omega))
      clear hw ho
      obtain ⟨rfl, hlob, hbs, _⟩ := HA.out (by omega)
      obtain ⟨⟨u0, r0⟩, f0⟩ := HW.out (c * 3) (by omega)
      obtain ⟨o, hoo⟩ : ∃ o, k + c * 3 = o := ⟨_, rfl⟩
      have ob : 1 ≤ o ∧ o < 10 ^ 17 := by omega
      have HOO := hideIt hoo
      rw [hoo]
      clear hoo
      have hbz : b < wr.heap.size := by have := HO.out.1; omega
      go_wp2_with fail
      rw [show ((o : Int) + 1) = ((o + 1 : Nat) : Int) by omega]
      refine (markText_any (o + 1) _ (by omega) (by omega)).mono ?_
      rintro e w1 ⟨rfl, hb1⟩
      have hz1 := hb1.size
      simp only [World.size_setCell] at hz1
      have HC0 : Hid (w1.cell? ⟨b, c * 3, none⟩ = some (.bool ((o : Int) % 3 == 0))) := (below_cell hb1 (by simpa using hbz)).trans (World.cell?_setCell_same _ _ _ r0)
      have HD1 : Hid (∀ j, j < c → HStep w1 b j (k + j * 3)) := fun j hj => ((HD.out j hj).set (by omega) _).below hb1 (by simpa using hbz)
      generalize hv0 : Value.bool ((o : Int) % 3 == 0) = v0 at *
      have HV0 := hideIt hv0
      clear hv0
      have HW1 := hideIt ((HW.out.set ⟨b, c * 3, none⟩ v0).below hb1 (by simpa using hbz))
      have HO1 := hideIt ((HO.out.trans (Only.set (P := fun c => 0 < n ∧ c = b) _ ⟨by omega, rfl⟩ v0)).trans (Only.of_below hb1))
      have HB1 := hideIt ((hbl.setCell (p := ⟨b, c * 3, none⟩) hlob v0).trans (hb1.mono (by simp; omega)))
      obtain ⟨⟨u1, r1⟩, f1⟩ := HW1.out (c * 3 + 1) (by omega)
      have HW2 := hideIt (HW1.out.set ⟨b, c * 3 + 1, none⟩ (.string (markOf (o + 1))))
      obtain ⟨⟨u2, r2⟩, f2⟩ := HW2.out (c * 3 + 2) (by omega)
      have HR1 := hideIt r1
      have HR2 := hideIt r2
      clear hb1
      go_wp2_with fail
      go_roundw
      case rel =>
        refine ⟨c + 1, by omega, by rw [← HOO.out]; go_num, by go_num, fun _ => HW2.out.set _ _, fun j hj => ?_, (HO1.out.trans (Only.set (P := fun c => 0 < n ∧ c = b) _ ⟨by omega, rfl⟩ _)).trans (Only.set (P := fun c => 0 < n ∧ c = b) _ ⟨by omega, rfl⟩ _), (HB1.out.setCell hlob _).setCell hlob _⟩
        by_cases e : j = c
        · subst e
          rw [HOO.out]
          refine ⟨?_, ?_, ?_⟩
          · rw [World.cell?_setCell_other _ _ _ _ (by simp), World.cell?_setCell_other _ _ _ _ (by simp), HV0.out]; exact HC0.out
          · rw [World.cell?_setCell_other _ _ _ _ (by simp)]; exact World.cell?_setCell_same _ _ _ HR1.out
          · refine (World.cell?_setCell_same _ _ _ HR2.out).trans ?_
            congr 2
        · exact ((HD1.out j (by omega)).set (by omega) _).set (by omega) _
      case measure => simp [intOf]; omega
    · obtain rfl : c = n := by omega
      go_wp2_with fail
      go_ret
      exact ⟨rfl, HD.out, ho, hbl⟩
set_option maxRecDepth 100000 in
set_option maxHeartbeats 3200000 in
theorem heldPStepS_any (b n cap k : Nat) (a : Option Addr) (w : World) (ha : 0 < n → a = some ⟨b, 0, none⟩ ∧ b < w.heap.size) (hn : n ≤ 1048576) (hk0 : 1 ≤ k) (hk : k < 10 ^ 16) (h : ∀ j, j < n → HStep w b j (k + j * 3)) :
    Calls Try.prog 64 #[.slice a n cap, .int .i64 k] w fun e w' => e = .returned (.int .i64 (k + n * 3 : Nat)) ∧ Below w.heap.size w w' := by
  have HA := hideIt ha
  have HH := hideIt h
  clear ha h
  go_enter Try.func64, Try.ntmps64
  go_wp2_with fail
  go_loopw [1, 5] (fun q i wr => ∃ c : Nat, c ≤ n ∧ q = .int .i64 (k + c * 3 : Nat) ∧ i = .int .i64 c ∧ Below w.heap.size w wr) (fun _ i _ => n - (intOf i).toNat)
  case atStart => exact ⟨0, Nat.zero_le _, by simp, rfl, Below.refl _ _⟩
  case round =>
    obtain ⟨c, hc, rfl, rfl, hbl⟩ := hrel
    have zs := hbl.size
    by_cases hlt : c < n
    · obtain ⟨rfl, hbs⟩ := HA.out (by omega)
      have hx := (HH.out c hlt).below hbl hbs
      obtain ⟨o, hoo⟩ : ∃ o, k + c * 3 = o := ⟨_, rfl⟩
      have ob : 1 ≤ o ∧ o < 10 ^ 17 := by omega
      have HOO := hideIt hoo
      rw [hoo] at hx ⊢
      clear hoo
      have c0 := hx.c0
      have c1 := hx.c1
      have c2 := hx.c2
      have f1 : (((o : Int) % 3 == 0) != ((o : Int) % 3 == 0)) = false := by simp
      have f2 : ((markOf (o + 1)).toList == (markOf (o + 1)).toList) = true := by simp
      have f3 : (((o + 2 : Nat) : Int) != (o : Int) + 1 + 1) = false := by simp; omega
      have hbz : b < wr.heap.size := by omega
      clear hx
      go_wp2_with fail
      go_region_with (go_at_call 59; (try rw [show ((o : Int) + 1) = ((o + 1 : Nat) : Int) by omega]); refine (markText_any (o + 1) _ ?_ ?_).mono ?_; exact (by omega); exact (by omega); rintro e w5 ⟨rfl, hb5⟩; have d1 := (below_cell (o := c * 3 + 1) hb5 (by simpa using hbz)).trans c1)
      all_goals
        have HB5 : Hid (Below w.heap.size w w5) := hbl.drew.trans (hb5.mono (by simpa using zs))
        have d2 := (below_cell (o := c * 3 + 2) hb5 (by simpa using hbz)).trans c2
        clear hb5
        go_wp2_with fail
        go_roundw
        case rel => exact ⟨c + 1, by omega, by rw [← HOO.out]; go_num, by go_num, HB5.out⟩
        case measure => simp [intOf]; omega
    · obtain rfl : c = n := by omega
      go_wp2_with fail
      go_ret
      exact ⟨rfl, hbl⟩
end Go.Proofs.Ytbclgogolimbgaa
