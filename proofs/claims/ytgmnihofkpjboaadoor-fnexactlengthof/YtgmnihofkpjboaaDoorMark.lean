/-
  The laws' marks: texts of numbers.
-/
import Derived.Test.YtgmnihofkpjboaaDoorTo
import Derived.Laws.Concat
import Derived.Laws.IdiomStrings
import Derived.Deep.QuietTactic
import Derived.BigQuiet
import Derived.WalkSmall
import Derived.Deep.RegionWith
namespace Go.Proofs.YtgmnihofkpjboaaDoor
open Go.RowKit
set_option linter.unusedSimpArgs false
set_option linter.unusedVariables false

def digB (c : Nat) : ByteArray := ⟨#[UInt8.ofNat (48 + c % 10)]⟩
theorem digB_size (c : Nat) : (digB c).size = 1 := rfl

def mloop : Nat → Nat → ByteArray → ByteArray
  | 0, _, out => out
  | f + 1, c, out => if 0 < c then mloop f (c / 10) (digB c ++ out) else out

theorem mloop_zero (f : Nat) (out : ByteArray) : mloop f 0 out = out := by cases f <;> simp [mloop]

def markOf (k : Nat) : ByteArray := ⟨#[109]⟩ ++ mloop 20 k ⟨#[]⟩

theorem digitText (c : Nat) (w : World) : (convert 56 9 (.slice (some ⟨w.heap.size, 0, none⟩) 1 1)).run Tryd.prog (w.alloc (.cells #[.int .u8 (48 + (c : Int) % 10)] 5)) = .ok (.string (digB c)) (w.alloc (.cells #[.int .u8 (48 + (c : Int) % 10)] 5)) := by
  refine run_convert_bytes_back (P := Tryd.prog) _ 56 9 5 ⟨w.heap.size, 0, none⟩ 1 [UInt8.ofNat (48 + c % 10)] (by kernel_rfl) (by kernel_rfl) (by kernel_rfl) ?_
  intro j hj
  obtain rfl : j = 0 := by simpa using hj
  have e : ((UInt8.ofNat (48 + c % 10)).toNat : Int) = 48 + (c : Int) % 10 := by
    rw [UInt8.toNat_ofNat']; omega
  show _ = some (Value.int .u8 ((UInt8.ofNat (48 + c % 10)).toNat : Int))
  rw [e]
  simp [Addr.add]

set_option maxRecDepth 100000 in
set_option maxHeartbeats 1600000 in
theorem markText_any (k : Nat) (w : World) (h1 : 1 ≤ k) (h2 : k < 10 ^ 18) :
    Calls Tryd.prog 27 #[.int .i64 k] w fun e w' => e = .returned (.string (markOf k)) ∧ Below w.heap.size w w' := by
  go_enter Tryd.func27, Tryd.ntmps27
  go_wp2_with fail
  go_loopw [0, 3] (fun i o wr => ∃ (f c : Nat) (out : ByteArray), i = .int .i64 c ∧ o = .string out ∧ c < 10 ^ 18 ∧ c < 10 ^ f ∧ f ≤ 20 ∧ out.size + f ≤ 20 ∧ Hid (mloop f c out = mloop 20 k ⟨#[]⟩) ∧ Below w.heap.size w wr) (fun i _ _ => (intOf i).toNat)
  case atStart => exact ⟨20, k, ⟨#[]⟩, rfl, rfl, h2, by omega, by omega, by decide, rfl, Below.refl _ _⟩
  case round =>
    obtain ⟨f, c, out, rfl, rfl, hc, hcf, hf, ho, HE, hb⟩ := hrel
    by_cases hc0 : 0 < c
    · cases f with
      | zero => simp at hcf; omega
      | succ f =>
        have hcv := digitText c wr
        have hadd := fun w => run_string_add_sum (P := Tryd.prog) w (digB c) out (by rw [digB_size]; omega)
        have hsz : (digB c ++ out : ByteArray).size = out.size + 1 := by rw [ByteArray.size_append, digB_size]; omega
        have HSZ := hideIt hsz
        have HQ : Hid (c / 10 < 10 ^ f) := by rw [Hid]; rw [Nat.pow_succ] at hcf; omega
        have HE2 : Hid (mloop f (c / 10) (digB c ++ out) = mloop 20 k ⟨#[]⟩) := by rw [Hid, ← HE.out, mloop, if_pos hc0]
        clear hsz
        go_wp2_with fail
        go_roundw
        case rel => exact ⟨f, c / 10, _, by go_num, rfl, by omega, HQ.out, by omega, by rw [HSZ.out]; omega, HE2.out, hb.alloc hb.size _⟩
        case measure => simp [intOf]; omega
    · obtain rfl : c = 0 := by omega
      have hadd := fun w => run_string_add_sum (P := Tryd.prog) w ⟨#[109]⟩ out (by rw [show (⟨#[109]⟩ : ByteArray).size = 1 from rfl]; omega)
      have HM : Hid (markOf k = ⟨#[109]⟩ ++ out) := by rw [Hid, markOf, ← HE.out, mloop_zero]
      go_wp2_with fail
      go_ret
      refine ⟨?_, hb⟩
      rw [HM.out]
      rfl

/-- The cells of a row can be written. -/
def WRow (w : World) (b n : Nat) : Prop := ∀ j, j < n → (∃ v, w.cell? ⟨b, j, none⟩ = some v) ∧ w.frozen? ⟨b, j, none⟩ = false

theorem WRow.set {w : World} {b n : Nat} (h : WRow w b n) (a : Addr) (v : Value) : WRow (w.setCell a v) b n := by
  intro j hj
  obtain ⟨⟨u, hu⟩, hf⟩ := h j hj
  refine ⟨?_, by rw [World.frozen?_setCell]; exact hf⟩
  by_cases e : a = ⟨b, j, none⟩
  · subst e; exact ⟨v, World.cell?_setCell_same _ _ _ hu⟩
  · exact ⟨u, by rw [World.cell?_setCell_other (h := e)]; exact hu⟩

theorem WRow.below {w w' : World} {b n B : Nat} (h : WRow w b n) (hb : Below B w w') (hB : b < B) : WRow w' b n := by
  intro j hj
  obtain ⟨⟨u, hu⟩, hf⟩ := h j hj
  refine ⟨⟨u, (below_cell hb hB).trans hu⟩, ?_⟩
  unfold World.frozen? at hf ⊢
  rw [show w'.heap[(⟨b, j, none⟩ : Addr).block]? = w.heap[(⟨b, j, none⟩ : Addr).block]? from hb.block b hB]
  exact hf

/-- Only blocks of P were written, of those that were there. -/
def Only (P : Nat → Prop) (w w' : World) : Prop := w.heap.size ≤ w'.heap.size ∧ ∀ c, c < w.heap.size → ¬ P c → w'.heap[c]? = w.heap[c]?

theorem Only.refl (P : Nat → Prop) (w : World) : Only P w w := ⟨Nat.le_refl _, fun _ _ _ => rfl⟩
theorem Only.trans {P : Nat → Prop} {a b c : World} (h : Only P a b) (k : Only P b c) : Only P a c := ⟨Nat.le_trans h.1 k.1, fun i h1 h2 => (k.2 i (by have := h.1; omega) h2).trans (h.2 i h1 h2)⟩
theorem Only.imp {P Q : Nat → Prop} {a b : World} (h : Only P a b) (hi : ∀ c, P c → Q c) : Only Q a b := ⟨h.1, fun c h1 h2 => h.2 c h1 fun h => h2 (hi c h)⟩
theorem Only.set {P : Nat → Prop} (w : World) {b o : Nat} (hP : P b) (v : Value) : Only P w (w.setCell ⟨b, o, none⟩ v) := ⟨by simp, fun c _ hc => Below.heap_setCell w _ v c (fun e => hc (by rw [e]; exact hP))⟩
theorem Only.of_below {P : Nat → Prop} {w w' : World} (h : Below w.heap.size w w') : Only P w w' := ⟨h.size, fun c hc _ => h.block c hc⟩
theorem Only.cell {P : Nat → Prop} {w w' : World} (h : Only P w w') {b o : Nat} (hb : b < w.heap.size) (hP : ¬ P b) : w'.cell? ⟨b, o, none⟩ = w.cell? ⟨b, o, none⟩ := by
  unfold World.cell?
  rw [show w'.heap[(⟨b, o, none⟩ : Addr).block]? = w.heap[(⟨b, o, none⟩ : Addr).block]? from h.2 b hb hP]

set_option maxHeartbeats 1600000 in
theorem markInt64S_any (lo b n cap k : Nat) (a : Option Addr) (w : World) (ha : 0 < n → a = some ⟨b, 0, none⟩ ∧ lo ≤ b ∧ b < w.heap.size ∧ WRow w b n) (hlo : lo ≤ w.heap.size) (hn : n ≤ 1048576) (hk : k < 10 ^ 17) :
    Calls Tryd.prog 29 #[.slice a n cap, .int .i64 k] w fun e w' => e = .returned (.int .i64 (k + n : Nat)) ∧ (∀ j, j < n → w'.cell? ⟨b, j, none⟩ = some (.int .i64 (k + j : Nat))) ∧ (0 < n → WRow w' b n) ∧ Only (fun c => 0 < n ∧ c = b) w w' ∧ Below lo w w' := by
  have HA := hideIt ha
  clear ha
  go_enter Tryd.func29, Tryd.ntmps29
  go_wp2_with fail
  go_loopw [1, 5] (fun q i wr => ∃ c : Nat, c ≤ n ∧ q = .int .i64 (k + c : Nat) ∧ i = .int .i64 c ∧ (0 < n → WRow wr b n) ∧ (∀ j, j < c → wr.cell? ⟨b, j, none⟩ = some (.int .i64 (k + j : Nat))) ∧ Only (fun c => 0 < n ∧ c = b) w wr ∧ Below lo w wr) (fun _ i _ => n - (intOf i).toNat)
  case atStart => exact ⟨0, Nat.zero_le _, by simp, rfl, fun h => (HA.out h).2.2.2, fun j hj => by omega, Only.refl _ _, Below.refl _ _⟩
  case round =>
    obtain ⟨c, hc, rfl, rfl, hw, hdone, ho, hbl⟩ := hrel
    have HD := hideIt hdone
    clear hdone
    by_cases hlt : c < n
    · have HW := hideIt (hw (by omega))
      clear hw
      obtain ⟨rfl, hlob, hbs, _⟩ := HA.out (by omega)
      obtain ⟨⟨u, hu⟩, hfz⟩ := HW.out c hlt
      go_wp2_with fail
      go_roundw
      case rel =>
        refine ⟨c + 1, by omega, by go_num, by go_num, fun _ => HW.out.set _ _, fun j hj => ?_, ho.trans (Only.set (P := fun c => 0 < n ∧ c = b) _ ⟨by omega, rfl⟩ _), hbl.setCell hlob _⟩
        by_cases e : j = c
        · subst e; rw [Int.natCast_add]; exact World.cell?_setCell_same _ _ _ hu
        · rw [World.cell?_setCell_other (h := by simp; try omega)]; exact HD.out j (by omega)
      case measure => simp [intOf]; omega
    · obtain rfl : c = n := by omega
      go_wp2_with fail
      go_ret
      exact ⟨rfl, HD.out, hw, ho, hbl⟩

set_option maxHeartbeats 1600000 in
theorem heldInt64S_any (B : Nat) (a : Option Addr) (n cap k : Nat) (w : World) (hc : 0 < n → ∃ b, a = some ⟨b, 0, none⟩ ∧ ∀ j, j < n → w.cell? ⟨b, j, none⟩ = some (.int .i64 (k + j : Nat))) (hn : n ≤ 1048576) (hk : k < 10 ^ 17) :
    Calls Tryd.prog 31 #[.slice a n cap, .int .i64 k] w fun e w' => e = .returned (.int .i64 (k + n : Nat)) ∧ w' = w := by
  have HC := hideIt hc
  clear hc
  go_enter Tryd.func31, Tryd.ntmps31
  go_wp2_with fail
  go_loopw [1, 5] (fun q i wr => ∃ c : Nat, c ≤ n ∧ q = .int .i64 (k + c : Nat) ∧ i = .int .i64 c ∧ wr = w) (fun _ i _ => n - (intOf i).toNat)
  case atStart => exact ⟨0, Nat.zero_le _, by simp, rfl, rfl⟩
  case round =>
    obtain ⟨c, hc, rfl, rfl, rfl⟩ := hrel
    by_cases hlt : c < n
    · obtain ⟨b, rfl, hcell⟩ := HC.out (by omega)
      have hc1 := hcell c hlt
      clear hcell
      go_wp2_with fail
      go_roundw
      case rel => exact ⟨c + 1, by omega, by go_num, by go_num, by trivial⟩
      case measure => simp [intOf]; omega
    · obtain rfl : c = n := by omega
      go_wp2_with fail
      go_ret
      exact ⟨rfl, rfl⟩

set_option maxHeartbeats 1600000 in
theorem markStringS_any (lo b n cap k : Nat) (a : Option Addr) (w : World) (ha : 0 < n → a = some ⟨b, 0, none⟩ ∧ lo ≤ b ∧ b < w.heap.size ∧ WRow w b n) (hlo : lo ≤ w.heap.size) (hn : n ≤ 1048576) (hk0 : 1 ≤ k) (hk : k < 10 ^ 17) :
    Calls Tryd.prog 28 #[.slice a n cap, .int .i64 k] w fun e w' => e = .returned (.int .i64 (k + n : Nat)) ∧ (∀ j, j < n → w'.cell? ⟨b, j, none⟩ = some (.string (markOf (k + j)))) ∧ (0 < n → WRow w' b n) ∧ Only (fun c => 0 < n ∧ c = b) w w' ∧ Below lo w w' := by
  have HA := hideIt ha
  clear ha
  go_enter Tryd.func28, Tryd.ntmps28
  go_wp2_with fail
  go_loopw [1, 5] (fun q i wr => ∃ c : Nat, c ≤ n ∧ q = .int .i64 (k + c : Nat) ∧ i = .int .i64 c ∧ (0 < n → WRow wr b n) ∧ (∀ j, j < c → wr.cell? ⟨b, j, none⟩ = some (.string (markOf (k + j)))) ∧ Only (fun c => 0 < n ∧ c = b) w wr ∧ Below lo w wr) (fun _ i _ => n - (intOf i).toNat)
  case atStart => exact ⟨0, Nat.zero_le _, by simp, rfl, fun h => (HA.out h).2.2.2, fun j hj => by omega, Only.refl _ _, Below.refl _ _⟩
  case round =>
    obtain ⟨c, hc, rfl, rfl, hw, hdone, ho, hbl⟩ := hrel
    have HD := hideIt hdone
    clear hdone
    have zs := ho.1
    by_cases hlt : c < n
    · have HW := hideIt (hw (by omega))
      clear hw
      obtain ⟨rfl, hlob, hbs, _⟩ := HA.out (by omega)
      go_wp2_with fail
      rw [show ((k : Int) + (c : Int)) = ((k + c : Nat) : Int) by omega]
      refine (markText_any (k + c) _ (by omega) (by omega)).mono ?_
      rintro e w1 ⟨rfl, hb1⟩
      have HW1 := hideIt (HW.out.below hb1 (by omega))
      obtain ⟨⟨u, hu⟩, hfz⟩ := HW1.out c hlt
      go_wp2_with fail
      go_roundw
      case rel =>
        refine ⟨c + 1, by omega, by go_num, by go_num, fun _ => HW1.out.set _ _, fun j hj => ?_, (ho.trans (Only.of_below hb1)).trans (Only.set (P := fun c => 0 < n ∧ c = b) _ ⟨by omega, rfl⟩ _), (hbl.trans (hb1.mono (by omega))).setCell hlob _⟩
        by_cases e : j = c
        · subst e; exact World.cell?_setCell_same _ _ _ hu
        · rw [World.cell?_setCell_other (h := by simp; try omega), below_cell hb1 (by omega)]; exact HD.out j (by omega)
      case measure => simp [intOf]; omega
    · obtain rfl : c = n := by omega
      go_wp2_with fail
      go_ret
      exact ⟨rfl, HD.out, hw, ho, hbl⟩

set_option maxRecDepth 100000 in
set_option maxHeartbeats 1600000 in
theorem heldStringS_any (B : Nat) (a : Option Addr) (n cap k : Nat) (w : World) (hc : 0 < n → ∃ b, a = some ⟨b, 0, none⟩ ∧ b < w.heap.size ∧ ∀ j, j < n → w.cell? ⟨b, j, none⟩ = some (.string (markOf (k + j)))) (hn : n ≤ 1048576) (hk0 : 1 ≤ k) (hk : k < 10 ^ 17) :
    Calls Tryd.prog 30 #[.slice a n cap, .int .i64 k] w fun e w' => e = .returned (.int .i64 (k + n : Nat)) ∧ Below w.heap.size w w' := by
  have HC := hideIt hc
  clear hc
  go_enter Tryd.func30, Tryd.ntmps30
  go_wp2_with fail
  go_loopw [1, 5] (fun q i wr => ∃ c : Nat, c ≤ n ∧ q = .int .i64 (k + c : Nat) ∧ i = .int .i64 c ∧ Below w.heap.size w wr) (fun _ i _ => n - (intOf i).toNat)
  case atStart => exact ⟨0, Nat.zero_le _, by simp, rfl, Below.refl _ _⟩
  case round =>
    obtain ⟨c, hc, rfl, rfl, hbl⟩ := hrel
    have zs := hbl.size
    by_cases hlt : c < n
    · obtain ⟨b, rfl, hb, hcell⟩ := HC.out (by omega)
      have hc1 : wr.cell? ⟨b, c, none⟩ = some (.string (markOf (k + c))) := (below_cell hbl (by omega)).trans (hcell c hlt)
      have hb2 : b < wr.heap.size := by omega
      clear hcell
      go_wp2_with fail
      go_region_with (go_at_call 27; (try rw [show ((k : Int) + (c : Int)) = ((k + c : Nat) : Int) from (Int.natCast_add k c).symm]); refine (markText_any (k + c) _ ?_ ?_).mono ?_; exact (by omega); exact (by omega); rintro e w5 ⟨rfl, hb5⟩; have hc5 := (below_cell (o := c) hb5 (by simpa using hb2)).trans hc1)
      all_goals
        have HB5 := hideIt (hbl.drew.trans (hb5.mono (by simpa using zs)))
        clear hb5
        go_wp2_with fail
        go_roundw
        case rel => exact ⟨c + 1, by omega, by go_num, by go_num, HB5.out⟩
        case measure => simp [intOf]; omega
    · obtain rfl : c = n := by omega
      go_wp2_with fail
      go_ret
      exact ⟨rfl, hbl⟩
end Go.Proofs.YtgmnihofkpjboaaDoor
