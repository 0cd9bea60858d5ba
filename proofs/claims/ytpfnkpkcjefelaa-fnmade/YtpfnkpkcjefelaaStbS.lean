/-
  The laws' marks: texts of numbers.
-/
import Derived.Test.YtpfnkpkcjefelaaTo
import Derived.Laws.Concat
import Derived.Laws.IdiomStrings
import Derived.Deep.QuietTactic
import Derived.BigQuiet
import Derived.WalkSmall
import Derived.Deep.RegionWith
import Derived.Test.YtpfnkpkcjefelaaStepC
import Derived.Test.YtpfnkpkcjefelaaProg
import Derived.BigRegion
import Derived.Test.YtpfnkpkcjefelaaStbQ
namespace Go.Proofs.Ytpfnkpkcjefelaa
open Go.RowKit
set_option linter.unusedSimpArgs false
set_option linter.unusedVariables false

def digB (c : Nat) : ByteArray := ⟨#[UInt8.ofNat (48 + c % 10)]⟩
theorem digB_size (c : Nat) : (digB c).size = 1 := rfl

def mloop : Nat → Nat → ByteArray → ByteArray
  | 0, _, out => out
  | f + 1, c, out => if 0 < c then mloop f (c / 10) (digB c ++ out) else out

theorem mloop_zero (f : Nat) (out : ByteArray) : mloop f 0 out = out := by cases f <;> simp [mloop]

def markOf (k : Nat) : ByteArray := ⟨#[109]⟩ ++ mloop 20 k ⟨#[]⟩

theorem digitText (c : Nat) (w : World) : (convert 22 9 (.slice (some ⟨w.heap.size, 0, none⟩) 1 1)).run Try.prog (w.alloc (.cells #[.int .u8 (48 + (c : Int) % 10)] 5)) = .ok (.string (digB c)) (w.alloc (.cells #[.int .u8 (48 + (c : Int) % 10)] 5)) := by
  refine run_convert_bytes_back (P := Try.prog) _ 22 9 5 ⟨w.heap.size, 0, none⟩ 1 [UInt8.ofNat (48 + c % 10)] (by kernel_rfl) (by kernel_rfl) (by kernel_rfl) ?_
  intro j hj
  obtain rfl : j = 0 := by simpa using hj
  have e : ((UInt8.ofNat (48 + c % 10)).toNat : Int) = 48 + (c : Int) % 10 := by
    rw [UInt8.toNat_ofNat']; omega
  show _ = some (Value.int .u8 ((UInt8.ofNat (48 + c % 10)).toNat : Int))
  rw [e]
  simp [Addr.add]

set_option maxRecDepth 100000 in
set_option maxHeartbeats 1600000 in
theorem markText_any (k : Nat) (w : World) (h1 : 1 ≤ k) (h2 : k < 10 ^ 18) :
    Calls Try.prog 80 #[.int .i64 k] w fun e w' => e = .returned (.string (markOf k)) ∧ Below w.heap.size w w' := by
  go_enter Try.func80, Try.ntmps80
  go_wp2_with fail
  go_loopw [0, 3] (fun i o wr => ∃ (f c : Nat) (out : ByteArray), i = .int .i64 c ∧ o = .string out ∧ c < 10 ^ 18 ∧ c < 10 ^ f ∧ f ≤ 20 ∧ out.size + f ≤ 20 ∧ Hid (mloop f c out = mloop 20 k ⟨#[]⟩) ∧ Below w.heap.size w wr) (fun i _ _ => (intOf i).toNat)
  case atStart => exact ⟨20, k, ⟨#[]⟩, rfl, rfl, h2, by omega, by omega, by decide, rfl, Below.refl _ _⟩
  case round =>
    obtain ⟨f, c, out, rfl, rfl, hc, hcf, hf, ho, HE, hb⟩ := hrel
    by_cases hc0 : 0 < c
    · cases f with
      | zero => simp at hcf; omega
      | succ f =>
        have hcv := digitText c wr
        have hadd := fun w => run_string_add_sum (P := Try.prog) w (digB c) out (by rw [digB_size]; omega)
        have hsz : (digB c ++ out : ByteArray).size = out.size + 1 := by rw [ByteArray.size_append, digB_size]; omega
        have HSZ := hideIt hsz
        have HQ : Hid (c / 10 < 10 ^ f) := by rw [Hid]; rw [Nat.pow_succ] at hcf; omega
        have HE2 : Hid (mloop f (c / 10) (digB c ++ out) = mloop 20 k ⟨#[]⟩) := by rw [Hid, ← HE.out, mloop, if_pos hc0]
        clear hsz
        go_wp2_with fail
        go_roundw
        case rel => exact ⟨f, c / 10, _, by go_num, rfl, by omega, HQ.out, by omega, by rw [HSZ.out]; omega, HE2.out, hb.alloc hb.size _⟩
        case measure => simp [intOf]; omega
    · obtain rfl : c = 0 := by omega
      have hadd := fun w => run_string_add_sum (P := Try.prog) w ⟨#[109]⟩ out (by rw [show (⟨#[109]⟩ : ByteArray).size = 1 from rfl]; omega)
      have HM : Hid (markOf k = ⟨#[109]⟩ ++ out) := by rw [Hid, markOf, ← HE.out, mloop_zero]
      go_wp2_with fail
      go_ret
      refine ⟨?_, hb⟩
      rw [HM.out]
      rfl

/-- The cells of a row can be written. -/
def WRow (w : World) (b n : Nat) : Prop := ∀ j, j < n → (∃ v, w.cell? ⟨b, j, none⟩ = some v) ∧ w.frozen? ⟨b, j, none⟩ = false

theorem WRow.set {w : World} {b n : Nat} (h : WRow w b n) (a : Addr) (v : Value) : WRow (w.setCell a v) b n := by
  intro j hj
  obtain ⟨⟨u, hu⟩, hf⟩ := h j hj
  refine ⟨?_, by rw [World.frozen?_setCell]; exact hf⟩
  by_cases e : a = ⟨b, j, none⟩
  · subst e; exact ⟨v, World.cell?_setCell_same _ _ _ hu⟩
  · exact ⟨u, by rw [World.cell?_setCell_other (h := e)]; exact hu⟩

theorem WRow.below {w w' : World} {b n B : Nat} (h : WRow w b n) (hb : Below B w w') (hB : b < B) : WRow w' b n := by
  intro j hj
  obtain ⟨⟨u, hu⟩, hf⟩ := h j hj
  refine ⟨⟨u, (below_cell hb hB).trans hu⟩, ?_⟩
  unfold World.frozen? at hf ⊢
  rw [show w'.heap[(⟨b, j, none⟩ : Addr).block]? = w.heap[(⟨b, j, none⟩ : Addr).block]? from hb.block b hB]
  exact hf

/-- Only blocks of P were written, of those that were there. -/
def Only (P : Nat → Prop) (w w' : World) : Prop := w.heap.size ≤ w'.heap.size ∧ ∀ c, c < w.heap.size → ¬ P c → w'.heap[c]? = w.heap[c]?

theorem Only.refl (P : Nat → Prop) (w : World) : Only P w w := ⟨Nat.le_refl _, fun _ _ _ => rfl⟩
theorem Only.trans {P : Nat → Prop} {a b c : World} (h : Only P a b) (k : Only P b c) : Only P a c := ⟨Nat.le_trans h.1 k.1, fun i h1 h2 => (k.2 i (by have := h.1; omega) h2).trans (h.2 i h1 h2)⟩
theorem Only.imp {P Q : Nat → Prop} {a b : World} (h : Only P a b) (hi : ∀ c, P c → Q c) : Only Q a b := ⟨h.1, fun c h1 h2 => h.2 c h1 fun h => h2 (hi c h)⟩
theorem Only.set {P : Nat → Prop} (w : World) {b o : Nat} (hP : P b) (v : Value) : Only P w (w.setCell ⟨b, o, none⟩ v) := ⟨by simp, fun c _ hc => Below.heap_setCell w _ v c (fun e => hc (by rw [e]; exact hP))⟩
theorem Only.of_below {P : Nat → Prop} {w w' : World} (h : Below w.heap.size w w') : Only P w w' := ⟨h.size, fun c hc _ => h.block c hc⟩
theorem Only.cell {P : Nat → Prop} {w w' : World} (h : Only P w w') {b o : Nat} (hb : b < w.heap.size) (hP : ¬ P b) : w'.cell? ⟨b, o, none⟩ = w.cell? ⟨b, o, none⟩ := by
  unfold World.cell?
  rw [show w'.heap[(⟨b, o, none⟩ : Addr).block]? = w.heap[(⟨b, o, none⟩ : Addr).block]? from h.2 b hb hP]

set_option maxHeartbeats 1600000 in
theorem markInt64S_any (lo b n cap k : Nat) (a : Option Addr) (w : World) (ha : 0 < n → a = some ⟨b, 0, none⟩ ∧ lo ≤ b ∧ b < w.heap.size ∧ WRow w b n) (hlo : lo ≤ w.heap.size) (hn : n ≤ 1048576) (hk : k < 10 ^ 17) :
    Calls Try.prog 81 #[.slice a n cap, .int .i64 k] w fun e w' => e = .returned (.int .i64 (k + n : Nat)) ∧ (∀ j, j < n → w'.cell? ⟨b, j, none⟩ = some (.int .i64 (k + j : Nat))) ∧ (0 < n → WRow w' b n) ∧ Only (fun c => 0 < n ∧ c = b) w w' ∧ Below lo w w' := by
  have HA := hideIt ha
  clear ha
  go_enter Try.func81, Try.ntmps81
  go_wp2_with fail
  go_loopw [1, 5] (fun q i wr => ∃ c : Nat, c ≤ n ∧ q = .int .i64 (k + c : Nat) ∧ i = .int .i64 c ∧ (0 < n → WRow wr b n) ∧ (∀ j, j < c → wr.cell? ⟨b, j, none⟩ = some (.int .i64 (k + j : Nat))) ∧ Only (fun c => 0 < n ∧ c = b) w wr ∧ Below lo w wr) (fun _ i _ => n - (intOf i).toNat)
  case atStart => exact ⟨0, Nat.zero_le _, by simp, rfl, fun h => (HA.out h).2.2.2, fun j hj => by omega, Only.refl _ _, Below.refl _ _⟩
  case round =>
    obtain ⟨c, hc, rfl, rfl, hw, hdone, ho, hbl⟩ := hrel
    have HD := hideIt hdone
    clear hdone
    by_cases hlt : c < n
    · have HW := hideIt (hw (by omega))
      clear hw
      obtain ⟨rfl, hlob, hbs, _⟩ := HA.out (by omega)
      obtain ⟨⟨u, hu⟩, hfz⟩ := HW.out c hlt
      go_wp2_with fail
      go_roundw
      case rel =>
        refine ⟨c + 1, by omega, by go_num, by go_num, fun _ => HW.out.set _ _, fun j hj => ?_, ho.trans (Only.set (P := fun c => 0 < n ∧ c = b) _ ⟨by omega, rfl⟩ _), hbl.setCell hlob _⟩
        by_cases e : j = c
        · subst e; rw [Int.natCast_add]; exact World.cell?_setCell_same _ _ _ hu
        · rw [World.cell?_setCell_other (h := by simp; try omega)]; exact HD.out j (by omega)
      case measure => simp [intOf]; omega
    · obtain rfl : c = n := by omega
      go_wp2_with fail
      go_ret
      exact ⟨rfl, HD.out, hw, ho, hbl⟩

set_option maxHeartbeats 1600000 in
theorem heldInt64S_any (B : Nat) (a : Option Addr) (n cap k : Nat) (w : World) (hc : 0 < n → ∃ b, a = some ⟨b, 0, none⟩ ∧ ∀ j, j < n → w.cell? ⟨b, j, none⟩ = some (.int .i64 (k + j : Nat))) (hn : n ≤ 1048576) (hk : k < 10 ^ 17) :
    Calls Try.prog 83 #[.slice a n cap, .int .i64 k] w fun e w' => e = .returned (.int .i64 (k + n : Nat)) ∧ w' = w := by
  have HC := hideIt hc
  clear hc
  go_enter Try.func83, Try.ntmps83
  go_wp2_with fail
  go_loopw [1, 5] (fun q i wr => ∃ c : Nat, c ≤ n ∧ q = .int .i64 (k + c : Nat) ∧ i = .int .i64 c ∧ wr = w) (fun _ i _ => n - (intOf i).toNat)
  case atStart => exact ⟨0, Nat.zero_le _, by simp, rfl, rfl⟩
  case round =>
    obtain ⟨c, hc, rfl, rfl, rfl⟩ := hrel
    by_cases hlt : c < n
    · obtain ⟨b, rfl, hcell⟩ := HC.out (by omega)
      have hc1 := hcell c hlt
      clear hcell
      go_wp2_with fail
      go_roundw
      case rel => exact ⟨c + 1, by omega, by go_num, by go_num, by trivial⟩
      case measure => simp [intOf]; omega
    · obtain rfl : c = n := by omega
      go_wp2_with fail
      go_ret
      exact ⟨rfl, rfl⟩

set_option maxHeartbeats 1600000 in
theorem markStringS_any (lo b n cap k : Nat) (a : Option Addr) (w : World) (ha : 0 < n → a = some ⟨b, 0, none⟩ ∧ lo ≤ b ∧ b < w.heap.size ∧ WRow w b n) (hlo : lo ≤ w.heap.size) (hn : n ≤ 1048576) (hk0 : 1 ≤ k) (hk : k < 10 ^ 17) :
    Calls Try.prog 45 #[.slice a n cap, .int .i64 k] w fun e w' => e = .returned (.int .i64 (k + n : Nat)) ∧ (∀ j, j < n → w'.cell? ⟨b, j, none⟩ = some (.string (markOf (k + j)))) ∧ (0 < n → WRow w' b n) ∧ Only (fun c => 0 < n ∧ c = b) w w' ∧ Below lo w w' := by
  have HA := hideIt ha
  clear ha
  go_enter Try.func45, Try.ntmps45
  go_wp2_with fail
  go_loopw [1, 5] (fun q i wr => ∃ c : Nat, c ≤ n ∧ q = .int .i64 (k + c : Nat) ∧ i = .int .i64 c ∧ (0 < n → WRow wr b n) ∧ (∀ j, j < c → wr.cell? ⟨b, j, none⟩ = some (.string (markOf (k + j)))) ∧ Only (fun c => 0 < n ∧ c = b) w wr ∧ Below lo w wr) (fun _ i _ => n - (intOf i).toNat)
  case atStart => exact ⟨0, Nat.zero_le _, by simp, rfl, fun h => (HA.out h).2.2.2, fun j hj => by omega, Only.refl _ _, Below.refl _ _⟩
  case round =>
    obtain ⟨c, hc, rfl, rfl, hw, hdone, ho, hbl⟩ := hrel
    have HD := hideIt hdone
    clear hdone
    have zs := ho.1
    by_cases hlt : c < n
    · have HW := hideIt (hw (by omega))
      clear hw
      obtain ⟨rfl, hlob, hbs, _⟩ := HA.out (by omega)
      go_wp2_with fail
      rw [show ((k : Int) + (c : Int)) = ((k + c : Nat) : Int) by omega]
      refine (markText_any (k + c) _ (by omega) (by omega)).mono ?_
      rintro e w1 ⟨rfl, hb1⟩
      have HW1 := hideIt (HW.out.below hb1 (by omega))
      obtain ⟨⟨u, hu⟩, hfz⟩ := HW1.out c hlt
      go_wp2_with fail
      go_roundw
      case rel =>
        refine ⟨c + 1, by omega, by go_num, by go_num, fun _ => HW1.out.set _ _, fun j hj => ?_, (ho.trans (Only.of_below hb1)).trans (Only.set (P := fun c => 0 < n ∧ c = b) _ ⟨by omega, rfl⟩ _), (hbl.trans (hb1.mono (by omega))).setCell hlob _⟩
        by_cases e : j = c
        · subst e; exact World.cell?_setCell_same _ _ _ hu
        · rw [World.cell?_setCell_other (h := by simp; try omega), below_cell hb1 (by omega)]; exact HD.out j (by omega)
      case measure => simp [intOf]; omega
    · obtain rfl : c = n := by omega
      go_wp2_with fail
      go_ret
      exact ⟨rfl, HD.out, hw, ho, hbl⟩

set_option maxRecDepth 100000 in
set_option maxHeartbeats 1600000 in
theorem heldStringS_any (B : Nat) (a : Option Addr) (n cap k : Nat) (w : World) (hc : 0 < n → ∃ b, a = some ⟨b, 0, none⟩ ∧ b < w.heap.size ∧ ∀ j, j < n → w.cell? ⟨b, j, none⟩ = some (.string (markOf (k + j)))) (hn : n ≤ 1048576) (hk0 : 1 ≤ k) (hk : k < 10 ^ 17) :
    Calls Try.prog 82 #[.slice a n cap, .int .i64 k] w fun e w' => e = .returned (.int .i64 (k + n : Nat)) ∧ Below w.heap.size w w' := by
  have HC := hideIt hc
  clear hc
  go_enter Try.func82, Try.ntmps82
  go_wp2_with fail
  go_loopw [1, 5] (fun q i wr => ∃ c : Nat, c ≤ n ∧ q = .int .i64 (k + c : Nat) ∧ i = .int .i64 c ∧ Below w.heap.size w wr) (fun _ i _ => n - (intOf i).toNat)
  case atStart => exact ⟨0, Nat.zero_le _, by simp, rfl, Below.refl _ _⟩
  case round =>
    obtain ⟨c, hc, rfl, rfl, hbl⟩ := hrel
    have zs := hbl.size
    by_cases hlt : c < n
    · obtain ⟨b, rfl, hb, hcell⟩ := HC.out (by omega)
      have hc1 : wr.cell? ⟨b, c, none⟩ = some (.string (markOf (k + c))) := (below_cell hbl (by omega)).trans (hcell c hlt)
      have hb2 : b < wr.heap.size := by omega
      clear hcell
      go_wp2_with fail
      go_region_with (go_at_call 80; (try rw [show ((k : Int) + (c : Int)) = ((k + c : Nat) : Int) from (Int.natCast_add k c).symm]); refine (markText_any (k + c) _ ?_ ?_).mono ?_; exact (by omega); exact (by omega); rintro e w5 ⟨rfl, hb5⟩; have hc5 := (below_cell (o := c) hb5 (by simpa using hb2)).trans hc1)
      all_goals
        have HB5 := hideIt (hbl.drew.trans (hb5.mono (by simpa using zs)))
        clear hb5
        go_wp2_with fail
        go_roundw
        case rel => exact ⟨c + 1, by omega, by go_num, by go_num, HB5.out⟩
        case measure => simp [intOf]; omega
    · obtain rfl : c = n := by omega
      go_wp2_with fail
      go_ret
      exact ⟨rfl, hbl⟩
end Go.Proofs.Ytpfnkpkcjefelaa

/-
  slices' swapRange and rotate at rows of numbers: what stands where behind them.
-/
namespace Go.Proofs.Ytpfnkpkcjefelaa
open Go.RowKit
set_option linter.unusedSimpArgs false
set_option linter.unusedVariables false

def nums (f : Nat → Int) (j : Nat) : Value := .int .i64 (f j)

theorem nums_set2 {w : World} {g t N : Nat} {f : Nat → Int} (h : w.rowIs g t N (nums f)) (x y : Nat) (u v : Int) : ((w.setCell ⟨g, x, none⟩ (.int .i64 u)).setCell ⟨g, y, none⟩ (.int .i64 v)).rowIs g t N (nums (fun p => if p = y then v else if p = x then u else f p)) := by
  refine ((h.set x _).set y _).congr fun p _ => ?_
  unfold nums
  by_cases e1 : p = y
  · simp [e1]
  · by_cases e2 : p = x
    · subst e2; simp [e1]
    · simp [e1, e2]

/-- Nothing but block g has turned; there may be more blocks. -/
def Sw (g : Nat) (w w' : World) : Prop := w'.os = w.os ∧ w'.tape = w.tape ∧ w'.output = w.output ∧ Only (· = g) w w'

theorem Sw.refl (g : Nat) (w : World) : Sw g w w := ⟨rfl, rfl, rfl, Only.refl _ _⟩
theorem Sw.trans {g : Nat} {a b c : World} (h : Sw g a b) (k : Sw g b c) : Sw g a c := ⟨k.1.trans h.1, k.2.1.trans h.2.1, k.2.2.1.trans h.2.2.1, h.2.2.2.trans k.2.2.2⟩
theorem Sw.set {g : Nat} {a b : World} (h : Sw g a b) (o : Nat) (v : Value) : Sw g a (b.setCell ⟨g, o, none⟩ v) := by
  have hb : Below g b (b.setCell ⟨g, o, none⟩ v) := (Below.refl _ _).setCell (p := ⟨g, o, none⟩) (Nat.le_refl _) v
  exact h.trans ⟨hb.os, hb.tape, hb.output, Only.set (P := (· = g)) b rfl v⟩
theorem Sw.drew {g : Nat} {a b : World} (h : Sw g a b) : Sw g a b.drew := ⟨h.1, h.2.1, h.2.2.1, h.2.2.2⟩
theorem Sw.drewN {g : Nat} {a b : World} (h : Sw g a b) (n : Nat) : Sw g a (b.drewN n) := ⟨h.1, h.2.1, h.2.2.1, h.2.2.2⟩
theorem Sw.below {g B : Nat} {a b : World} (h : Sw g a b) (hB : B ≤ g) (hs : B ≤ a.heap.size) : Below B a b := ⟨h.1, h.2.1, h.2.2.1, h.2.2.2.1, fun k hk => h.2.2.2.2 k (by omega) (by omega)⟩

set_option maxRecDepth 100000 in
set_option maxHeartbeats 4000000 in
theorem swapRange_any (g N cap : Nat) (f : Nat → Int) (a b n : Nat) (cf : Value) (w : World) (h : w.rowIs g 3 N (nums f)) (ha : a + n ≤ N) (hb : b + n ≤ N) (hd : a + n ≤ b ∨ b + n ≤ a) (hN : N ≤ 1099511627776) :
    Calls Try.prog 128 #[.slice (some ⟨g, 0, none⟩) N cap, .int .i64 a, .int .i64 b, .int .i64 n, cf] w fun e w' => e = .returned (.tuple #[]) ∧ w'.rowIs g 3 N (nums (swp a b n f)) ∧ Sw g w w' := by
  have HR := hideIt h
  clear h
  go_enter Try.func128, Try.ntmps128
  go_wp2_with fail
  go_loopw [10] (fun i wr => ∃ k : Nat, k ≤ n ∧ i = .int .i64 k ∧ wr.rowIs g 3 N (nums (swp a b k f)) ∧ Sw g w wr) (fun i _ => n - (intOf i).toNat)
  case atStart => exact ⟨0, Nat.zero_le _, rfl, HR.out.congr fun j _ => by unfold nums; rw [swp_zero], Sw.refl _ _⟩
  case round =>
    obtain ⟨k, hk, rfl, hrow, honly⟩ := hrel
    by_cases hlt : k < n
    · have c1 := hrow.cell (i := a + k) (by omega)
      have c2 := hrow.cell (i := b + k) (by omega)
      have f1 := hrow.frozen (a + k)
      have f2 := hrow.frozen (b + k)
      have hak : a + k < N := by omega
      have hbk : b + k < N := by omega
      have hakI : (a : Int) + (k : Int) < (N : Int) := by omega
      have hbkI : (b : Int) + (k : Int) < (N : Int) := by omega
      have ta : ((a : Int) + (k : Int)).toNat = a + k := by omega
      have tb : ((b : Int) + (k : Int)).toNat = b + k := by omega
      unfold nums at c1 c2
      have hnab : a + k ≠ b + k := by omega
      have hnba : b + k ≠ a + k := by omega
      have HNEW : Hid (((wr.setCell ⟨g, a + k, none⟩ (.int .i64 (swp a b k f (b + k)))).setCell ⟨g, b + k, none⟩ (.int .i64 (swp a b k f (a + k)))).drew.rowIs g 3 N (nums (swp a b (k + 1) f))) := by
        refine (nums_set2 hrow (a + k) (b + k) (swp a b k f (b + k)) (swp a b k f (a + k))).congr fun p _ => ?_
        unfold nums
        rw [swp_succ (by omega)]
      have HO := hideIt ((honly.set (a + k) (.int .i64 (swp a b k f (b + k)))).set (b + k) (.int .i64 (swp a b k f (a + k)))).drew
      clear hrow honly
      go_wp2_with fail
      go_region
      all_goals
        go_wp2_with fail
        go_roundw
        case rel => exact ⟨k + 1, by omega, by go_num, HNEW.out, HO.out⟩
        case measure => simp [intOf]; omega
    · obtain rfl : k = n := by omega
      go_wp2_with fail
      refine ⟨rfl, .tuple #[], results_none rfl _ _ _, rfl, hrow, honly⟩

set_option maxRecDepth 100000 in
set_option maxHeartbeats 4000000 in
theorem rotate_any (g N cap : Nat) (f : Nat → Int) (a m b : Nat) (cf : Value) (w : World) (h : w.rowIs g 3 N (nums f)) (h1 : a < m) (h2 : m < b) (h3 : b ≤ N) (hN : N ≤ 1099511627776) :
    Calls Try.prog 127 #[.slice (some ⟨g, 0, none⟩) N cap, .int .i64 a, .int .i64 m, .int .i64 b, cf] w fun e w' => e = .returned (.tuple #[]) ∧ w'.rowIs g 3 N (nums (rot a m b f)) ∧ Sw g w w' := by
  have HR := hideIt h
  clear h
  have i0 : (m : Int) - (a : Int) = ((m - a : Nat) : Int) := by omega
  have j0 : (b : Int) - (m : Int) = ((b - m : Nat) : Int) := by omega
  go_enter Try.func127, Try.ntmps127
  go_wp2_with fail
  go_loopw [10, 11] (fun vi vj wr => ∃ (s i j : Nat) (fk : Nat → Int), vi = .int .i64 i ∧ vj = .int .i64 j ∧ 0 < i ∧ 0 < j ∧ Hid (s + i = m) ∧ i ≤ m ∧ m + j ≤ b ∧ Hid (∀ p, rot s (s + i) (s + i + j) fk p = rot a m b f p) ∧ wr.rowIs g 3 N (nums fk) ∧ Sw g w wr) (fun vi vj _ => (intOf vi).toNat + (intOf vj).toNat)
  case atStart => exact ⟨a, m - a, b - m, f, by go_num, by go_num, by omega, by omega, (by rw [Hid]; omega), by omega, by omega, (fun p => by rw [show a + (m - a) = m by omega, show m + (b - m) = b by omega]), HR.out, Sw.refl _ _⟩
  case round =>
    obtain ⟨s, i, j, fk, rfl, rfl, hi, hj, HS, him, hjb, HT, hrow, hsw⟩ := hrel
    have HROW := hideIt hrow
    have HSW := hideIt hsw
    clear hrow hsw i0 j0
    have es : (m : Int) - (i : Int) = (s : Int) := by have := HS.out; omega
    by_cases e : i = j
    · have q : ((i : Int) != (j : Int)) = false := by rw [e]; simp
      have HE := hideIt e
      clear e
      go_wp2_with fail
      refine (swapRange_any g N cap fk s m i cf wr HROW.out (by have := HS.out; omega) (by have := HE.out; omega) (Or.inl (by have := HS.out; omega)) hN).mono ?_
      rintro e w1 ⟨rfl, hr1, hs1⟩
      go_wp2_with fail
      refine ⟨rfl, .tuple #[], results_none rfl _ _ _, rfl, hr1.congr fun p _ => ?_, HSW.out.trans hs1⟩
      unfold nums
      rw [← HT.out p, ← HS.out, ← HE.out, rot_same]
    · have q : ((i : Int) != (j : Int)) = true := by rw [bne_iff_ne]; omega
      have HE := hideIt e
      clear e
      by_cases c : j < i
      · have c' : (j : Int) < (i : Int) := by omega
        have es2 : (i : Int) - (j : Int) = ((i - j : Nat) : Int) := by omega
        have HT2 : Hid (∀ p, rot (s + j) (s + j + (i - j)) (s + j + (i - j) + j) (swp s m j fk) p = rot a m b f p) := fun p => by
          rw [← HT.out p, ← rot_more c hj fk p, ← HS.out, show s + j + (i - j) = s + i by omega]
        go_wp2_with fail
        refine (swapRange_any g N cap fk s m j cf wr HROW.out (by have := HS.out; omega) (by omega) (Or.inl (by have := HS.out; omega)) hN).mono ?_
        rintro e w1 ⟨rfl, hr1, hs1⟩
        go_wp2_with fail
        go_roundw
        case rel => exact ⟨s + j, i - j, j, swp s m j fk, by go_num, by go_num, by omega, hj, (by have := HS.out; rw [Hid]; omega), by omega, hjb, HT2, hr1, HSW.out.trans hs1⟩
        case measure => simp [intOf]; omega
      · have c' : ¬ (j : Int) < (i : Int) := by omega
        have es2 : (j : Int) - (i : Int) = ((j - i : Nat) : Int) := by have := HE.out; omega
        have es3 : (m : Int) + (j : Int) - (i : Int) = ((s + j : Nat) : Int) := by have := HS.out; omega
        have HT2 : Hid (∀ p, rot s (s + i) (s + i + (j - i)) (swp s (s + j) i fk) p = rot a m b f p) := fun p => by
          have := HE.out
          rw [← HT.out p, ← rot_less (show i < j by omega) hi fk p, show s + i + (j - i) = s + j by omega]
        go_wp2_with fail
        refine (swapRange_any g N cap fk s (s + j) i cf wr HROW.out (by have := HS.out; omega) (by have := HS.out; omega) (Or.inl (by have := HE.out; omega)) hN).mono ?_
        rintro e w1 ⟨rfl, hr1, hs1⟩
        go_wp2_with fail
        go_roundw
        case rel => exact ⟨s, i, j - i, swp s (s + j) i fk, by go_num, by go_num, hi, by have := HE.out; omega, HS, him, by omega, HT2, hr1, HSW.out.trans hs1⟩
        case measure => simp [intOf]; omega
end Go.Proofs.Ytpfnkpkcjefelaa

/-
  slices' symMerge at rows of numbers, with the closure of sortedPlaces: two rows that rise become one.
-/
namespace Go.Proofs.Ytpfnkpkcjefelaa
open Go.RowKit
set_option linter.unusedSimpArgs false
set_option linter.unusedVariables false

/-- The closure that compares two places: it turns nothing. -/
def CmpAt (g N : Nat) (w0 : World) (c1 c2 : Value) (cf : Int → Int → Int) : Prop :=
  ∀ W, Sw g w0 W → ∀ x y : Int, 0 ≤ x → x < N → 0 ≤ y → y < N → Calls Try.prog 116 #[.int .i64 x, .int .i64 y, c1, c2] W fun e W' => e = .returned (.int .i64 (cf x y)) ∧ ∃ n, W' = W.drewN n

def NumsIn (f : Nat → Int) (N : Nat) : Prop := ∀ p, p < N → 0 ≤ f p ∧ f p < N

theorem Merged.vals {R : Int → Int → Prop} {f f' : Nat → Int} {a b N : Nat} (h : Merged R f f' a b) (hv : NumsIn f N) (hb : b ≤ N) : NumsIn f' N := fun p hp => by
  by_cases c : a ≤ p ∧ p < b
  · obtain ⟨q, q1, q2, q3⟩ := h.inn p c.1 c.2
    rw [q3]; exact hv q (by omega)
  · rw [h.out p (by omega)]; exact hv p hp

theorem rot_vals {s m e N : Nat} {f : Nat → Int} (hv : NumsIn f N) (h1 : s ≤ m) (h2 : m ≤ e) (h3 : e ≤ N) : NumsIn (rot s m e f) N := fun p hp => by
  obtain ⟨q, q1, q2, q3⟩ := rot_inn (f := f) h1 h2 (Nat.zero_le s) h3 p (Nat.zero_le _) hp
  rw [q3]; exact hv q q2

/-- What is asked of a merge. -/
structure Asked (R : Int → Int → Prop) (cf : Int → Int → Int) (g N : Nat) (w0 : World) (c1 c2 : Value) (f : Nat → Int) (a m b : Nat) (w : World) : Prop where
  tot : Tot R
  cmp : CmpAt g N w0 c1 c2 cf
  cr : ∀ x y : Int, x < y → (cf y x < 0 ↔ R y x)
  row : w.rowIs g 3 N (nums f)
  sw : Sw g w0 w
  val : NumsIn f N
  am : a < m
  mb : m < b
  bN : b ≤ N
  NN : N ≤ 1099511627776
  r1 : Rises R f a m
  r2 : Rises R f m b
  cx : Cross f a m b

set_option maxRecDepth 100000 in
set_option maxHeartbeats 6400000 in
theorem symMerge_1 (R : Int → Int → Prop) (cf : Int → Int → Int) (g N cap : Nat) (w0 : World) (c1 c2 : Value) (f : Nat → Int) (a m b : Nat) (w : World) (h : Asked R cf g N w0 c1 c2 f a m b w) (hm : m = a + 1) :
    Calls Try.prog 126 #[.slice (some ⟨g, 0, none⟩) N cap, .int .i64 a, .int .i64 m, .int .i64 b, .func (.func 116) #[] #[c1, c2]] w fun e w' => e = .returned (.tuple #[]) ∧ ∃ f', w'.rowIs g 3 N (nums f') ∧ Merged R f f' a b ∧ Sw g w0 w' := by
  have H := hideIt h
  have hab := h.mb
  have hbN := h.bN
  have hNN := h.NN
  clear h
  have hone : ((m : Int) - (a : Int) == 1) = true := by rw [beq_iff_eq]; omega
  have h1a : a + 1 ≤ m := by omega
  have h1b : m ≤ a + 1 := by omega
  have HM1 := hideIt hm
  clear hm
  go_enter Try.func126, Try.ntmps126
  go_wp2_with fail
  go_loopw [10, 11] (fun vi vj wr => ∃ i j : Nat, vi = .int .i64 i ∧ vj = .int .i64 j ∧ m ≤ i ∧ i ≤ j ∧ j ≤ b ∧ Hid (∀ q, m ≤ q → q < i → R (f q) (f a)) ∧ Hid (∀ q, j ≤ q → q < b → R (f a) (f q)) ∧ wr.rowIs g 3 N (nums f) ∧ Sw g w0 wr) (fun vi vj _ => (intOf vj).toNat - (intOf vi).toNat)
  case atStart => exact ⟨m, b, rfl, rfl, Nat.le_refl _, by omega, Nat.le_refl _, fun q h1 h2 => absurd h1 (by omega), fun q h1 h2 => absurd h1 (by omega), H.out.row, H.out.sw⟩
  case round =>
    obtain ⟨i, j, rfl, rfl, hai, hij, hjb, HL, HG, hrow, hsw⟩ := hrel
    by_cases hlt : i < j
    case pos =>
      obtain ⟨x, hx⟩ : ∃ x : Nat, x = (i + j) / 2 := ⟨_, rfl⟩
      have x1 : i ≤ x := by omega
      have x2 : x < j := by omega
      have p0 : ((i : Int) + (j : Int)) / 2 = (x : Int) := by omega
      have hxN : x < N := by omega
      have haN : a < N := by omega
      have d1 := hrow.cell hxN
      have d2 := hrow.cell haN
      unfold nums at d1 d2
      have v1 := H.out.val x hxN
      have v2 := H.out.val a haN
      obtain ⟨v11, v12⟩ := v1
      obtain ⟨v21, v22⟩ := v2
      have HCR := hideIt (H.out.cr (f a) (f x) (H.out.cx a x (Nat.le_refl _) (by omega) (by omega) (by omega)))
      have HLT := hideIt (H.out.cx a x (Nat.le_refl _) (by omega) (by omega) (by omega))
      have HF := hideIt (find_1 H.out.tot (a := a) H.out.r2 (h := x) (by omega) (by omega))
      have HROW := hideIt hrow
      have HSW := hideIt hsw
      clear hx hrow hsw
      by_cases hc : cf (f x) (f a) < 0
      · have HL2 : Hid (∀ q, m ≤ q → q < x + 1 → R (f q) (f a)) := fun q h1 h2 => HF.out.1 (HCR.out.1 hc) q h1 (by omega)
        go_wp2_with fail
        go_quiet ((go_at_call 116; exact Calls.quiet_of (H.out.cmp _ (HSW.out.drewN _) (f x) (f a) v11 v12 v21 v22)))
        go_wp2_with fail
        go_roundw
        case rel => exact ⟨x + 1, j, by go_num, rfl, by omega, by omega, hjb, HL2, HG, HROW.out, HSW.out.drewN nq⟩
        case measure => simp [intOf]; omega
      · have HG2 : Hid (∀ q, x ≤ q → q < b → R (f a) (f q)) := fun q h1 h2 => HF.out.2 (not_ahead H.out.tot HLT.out (fun hr => hc (HCR.out.2 hr))) q h1 h2
        go_wp2_with fail
        go_quiet ((go_at_call 116; exact Calls.quiet_of (H.out.cmp _ (HSW.out.drewN _) (f x) (f a) v11 v12 v21 v22)))
        go_wp2_with fail
        go_roundw
        case rel => exact ⟨i, x, rfl, rfl, hai, x1, by omega, HL, HG2, HROW.out, HSW.out.drewN nq⟩
        case measure => simp [intOf]; omega
    case neg =>
    obtain rfl : i = j := by omega
    have HM : Hid (Merged R f (rot a m i f) a b) := merged_1 (by omega) hai hjb H.out.r1 H.out.r2 (fun p q h1 h2 h3 h4 => by
        obtain rfl : p = a := by omega
        exact HL.out q h3 h4) (fun p q h1 h2 h3 h4 => by
        obtain rfl : p = a := by omega
        exact HG.out q h3 h4)
    have ei : (i : Int) - 1 = ((i - 1 : Nat) : Int) := by omega
    obtain ⟨i1, hi1⟩ : ∃ i1, i = i1 + 1 := ⟨i - 1, by omega⟩
    subst hi1
    have ei2 : ((i1 + 1 : Nat) : Int) - 1 = (i1 : Int) := by omega
    clear ei
    obtain ⟨W0, rfl⟩ : ∃ W0, W0 = wr := ⟨_, rfl⟩
    have HROW := hideIt hrow
    have HSW := hideIt hsw
    clear hrow hsw hlt
    go_wp2_with fail
    go_loopw [13] (fun vk wr => ∃ k : Nat, vk = .int .i64 k ∧ a ≤ k ∧ k ≤ i1 ∧ wr.rowIs g 3 N (nums (rot a m (k + 1) f)) ∧ Sw g w0 wr) (fun vk _ => i1 - (intOf vk).toNat)
    case atStart => exact ⟨a, rfl, Nat.le_refl _, by omega, HROW.out.congr fun p _ => by unfold nums; rw [rot_none (Or.inr HM1.out) (by omega) (by omega)], HSW.out⟩
    case round =>
      obtain ⟨k, rfl, hak, hki, hrow, hsw⟩ := hrel
      by_cases hlt : k < i1
      · have q1 := hrow.cell (i := k) (by omega)
        have q2 := hrow.cell (i := k + 1) (by omega)
        have f1 := hrow.frozen k
        have f2 := hrow.frozen (k + 1)
        unfold nums at q1 q2
        have hkN : k < N := by omega
        have hk1N : k + 1 < N := by omega
        have t1 : ((k : Int) + 1).toNat = k + 1 := by omega
        have b1 : (k : Int) + 1 < (N : Int) := by omega
        obtain ⟨u, hu⟩ : ∃ u, rot a m (k + 1) f k = u := ⟨_, rfl⟩
        obtain ⟨v, hv⟩ : ∃ v, rot a m (k + 1) f (k + 1) = v := ⟨_, rfl⟩
        rw [hu] at q1
        rw [hv] at q2
        have HNEW : Hid (((wr.setCell ⟨g, k, none⟩ (.int .i64 v)).setCell ⟨g, k + 1, none⟩ (.int .i64 u)).drew.rowIs g 3 N (nums (rot a m (k + 1 + 1) f))) := by
          refine (nums_set2 hrow k (k + 1) v u).congr fun p _ => ?_
          unfold nums
          rw [HM1.out] at hu hv ⊢; rw [← rot_up hak f p, hu, hv]
        have HO := hideIt ((hsw.set k (.int .i64 v)).set (k + 1) (.int .i64 u)).drew
        clear hrow hsw hu hv
        go_wp2_with fail
        go_region
        all_goals
          go_wp2_with fail
          go_roundw
          case rel => exact ⟨k + 1, by go_num, by omega, by omega, HNEW.out, HO.out⟩
          case measure => simp [intOf]; omega
      · obtain rfl : k = i1 := by omega
        go_wp2_with fail
        refine ⟨rfl, .tuple #[], results_none rfl _ _ _, rfl, _, hrow, HM.out, hsw⟩
end Go.Proofs.Ytpfnkpkcjefelaa
