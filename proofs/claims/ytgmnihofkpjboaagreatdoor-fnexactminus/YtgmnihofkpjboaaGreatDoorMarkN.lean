/-
  The laws' marks: texts of numbers.
-/
import Derived.Test.YtgmnihofkpjboaaGreatDoorTo
import Derived.Laws.Concat
import Derived.Laws.IdiomStrings
import Derived.Deep.QuietTactic
import Derived.BigQuiet
import Derived.WalkSmall
import Derived.Deep.RegionWith
namespace Go.Proofs.YtgmnihofkpjboaaGreatDoor
open Go.RowKit
set_option linter.unusedSimpArgs false
set_option linter.unusedVariables false

def digB (c : Nat) : ByteArray := ⟨#[UInt8.ofNat (48 + c % 10)]⟩
theorem digB_size (c : Nat) : (digB c).size = 1 := rfl

def mloop : Nat → Nat → ByteArray → ByteArray
  | 0, _, out => out
  | f + 1, c, out => if 0 < c then mloop f (c / 10) (digB c ++ out) else out

theorem mloop_zero (f : Nat) (out : ByteArray) : mloop f 0 out = out := by cases f <;> simp [mloop]

def markOf (k : Nat) : ByteArray := ⟨#[109]⟩ ++ mloop 20 k ⟨#[]⟩

theorem digitText (c : Nat) (w : World) : (convert 78 9 (.slice (some ⟨w.heap.size, 0, none⟩) 1 1)).run Tryz.prog (w.alloc (.cells #[.int .u8 (48 + (c : Int) % 10)] 5)) = .ok (.string (digB c)) (w.alloc (.cells #[.int .u8 (48 + (c : Int) % 10)] 5)) := by
  refine run_convert_bytes_back (P := Tryz.prog) _ 78 9 5 ⟨w.heap.size, 0, none⟩ 1 [UInt8.ofNat (48 + c % 10)] (by kernel_rfl) (by kernel_rfl) (by kernel_rfl) ?_
  intro j hj
  obtain rfl : j = 0 := by simpa using hj
  have e : ((UInt8.ofNat (48 + c % 10)).toNat : Int) = 48 + (c : Int) % 10 := by
    rw [UInt8.toNat_ofNat']; omega
  show _ = some (Value.int .u8 ((UInt8.ofNat (48 + c % 10)).toNat : Int))
  rw [e]
  simp [Addr.add]

set_option maxRecDepth 100000 in
set_option maxHeartbeats 1600000 in
theorem markText_any (k : Nat) (w : World) (h1 : 1 ≤ k) (h2 : k < 10 ^ 18) :
    Calls Tryz.prog 18 #[.int .i64 k] w fun e w' => e = .returned (.string (markOf k)) ∧ Below w.heap.size w w' := by
  go_enter Tryz.func18, Tryz.ntmps18
  go_wp2_with fail
  go_loopw [0, 3] (fun i o wr => ∃ (f c : Nat) (out : ByteArray), i = .int .i64 c ∧ o = .string out ∧ c < 10 ^ 18 ∧ c < 10 ^ f ∧ f ≤ 20 ∧ out.size + f ≤ 20 ∧ Hid (mloop f c out = mloop 20 k ⟨#[]⟩) ∧ Below w.heap.size w wr) (fun i _ _ => (intOf i).toNat)
  case atStart => exact ⟨20, k, ⟨#[]⟩, rfl, rfl, h2, by omega, by omega, by decide, rfl, Below.refl _ _⟩
  case round =>
    obtain ⟨f, c, out, rfl, rfl, hc, hcf, hf, ho, HE, hb⟩ := hrel
    by_cases hc0 : 0 < c
    · cases f with
      | zero => simp at hcf; omega
      | succ f =>
        have hcv := digitText c wr
        have hadd := fun w => run_string_add_sum (P := Tryz.prog) w (digB c) out (by rw [digB_size]; omega)
        have hsz : (digB c ++ out : ByteArray).size = out.size + 1 := by rw [ByteArray.size_append, digB_size]; omega
        have HSZ := hideIt hsz
        have HQ : Hid (c / 10 < 10 ^ f) := by rw [Hid]; rw [Nat.pow_succ] at hcf; omega
        have HE2 : Hid (mloop f (c / 10) (digB c ++ out) = mloop 20 k ⟨#[]⟩) := by rw [Hid, ← HE.out, mloop, if_pos hc0]
        clear hsz
        go_wp2_with fail
        go_roundw
        case rel => exact ⟨f, c / 10, _, by go_num, rfl, by omega, HQ.out, by omega, by rw [HSZ.out]; omega, HE2.out, hb.alloc hb.size _⟩
        case measure => simp [intOf]; omega
    · obtain rfl : c = 0 := by omega
      have hadd := fun w => run_string_add_sum (P := Tryz.prog) w ⟨#[109]⟩ out (by rw [show (⟨#[109]⟩ : ByteArray).size = 1 from rfl]; omega)
      have HM : Hid (markOf k = ⟨#[109]⟩ ++ out) := by rw [Hid, markOf, ← HE.out, mloop_zero]
      go_wp2_with fail
      go_ret
      refine ⟨?_, hb⟩
      rw [HM.out]
      rfl

/-- The cells of a row can be written. -/
def WRow (w : World) (b n : Nat) : Prop := ∀ j, j < n → (∃ v, w.cell? ⟨b, j, none⟩ = some v) ∧ w.frozen? ⟨b, j, none⟩ = false

theorem WRow.set {w : World} {b n : Nat} (h : WRow w b n) (a : Addr) (v : Value) : WRow (w.setCell a v) b n := by
  intro j hj
  obtain ⟨⟨u, hu⟩, hf⟩ := h j hj
  refine ⟨?_, by rw [World.frozen?_setCell]; exact hf⟩
  by_cases e : a = ⟨b, j, none⟩
  · subst e; exact ⟨v, World.cell?_setCell_same _ _ _ hu⟩
  · exact ⟨u, by rw [World.cell?_setCell_other (h := e)]; exact hu⟩

theorem WRow.below {w w' : World} {b n B : Nat} (h : WRow w b n) (hb : Below B w w') (hB : b < B) : WRow w' b n := by
  intro j hj
  obtain ⟨⟨u, hu⟩, hf⟩ := h j hj
  refine ⟨⟨u, (below_cell hb hB).trans hu⟩, ?_⟩
  unfold World.frozen? at hf ⊢
  rw [show w'.heap[(⟨b, j, none⟩ : Addr).block]? = w.heap[(⟨b, j, none⟩ : Addr).block]? from hb.block b hB]
  exact hf

/-- Only blocks of P were written, of those that were there. -/
def Only (P : Nat → Prop) (w w' : World) : Prop := w.heap.size ≤ w'.heap.size ∧ ∀ c, c < w.heap.size → ¬ P c → w'.heap[c]? = w.heap[c]?

theorem Only.refl (P : Nat → Prop) (w : World) : Only P w w := ⟨Nat.le_refl _, fun _ _ _ => rfl⟩
theorem Only.trans {P : Nat → Prop} {a b c : World} (h : Only P a b) (k : Only P b c) : Only P a c := ⟨Nat.le_trans h.1 k.1, fun i h1 h2 => (k.2 i (by have := h.1; omega) h2).trans (h.2 i h1 h2)⟩
theorem Only.imp {P Q : Nat → Prop} {a b : World} (h : Only P a b) (hi : ∀ c, P c → Q c) : Only Q a b := ⟨h.1, fun c h1 h2 => h.2 c h1 fun h => h2 (hi c h)⟩
theorem Only.set {P : Nat → Prop} (w : World) {b o : Nat} (hP : P b) (v : Value) : Only P w (w.setCell ⟨b, o, none⟩ v) := ⟨by simp, fun c _ hc => Below.heap_setCell w _ v c (fun e => hc (by rw [e]; exact hP))⟩
theorem Only.of_below {P : Nat → Prop} {w w' : World} (h : Below w.heap.size w w') : Only P w w' := ⟨h.size, fun c hc _ => h.block c hc⟩
theorem Only.cell {P : Nat → Prop} {w w' : World} (h : Only P w w') {b o : Nat} (hb : b < w.heap.size) (hP : ¬ P b) : w'.cell? ⟨b, o, none⟩ = w.cell? ⟨b, o, none⟩ := by
  unfold World.cell?
  rw [show w'.heap[(⟨b, o, none⟩ : Addr).block]? = w.heap[(⟨b, o, none⟩ : Addr).block]? from h.2 b hb hP]

set_option maxHeartbeats 1600000 in
theorem markInt64S_any (lo b n cap k : Nat) (a : Option Addr) (w : World) (ha : 0 < n → a = some ⟨b, 0, none⟩ ∧ lo ≤ b ∧ b < w.heap.size ∧ WRow w b n) (hlo : lo ≤ w.heap.size) (hn : n ≤ 1048576) (hk : k < 10 ^ 17) :
    Calls Tryz.prog 20 #[.slice a n cap, .int .i64 k] w fun e w' => e = .returned (.int .i64 (k + n : Nat)) ∧ (∀ j, j < n → w'.cell? ⟨b, j, none⟩ = some (.int .i64 (k + j : Nat))) ∧ (0 < n → WRow w' b n) ∧ Only (fun c => 0 < n ∧ c = b) w w' ∧ Below lo w w' := by
  have HA := hideIt ha
  clear ha
  go_enter Tryz.func20, Tryz.ntmps20
  go_wp2_with fail
  go_loopw [1, 5] (fun q i wr => ∃ c : Nat, c ≤ n ∧ q = .int .i64 (k + c : Nat) ∧ i = .int .i64 c ∧ (0 < n → WRow wr b n) ∧ (∀ j, j < c → wr.cell? ⟨b, j, none⟩ = some (.int .i64 (k + j : Nat))) ∧ Only (fun c => 0 < n ∧ c = b) w wr ∧ Below lo w wr) (fun _ i _ => n - (intOf i).toNat)
  case atStart => exact ⟨0, Nat.zero_le _, by simp, rfl, fun h => (HA.out h).2.2.2, fun j hj => by omega, Only.refl _ _, Below.refl _ _⟩
  case round =>
    obtain ⟨c, hc, rfl, rfl, hw, hdone, ho, hbl⟩ := hrel
    have HD := hideIt hdone
    clear hdone
    by_cases hlt : c < n
    · have HW := hideIt (hw (by omega))
      clear hw
      obtain ⟨rfl, hlob, hbs, _⟩ := HA.out (by omega)
      obtain ⟨⟨u, hu⟩, hfz⟩ := HW.out c hlt
      go_wp2_with fail
      go_roundw
      case rel =>
        refine ⟨c + 1, by omega, by go_num, by go_num, fun _ => HW.out.set _ _, fun j hj => ?_, ho.trans (Only.set (P := fun c => 0 < n ∧ c = b) _ ⟨by omega, rfl⟩ _), hbl.setCell hlob _⟩
        by_cases e : j = c
        · subst e; rw [Int.natCast_add]; exact World.cell?_setCell_same _ _ _ hu
        · rw [World.cell?_setCell_other (h := by simp; try omega)]; exact HD.out j (by omega)
      case measure => simp [intOf]; omega
    · obtain rfl : c = n := by omega
      go_wp2_with fail
      go_ret
      exact ⟨rfl, HD.out, hw, ho, hbl⟩

set_option maxHeartbeats 1600000 in
theorem heldInt64S_any (B : Nat) (a : Option Addr) (n cap k : Nat) (w : World) (hc : 0 < n → ∃ b, a = some ⟨b, 0, none⟩ ∧ ∀ j, j < n → w.cell? ⟨b, j, none⟩ = some (.int .i64 (k + j : Nat))) (hn : n ≤ 1048576) (hk : k < 10 ^ 17) :
    Calls Tryz.prog 22 #[.slice a n cap, .int .i64 k] w fun e w' => e = .returned (.int .i64 (k + n : Nat)) ∧ w' = w := by
  have HC := hideIt hc
  clear hc
  go_enter Tryz.func22, Tryz.ntmps22
  go_wp2_with fail
  go_loopw [1, 5] (fun q i wr => ∃ c : Nat, c ≤ n ∧ q = .int .i64 (k + c : Nat) ∧ i = .int .i64 c ∧ wr = w) (fun _ i _ => n - (intOf i).toNat)
  case atStart => exact ⟨0, Nat.zero_le _, by simp, rfl, rfl⟩
  case round =>
    obtain ⟨c, hc, rfl, rfl, rfl⟩ := hrel
    by_cases hlt : c < n
    · obtain ⟨b, rfl, hcell⟩ := HC.out (by omega)
      have hc1 := hcell c hlt
      clear hcell
      go_wp2_with fail
      go_roundw
      case rel => exact ⟨c + 1, by omega, by go_num, by go_num, by trivial⟩
      case measure => simp [intOf]; omega
    · obtain rfl : c = n := by omega
      go_wp2_with fail
      go_ret
      exact ⟨rfl, rfl⟩

set_option maxHeartbeats 1600000 in
theorem markStringS_any (lo b n cap k : Nat) (a : Option Addr) (w : World) (ha : 0 < n → a = some ⟨b, 0, none⟩ ∧ lo ≤ b ∧ b < w.heap.size ∧ WRow w b n) (hlo : lo ≤ w.heap.size) (hn : n ≤ 1048576) (hk0 : 1 ≤ k) (hk : k < 10 ^ 17) :
    Calls Tryz.prog 19 #[.slice a n cap, .int .i64 k] w fun e w' => e = .returned (.int .i64 (k + n : Nat)) ∧ (∀ j, j < n → w'.cell? ⟨b, j, none⟩ = some (.string (markOf (k + j)))) ∧ (0 < n → WRow w' b n) ∧ Only (fun c => 0 < n ∧ c = b) w w' ∧ Below lo w w' := by
  have HA := hideIt ha
  clear ha
  go_enter Tryz.func19, Tryz.ntmps19
  go_wp2_with fail
  go_loopw [1, 5] (fun q i wr => ∃ c : Nat, c ≤ n ∧ q = .int .i64 (k + c : Nat) ∧ i = .int .i64 c ∧ (0 < n → WRow wr b n) ∧ (∀ j, j < c → wr.cell? ⟨b, j, none⟩ = some (.string (markOf (k + j)))) ∧ Only (fun c => 0 < n ∧ c = b) w wr ∧ Below lo w wr) (fun _ i _ => n - (intOf i).toNat)
  case atStart => exact ⟨0, Nat.zero_le _, by simp, rfl, fun h => (HA.out h).2.2.2, fun j hj => by omega, Only.refl _ _, Below.refl _ _⟩
  case round =>
    obtain ⟨c, hc, rfl, rfl, hw, hdone, ho, hbl⟩ := hrel
    have HD := hideIt hdone
    clear hdone
    have zs := ho.1
    by_cases hlt : c < n
    · have HW := hideIt (hw (by omega))
      clear hw
      obtain ⟨rfl, hlob, hbs, _⟩ := HA.out (by omega)
      go_wp2_with fail
      rw [show ((k : Int) + (c : Int)) = ((k + c : Nat) : Int) by omega]
      refine (markText_any (k + c) _ (by omega) (by omega)).mono ?_
      rintro e w1 ⟨rfl, hb1⟩
      have HW1 := hideIt (HW.out.below hb1 (by omega))
      obtain ⟨⟨u, hu⟩, hfz⟩ := HW1.out c hlt
      go_wp2_with fail
      go_roundw
      case rel =>
        refine ⟨c + 1, by omega, by go_num, by go_num, fun _ => HW1.out.set _ _, fun j hj => ?_, (ho.trans (Only.of_below hb1)).trans (Only.set (P := fun c => 0 < n ∧ c = b) _ ⟨by omega, rfl⟩ _), (hbl.trans (hb1.mono (by omega))).setCell hlob _⟩
        by_cases e : j = c
        · subst e; exact World.cell?_setCell_same _ _ _ hu
        · rw [World.cell?_setCell_other (h := by simp; try omega), below_cell hb1 (by omega)]; exact HD.out j (by omega)
      case measure => simp [intOf]; omega
    · obtain rfl : c = n := by omega
      go_wp2_with fail
      go_ret
      exact ⟨rfl, HD.out, hw, ho, hbl⟩

set_option maxRecDepth 100000 in
set_option maxHeartbeats 1600000 in
theorem heldStringS_any (B : Nat) (a : Option Addr) (n cap k : Nat) (w : World) (hc : 0 < n → ∃ b, a = some ⟨b, 0, none⟩ ∧ b < w.heap.size ∧ ∀ j, j < n → w.cell? ⟨b, j, none⟩ = some (.string (markOf (k + j)))) (hn : n ≤ 1048576) (hk0 : 1 ≤ k) (hk : k < 10 ^ 17) :
    Calls Tryz.prog 21 #[.slice a n cap, .int .i64 k] w fun e w' => e = .returned (.int .i64 (k + n : Nat)) ∧ Below w.heap.size w w' := by
  have HC := hideIt hc
  clear hc
  go_enter Tryz.func21, Tryz.ntmps21
  go_wp2_with fail
  go_loopw [1, 5] (fun q i wr => ∃ c : Nat, c ≤ n ∧ q = .int .i64 (k + c : Nat) ∧ i = .int .i64 c ∧ Below w.heap.size w wr) (fun _ i _ => n - (intOf i).toNat)
  case atStart => exact ⟨0, Nat.zero_le _, by simp, rfl, Below.refl _ _⟩
  case round =>
    obtain ⟨c, hc, rfl, rfl, hbl⟩ := hrel
    have zs := hbl.size
    by_cases hlt : c < n
    · obtain ⟨b, rfl, hb, hcell⟩ := HC.out (by omega)
      have hc1 : wr.cell? ⟨b, c, none⟩ = some (.string (markOf (k + c))) := (below_cell hbl (by omega)).trans (hcell c hlt)
      have hb2 : b < wr.heap.size := by omega
      clear hcell
      go_wp2_with fail
      go_region_with (go_at_call 18; (try rw [show ((k : Int) + (c : Int)) = ((k + c : Nat) : Int) from (Int.natCast_add k c).symm]); refine (markText_any (k + c) _ ?_ ?_).mono ?_; exact (by omega); exact (by omega); rintro e w5 ⟨rfl, hb5⟩; have hc5 := (below_cell (o := c) hb5 (by simpa using hb2)).trans hc1)
      all_goals
        have HB5 := hideIt (hbl.drew.trans (hb5.mono (by simpa using zs)))
        clear hb5
        go_wp2_with fail
        go_roundw
        case rel => exact ⟨c + 1, by omega, by go_num, by go_num, HB5.out⟩
        case measure => simp [intOf]; omega
    · obtain rfl : c = n := by omega
      go_wp2_with fail
      go_ret
      exact ⟨rfl, hbl⟩
end Go.Proofs.YtgmnihofkpjboaaGreatDoor

/-
  The laws' marks of nodes: each field of each node and each part of its keys and kids gets its own number, and holds it.
-/
namespace Go.Proofs.YtgmnihofkpjboaaGreatDoor
open Go.RowKit
set_option linter.unusedSimpArgs false
set_option linter.unusedVariables false

def off (KN IN : Nat → Nat) (k : Nat) : Nat → Nat
  | 0 => k
  | i + 1 => off KN IN k i + 3 + KN i + IN i

theorem off_le (KN IN : Nat → Nat) (k : Nat) : ∀ i, (∀ j, j < i → KN j ≤ 1048576 ∧ IN j ≤ 1048576) → off KN IN k i ≤ k + i * 2097155 := by
  intro i
  induction i with
  | zero => intro _; simp [off]
  | succ i ih =>
    intro h
    have := ih (fun j hj => h j (by omega))
    have := h i (by omega)
    rw [off]
    omega
theorem off_ge (KN IN : Nat → Nat) (k : Nat) : ∀ i, k ≤ off KN IN k i := by
  intro i
  induction i with
  | zero => exact Nat.le_refl _
  | succ i ih => rw [off]; omega

/-- Nodes whose memory is their own: rows apart, all of them to be written. -/
structure Marky (lo : Nat) (w : World) (b n : Nat) (KN IN KB KI : Nat → Nat) : Prop where
  low : lo ≤ b
  lt : b < w.heap.size
  few : n ≤ 1048576
  row : WRow w b (n * 5)
  kn : ∀ i, i < n → KN i ≤ 1048576 ∧ IN i ≤ 1048576
  c3 : ∀ i, i < n → ∃ a c, w.cell? ⟨b, i * 5 + 3, none⟩ = some (.slice a (KN i) c) ∧ (0 < KN i → a = some ⟨KB i, 0, none⟩ ∧ lo ≤ KB i ∧ KB i < w.heap.size ∧ WRow w (KB i) (KN i))
  c4 : ∀ i, i < n → ∃ a c, w.cell? ⟨b, i * 5 + 4, none⟩ = some (.slice a (IN i) c) ∧ (0 < IN i → a = some ⟨KI i, 0, none⟩ ∧ lo ≤ KI i ∧ KI i < w.heap.size ∧ WRow w (KI i) (IN i))
  db : ∀ i, i < n → (0 < KN i → KB i ≠ b) ∧ (0 < IN i → KI i ≠ b)
  dkk : ∀ i j, i < n → j < n → i ≠ j → 0 < KN i → 0 < KN j → KB i ≠ KB j
  dki : ∀ i j, i < n → j < n → 0 < KN i → 0 < IN j → KB i ≠ KI j
  dii : ∀ i j, i < n → j < n → i ≠ j → 0 < IN i → 0 < IN j → KI i ≠ KI j

/-- Node i holds its marks, from o on. -/
structure HNode (w : World) (b i kn ni kb ki o : Nat) : Prop where
  lt : b < w.heap.size
  c0 : w.cell? ⟨b, i * 5, none⟩ = some (.int .i64 (o : Nat))
  c1 : w.cell? ⟨b, i * 5 + 1, none⟩ = some (.int .i64 (o + 1 : Nat))
  c2 : w.cell? ⟨b, i * 5 + 2, none⟩ = some (.string (markOf (o + 2)))
  c3 : ∃ a c, w.cell? ⟨b, i * 5 + 3, none⟩ = some (.slice a kn c) ∧ (0 < kn → a = some ⟨kb, 0, none⟩ ∧ kb < w.heap.size ∧ ∀ j, j < kn → w.cell? ⟨kb, j, none⟩ = some (.string (markOf (o + 3 + j))))
  c4 : ∃ a c, w.cell? ⟨b, i * 5 + 4, none⟩ = some (.slice a ni c) ∧ (0 < ni → a = some ⟨ki, 0, none⟩ ∧ ki < w.heap.size ∧ ∀ j, j < ni → w.cell? ⟨ki, j, none⟩ = some (.int .i64 (o + 3 + kn + j : Nat)))

theorem HNode.keep {w w' : World} {b i kn ni kb ki o : Nat} (h : HNode w b i kn ni kb ki o) (hs : w.heap.size ≤ w'.heap.size) (hb : ∀ j, j < 5 → w'.cell? ⟨b, i * 5 + j, none⟩ = w.cell? ⟨b, i * 5 + j, none⟩)
    (hk : 0 < kn → ∀ j, w'.cell? ⟨kb, j, none⟩ = w.cell? ⟨kb, j, none⟩) (hi : 0 < ni → ∀ j, w'.cell? ⟨ki, j, none⟩ = w.cell? ⟨ki, j, none⟩) : HNode w' b i kn ni kb ki o := by
  refine ⟨by have := h.lt; omega, (hb 0 (by omega)).trans h.c0, (hb 1 (by omega)).trans h.c1, (hb 2 (by omega)).trans h.c2, ?_, ?_⟩
  · obtain ⟨a, c, e, hx⟩ := h.c3
    refine ⟨a, c, (hb 3 (by omega)).trans e, fun hp => ?_⟩
    obtain ⟨e1, e2, e3⟩ := hx hp
    exact ⟨e1, by omega, fun j hj => (hk hp j).trans (e3 j hj)⟩
  · obtain ⟨a, c, e, hx⟩ := h.c4
    refine ⟨a, c, (hb 4 (by omega)).trans e, fun hp => ?_⟩
    obtain ⟨e1, e2, e3⟩ := hx hp
    exact ⟨e1, by omega, fun j hj => (hi hp j).trans (e3 j hj)⟩

theorem HNode.below {w w' : World} {b i kn ni kb ki o : Nat} (h : HNode w b i kn ni kb ki o) (hb : Below w.heap.size w w') : HNode w' b i kn ni kb ki o := by
  obtain ⟨_, _, _, h3⟩ := h.c3
  obtain ⟨_, _, _, h4⟩ := h.c4
  exact h.keep hb.size (fun j _ => below_cell hb h.lt) (fun hp j => below_cell hb (h3 hp).2.1) (fun hp j => below_cell hb (h4 hp).2.1)

set_option maxRecDepth 100000 in
set_option maxHeartbeats 3200000 in
theorem heldVNodeS_any (b n cap k : Nat) (a : Option Addr) (KN IN KB KI : Nat → Nat) (w : World) (ha : 0 < n → a = some ⟨b, 0, none⟩) (hn : n ≤ 1048576) (hkn : ∀ i, i < n → KN i ≤ 1048576 ∧ IN i ≤ 1048576) (hk0 : 1 ≤ k) (hk : k ≤ 10000000000000)
    (h : ∀ i, i < n → HNode w b i (KN i) (IN i) (KB i) (KI i) (off KN IN k i)) :
    Calls Tryz.prog 10 #[.slice a n cap, .int .i64 k] w fun e w' => e = .returned (.int .i64 (off KN IN k n : Nat)) ∧ Below w.heap.size w w' := by
  have HA := hideIt ha
  have HK := hideIt hkn
  have HH := hideIt h
  clear ha hkn h
  go_enter Tryz.func10, Tryz.ntmps10
  go_wp2_with fail
  go_loopw [1, 5] (fun q i wr => ∃ c : Nat, c ≤ n ∧ q = .int .i64 (off KN IN k c : Nat) ∧ i = .int .i64 c ∧ Below w.heap.size w wr) (fun _ i _ => n - (intOf i).toNat)
  case atStart => exact ⟨0, Nat.zero_le _, rfl, rfl, Below.refl _ _⟩
  case round =>
    obtain ⟨c, hc, rfl, rfl, hbl⟩ := hrel
    have zs := hbl.size
    by_cases hlt : c < n
    · obtain rfl := HA.out (by omega)
      have hN := (HH.out c hlt).below hbl
      have c0 := hN.c0
      have c1 := hN.c1
      have c2 := hN.c2
      obtain ⟨a3, p3, c3, h3⟩ := hN.c3
      obtain ⟨a4, p4, c4, h4⟩ := hN.c4
      have hbs := hN.lt
      have ob := off_le KN IN k c (fun j hj => HK.out j (by omega))
      have og := off_ge KN IN k c
      have H3 := hideIt h3
      have H4 := hideIt h4
      have kk := HK.out c hlt
      have HO : Hid (off KN IN k (c + 1) = off KN IN k c + 3 + KN c + IN c) := rfl
      clear h3 h4 hN
      generalize off KN IN k c = o at *
      go_wp2_with fail
      go_region_with (go_at_call 18; (try rw [show ((o : Int) + 1 + 1) = ((o + 2 : Nat) : Int) by omega]); refine (markText_any (o + 2) _ ?_ ?_).mono ?_; exact (by omega); exact (by omega); rintro e w5 ⟨rfl, hb5⟩; have d2 := (below_cell (o := c * 5 + 2) hb5 (by simpa using hbs)).trans c2)
      all_goals
        have z5 := hb5.size
        have z5' : wr.heap.size ≤ w5.heap.size := by simpa using z5
        have HB5 := hideIt (hbl.drew.trans (hb5.mono (by simpa using zs)))
        have d3 := (below_cell (o := c * 5 + 3) hb5 (by simpa using hbs)).trans c3
        have d4 := (below_cell (o := c * 5 + 4) hb5 (by simpa using hbs)).trans c4
        have HK5 : Hid (0 < KN c → a3 = some ⟨KB c, 0, none⟩ ∧ KB c < w5.heap.size ∧ ∀ j, j < KN c → w5.cell? ⟨KB c, j, none⟩ = some (.string (markOf (o + 3 + j)))) := by
          intro hp
          obtain ⟨e1, e2, e3⟩ := H3.out hp
          exact ⟨e1, by omega, fun j hj => (below_cell hb5 (by simpa using e2)).trans (e3 j hj)⟩
        have HI5 : Hid (0 < IN c → a4 = some ⟨KI c, 0, none⟩ ∧ KI c < w5.heap.size ∧ ∀ j, j < IN c → w5.cell? ⟨KI c, j, none⟩ = some (.int .i64 (o + 3 + KN c + j : Nat))) := by
          intro hp
          obtain ⟨e1, e2, e3⟩ := H4.out hp
          exact ⟨e1, by omega, fun j hj => (below_cell hb5 (by simpa using e2)).trans (e3 j hj)⟩
        clear hb5 z5 c0 c1 c2 c3 c4 d2
        go_wp2_with fail
        rw [show ((o : Int) + 2 + 1) = ((o + 3 : Nat) : Int) by omega]
        refine (heldStringS_any 0 a3 (KN c) p3 (o + 3) _ (fun hp => ⟨KB c, HK5.out hp⟩) kk.1 (by omega) (by omega)).mono ?_
        rintro e w6 ⟨rfl, hb6⟩
        have z6 := hb6.size
        have HB6 := hideIt (HB5.out.trans (hb6.mono (by omega)))
        have f4 := (below_cell (o := c * 5 + 4) hb6 (by omega)).trans d4
        have HI6 : Hid (0 < IN c → ∃ b, a4 = some ⟨b, 0, none⟩ ∧ ∀ j, j < IN c → w6.cell? ⟨b, j, none⟩ = some (.int .i64 (o + 3 + KN c + j : Nat))) := by
          intro hp
          obtain ⟨e1, e2, e3⟩ := HI5.out hp
          exact ⟨KI c, e1, fun j hj => (below_cell hb6 e2).trans (e3 j hj)⟩
        clear hb6 d3 d4
        go_wp2_with fail
        refine (heldInt64S_any 0 a4 (IN c) p4 (o + 3 + KN c) _ HI6.out kk.2 (by omega)).mono ?_
        rintro e w7 ⟨rfl, rfl⟩
        go_wp2_with fail
        go_roundw
        case rel => exact ⟨c + 1, by omega, by rw [HO.out]; first | rfl | go_num | simp, by go_num, HB6.out⟩
        case measure => simp [intOf]; omega
    · obtain rfl : c = n := by omega
      go_wp2_with fail
      go_ret
      exact ⟨rfl, hbl⟩
end Go.Proofs.YtgmnihofkpjboaaGreatDoor
