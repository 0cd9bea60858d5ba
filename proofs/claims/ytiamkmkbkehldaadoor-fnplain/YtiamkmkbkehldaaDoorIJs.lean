/-
  Which type lies behind the interface: all pairs, in the order of a type switch.
-/
import Derived.Test.YtiamkmkbkehldaaDoorProg
import Derived.WalkKit
import Derived.Test.YtiamkmkbkehldaaDoorIQuo
import Derived.Test.YtiamkmkbkehldaaDoorJsB
import Derived.Test.YtiamkmkbkehldaaDoorRowB
import Derived.Test.YtiamkmkbkehldaaDoorFmt
import Derived.Test.YtiamkmkbkehldaaDoorStepC
namespace Go.Proofs.YtiamkmkbkehldaaDoor
open Go.RowKit
theorem tw_null_null (x : Value) (w : World) : (Instr.typeAssert (.iface 97 x) 46 97 true).run Tryd.prog w = .ok (.tuple #[x, .bool true]) w := by kernel_rfl
theorem tw_bool_null (x : Value) (w : World) : (Instr.typeAssert (.iface 92 x) 46 97 true).run Tryd.prog w = .ok (.tuple #[.agg #[], .bool false]) w := by kernel_rfl
theorem tw_bool_bool (x : Value) (w : World) : (Instr.typeAssert (.iface 92 x) 46 92 true).run Tryd.prog w = .ok (.tuple #[x, .bool true]) w := by kernel_rfl
theorem tw_int_null (x : Value) (w : World) : (Instr.typeAssert (.iface 93 x) 46 97 true).run Tryd.prog w = .ok (.tuple #[.agg #[], .bool false]) w := by kernel_rfl
theorem tw_int_bool (x : Value) (w : World) : (Instr.typeAssert (.iface 93 x) 46 92 true).run Tryd.prog w = .ok (.tuple #[.agg #[.int .i64 0], .bool false]) w := by kernel_rfl
theorem tw_int_int (x : Value) (w : World) : (Instr.typeAssert (.iface 93 x) 46 93 true).run Tryd.prog w = .ok (.tuple #[x, .bool true]) w := by kernel_rfl
theorem tw_text_null (x : Value) (w : World) : (Instr.typeAssert (.iface 72 x) 46 97 true).run Tryd.prog w = .ok (.tuple #[.agg #[], .bool false]) w := by kernel_rfl
theorem tw_text_bool (x : Value) (w : World) : (Instr.typeAssert (.iface 72 x) 46 92 true).run Tryd.prog w = .ok (.tuple #[.agg #[.int .i64 0], .bool false]) w := by kernel_rfl
theorem tw_text_int (x : Value) (w : World) : (Instr.typeAssert (.iface 72 x) 46 93 true).run Tryd.prog w = .ok (.tuple #[.agg #[.int .i64 0], .bool false]) w := by kernel_rfl
theorem tw_text_text (x : Value) (w : World) : (Instr.typeAssert (.iface 72 x) 46 72 true).run Tryd.prog w = .ok (.tuple #[x, .bool true]) w := by kernel_rfl
theorem tw_list_null (x : Value) (w : World) : (Instr.typeAssert (.iface 95 x) 46 97 true).run Tryd.prog w = .ok (.tuple #[.agg #[], .bool false]) w := by kernel_rfl
theorem tw_list_bool (x : Value) (w : World) : (Instr.typeAssert (.iface 95 x) 46 92 true).run Tryd.prog w = .ok (.tuple #[.agg #[.int .i64 0], .bool false]) w := by kernel_rfl
theorem tw_list_int (x : Value) (w : World) : (Instr.typeAssert (.iface 95 x) 46 93 true).run Tryd.prog w = .ok (.tuple #[.agg #[.int .i64 0], .bool false]) w := by kernel_rfl
theorem tw_list_text (x : Value) (w : World) : (Instr.typeAssert (.iface 95 x) 46 72 true).run Tryd.prog w = .ok (.tuple #[.agg #[.string ByteArray.empty], .bool false]) w := by kernel_rfl
theorem tw_list_list (x : Value) (w : World) : (Instr.typeAssert (.iface 95 x) 46 95 true).run Tryd.prog w = .ok (.tuple #[x, .bool true]) w := by kernel_rfl
theorem tw_map_null (x : Value) (w : World) : (Instr.typeAssert (.iface 81 x) 46 97 true).run Tryd.prog w = .ok (.tuple #[.agg #[], .bool false]) w := by kernel_rfl
theorem tw_map_bool (x : Value) (w : World) : (Instr.typeAssert (.iface 81 x) 46 92 true).run Tryd.prog w = .ok (.tuple #[.agg #[.int .i64 0], .bool false]) w := by kernel_rfl
theorem tw_map_int (x : Value) (w : World) : (Instr.typeAssert (.iface 81 x) 46 93 true).run Tryd.prog w = .ok (.tuple #[.agg #[.int .i64 0], .bool false]) w := by kernel_rfl
theorem tw_map_text (x : Value) (w : World) : (Instr.typeAssert (.iface 81 x) 46 72 true).run Tryd.prog w = .ok (.tuple #[.agg #[.string ByteArray.empty], .bool false]) w := by kernel_rfl
theorem tw_map_list (x : Value) (w : World) : (Instr.typeAssert (.iface 81 x) 46 95 true).run Tryd.prog w = .ok (.tuple #[.agg #[.slice none 0 0], .bool false]) w := by kernel_rfl
theorem tw_map_map (x : Value) (w : World) : (Instr.typeAssert (.iface 81 x) 46 81 true).run Tryd.prog w = .ok (.tuple #[x, .bool true]) w := by kernel_rfl
end Go.Proofs.YtiamkmkbkehldaaDoor

/-
  The program's jsonWriter: lines, keys, and what a number, a Boolean and a text are written as.
-/
namespace Go.Proofs.YtiamkmkbkehldaaDoor
open Go.RowKit
set_option linter.unusedSimpArgs false
set_option linter.unusedVariables false

/-- The table of powers of ten stands, whatever is made from block 'B' on. -/
def TabB (B : Nat) (w : World) : Prop := ∀ w', Below B w w' → Lib.TabIs Tryd.prog w' "internal/strconv.uint64pow10" .u64 Lib.pow10Tab
theorem TabB.next {B : Nat} {w w' : World} (h : TabB B w) (hb : Below B w w') : TabB B w' := fun w2 h2 => h w2 (hb.trans h2)
theorem TabB.wide {B C : Nat} {w : World} (h : TabB B w) (hBC : B ≤ C) : TabB C w := fun w2 h2 => h w2 (h2.mono hBC)
theorem FB.lines {T : TypeId} {B b : Nat} {x : Bool} {l : List UInt8} {w : World} (h : FB T B b [.bool x] l w) : w.cell? ⟨b, 2, none⟩ = some (.bool x) := by
  obtain ⟨_, p, v, _, hb, _⟩ := h
  exact cellAt hb rfl
theorem call_wstr (u v : Value) : ∀ w, (callFunc 26 #[u, v]).run Tryd.prog w = .ok (.enter 26 #[u, v]) w := fun w => by kernel_rfl
theorem call_rep (u v : Value) : ∀ w, (callFunc 27 #[u, v]).run Tryd.prog w = .ok (.enter 27 #[u, v]) w := fun w => by kernel_rfl
theorem call_quo (u : Value) : ∀ w, (callFunc 55 #[u]).run Tryd.prog w = .ok (.enter 55 #[u]) w := fun w => by kernel_rfl
theorem repeat_blanks (d : Nat) : Lib.repeatL [32, 32] d = List.replicate (2 * d) 32 := by
  induction d with
  | zero => rfl
  | succ d ih => rw [Lib.repeatL, ih, show 2 * (d + 1) = 2 * d + 1 + 1 by omega, List.replicate_succ, List.replicate_succ]; rfl

set_option maxRecDepth 100000 in
set_option maxHeartbeats 1600000 in
theorem beginLine_any {B b : Nat} {x : Bool} {l : List UInt8} {w : World} (hT : FT 75 1) (h : FB 75 B b [.bool x] l w) (d : Nat) (hd : d ≤ 1000) (hlen : l.length ≤ 100000000) (hBw : B ≤ w.heap.size) :
    Calls Tryd.prog 72 #[.pointer (some ⟨b, 0, none⟩), .int .i64 d] w fun e w' => e = .returned (.tuple #[]) ∧ FB 75 B b [.bool x] (l ++ lineJ x d) w' ∧ Below B w w' ∧ Beside b w w' := by
  have HF := hideB h
  have c2 := h.lines
  clear h
  cases x
  · have HE : Hid (l ++ lineJ false d = l) := by rw [Hid, lineJ]; simp
    rw [HE.out]
    go_enter Tryd.func72, Tryd.ntmps72
    go_wp2_with fail
    go_end0
    exact ⟨rfl, HF.out, Below.refl _ _, Beside.refl _ _⟩
  · have HE : Hid (l ++ lineJ true d = l ++ [10] ++ (ByteArray.mk (Lib.repeatL (ByteArray.mk #[32, 32]).data.toList d).toArray).data.toList) := by
      rw [Hid, lineJ, if_pos rfl, List.append_assoc]
      show l ++ 10 :: List.replicate (2 * d) 32 = l ++ ([10] ++ Lib.repeatL [32, 32] d)
      rw [repeat_blanks]; rfl
    have hsz : (ByteArray.mk (Lib.repeatL (ByteArray.mk #[32, 32]).data.toList d).toArray).size ≤ 2000 := by
      show (Lib.repeatL [32, 32] d).toArray.size ≤ 2000
      rw [repeat_blanks]; simp; omega
    rw [HE.out]
    obtain ⟨S, hS⟩ : ∃ S, ByteArray.mk (Lib.repeatL (ByteArray.mk #[32, 32]).data.toList d).toArray = S := ⟨_, rfl⟩
    have CR := hideB (fun w => repeat_any ⟨#[32, 32]⟩ d w (by show 2 * d ≤ _; omega) (by omega))
    rw [hS] at hsz ⊢
    rw [hS] at CR
    clear hS HE
    go_enter Tryd.func72, Tryd.ntmps72
    go_wp2_with (go_at_call 29; refine (fb_byte hT HF.out 10 (by omega) hBw).mono ?_; rintro e w1 ⟨rfl, f1, b1, k1⟩; have z1 := b1.size)
    have HF1 := hideB f1
    clear f1
    go_region_law (first
      | (refine step_call2 (by rfl) 27 _ _ _ _ (by rfl) (.string ⟨#[32, 32]⟩) (.int .i64 d) (by rfl) (by rfl) (call_rep _ _) (CR.out _) ?_; rintro e w2 ⟨rfl, b2⟩; have z2 : w1.heap.size ≤ w2.heap.size := b2.size; refine ⟨_, rfl, ?_⟩)
      | (refine step_call2 (by rfl) 26 _ _ _ _ (by rfl) (.pointer (some ⟨b, 0, none⟩)) (.string S) (by rfl) (by rfl) (call_wstr _ _) (fb_text hT (HF1.out.drew.keep b2) S (by rw [List.length_append]; simp; omega) (by omega)) ?_; rintro e w3 ⟨rfl, f3, b3, k3⟩; refine ⟨_, rfl, ?_⟩))
    all_goals (
      go_wp2_with fail
      go_end0
      exact ⟨rfl, f3, ((b1.drew).trans (b2.mono (show B ≤ w1.drew.heap.size from Nat.le_trans hBw z1))).trans b3, (k1.trans (Beside.below (w := w1.drew) b2)).trans k3⟩)

set_option maxRecDepth 100000 in
set_option maxHeartbeats 1600000 in
theorem writeKey_any {B b : Nat} {x : Bool} {l : List UInt8} {w : World} (hT : FT 75 1) (h : FB 75 B b [.bool x] l w) (key : ByteArray) (hk : key.size ≤ 60) (hlen : l.length ≤ 100000000) (hBw : B ≤ w.heap.size) :
    Calls Tryd.prog 73 #[.pointer (some ⟨b, 0, none⟩), .string key] w fun e w' => e = .returned (.tuple #[]) ∧ FB 75 B b [.bool x] (l ++ keyJ x key) w' ∧ Below B w w' ∧ Beside b w w' := by
  have HF := hideB h
  clear h
  have hql := (quoT_len key).2
  have CQ := hideB (fun w => iQuo_any key w (by omega))
  have HE : Hid (keyJ x key = quoT key ++ 58 :: (if x = true then [32] else [])) := rfl
  obtain ⟨Q, hQ⟩ : ∃ Q, quoT key = Q := ⟨_, rfl⟩
  rw [hQ] at hql CQ HE
  clear hQ
  have hqs : (txt Q).size ≤ 362 := by rw [txt_size]; omega
  have HQ : Hid ((txt Q).data.toList = Q) := bytes_txt Q
  go_enter Tryd.func73, Tryd.ntmps73
  go_wp2_with fail
  go_region_law (first
    | (refine step_call1 (by rfl) 55 _ _ (by rfl) (.string key) (by rfl) (call_quo _) (CQ.out _) ?_; rintro e w1 ⟨rfl, b1⟩; have z1 : w.heap.size ≤ w1.heap.size := b1.size; refine ⟨_, rfl, ?_⟩)
    | (refine step_call2 (by rfl) 26 _ _ _ _ (by rfl) (.pointer (some ⟨b, 0, none⟩)) (.string (txt Q)) (by rfl) (by rfl) (call_wstr _ _) (fb_text hT (HF.out.drew.keep b1) (txt Q) (by omega) (by omega)) ?_; rintro e w2 ⟨rfl, f2, b2, k2⟩; have z2 := b2.size; refine ⟨_, rfl, ?_⟩))
  all_goals (
    rw [HQ.out] at f2
    have HF2 := hideB f2
    have HB2 := hideB (((Below.drew (Below.refl B w)).trans (b1.mono (show B ≤ w.drew.heap.size from hBw))).trans b2)
    have HK2 := hideB ((Beside.below (b := b) (w := w.drew) b1).trans k2)
    clear f2 b1 b2 k2
    go_wp2_with fail
    refine (fb_byte hT HF2.out 58 (by rw [List.length_append]; omega) (by omega)).mono ?_
    rintro e w3 ⟨rfl, f3, b3, k3⟩
    have c2 := f3.lines
    have z3 := b3.size
    have HF3 := hideB f3
    clear f3
    cases x
    · go_wp2_with fail
      go_end0
      exact ⟨rfl, by rw [HE.out]; simpa using HF3.out, HB2.out.trans b3, HK2.out.trans k3⟩
    · go_wp2_with fail
      refine (fb_byte hT HF3.out 32 (by simp; omega) (by omega)).mono ?_
      rintro e w4 ⟨rfl, f4, b4, k4⟩
      go_wp2_with fail
      go_end0
      exact ⟨rfl, by rw [HE.out]; simpa using f4, (HB2.out.trans b3).trans b4, (HK2.out.trans k3).trans k4⟩)
end Go.Proofs.YtiamkmkbkehldaaDoor
