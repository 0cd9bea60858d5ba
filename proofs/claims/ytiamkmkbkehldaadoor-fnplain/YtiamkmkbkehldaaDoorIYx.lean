/-
  The program's YAML: a short value's line, the head of a part's line.
-/
import Derived.Test.YtiamkmkbkehldaaDoorIYw
namespace Go.Proofs.YtiamkmkbkehldaaDoor
open Go.RowKit
set_option linter.unusedSimpArgs false
set_option linter.unusedVariables false

theorem ya_null (x : Value) (w : World) : (Instr.typeAssert (.iface 97 x) 46 72 true).run Tryd.prog w = .ok (.tuple #[.agg #[.string ByteArray.empty], .bool false]) w := by kernel_rfl
theorem ya_bool (x : Value) (w : World) : (Instr.typeAssert (.iface 92 x) 46 72 true).run Tryd.prog w = .ok (.tuple #[.agg #[.string ByteArray.empty], .bool false]) w := by kernel_rfl
theorem ya_int (x : Value) (w : World) : (Instr.typeAssert (.iface 93 x) 46 72 true).run Tryd.prog w = .ok (.tuple #[.agg #[.string ByteArray.empty], .bool false]) w := by kernel_rfl
theorem ya_text (x : Value) (w : World) : (Instr.typeAssert (.iface 72 x) 46 72 true).run Tryd.prog w = .ok (.tuple #[x, .bool true]) w := by kernel_rfl
theorem ya_list (x : Value) (w : World) : (Instr.typeAssert (.iface 95 x) 46 72 true).run Tryd.prog w = .ok (.tuple #[.agg #[.string ByteArray.empty], .bool false]) w := by kernel_rfl
theorem ya_map (x : Value) (w : World) : (Instr.typeAssert (.iface 81 x) 46 72 true).run Tryd.prog w = .ok (.tuple #[.agg #[.string ByteArray.empty], .bool false]) w := by kernel_rfl
theorem yb_list (x : Value) (w : World) : (Instr.typeAssert (.iface 95 x) 46 81 true).run Tryd.prog w = .ok (.tuple #[.agg #[.slice none 0 0, .slice none 0 0], .bool false]) w := by kernel_rfl
theorem yb_map (x : Value) (w : World) : (Instr.typeAssert (.iface 81 x) 46 81 true).run Tryd.prog w = .ok (.tuple #[x, .bool true]) w := by kernel_rfl
theorem flat_json {f : Nat} {kind n : Int} {s : ByteArray} {keys : List ByteArray} (h : kind ≠ 4) : flatY (.mk kind n s keys []) = jsonT false (f + 1) 0 (.mk kind n s keys []) := by
  show (if kind = 4 then wordY s else jsonT false 1 0 (.mk kind n s keys [])) = _
  have e : ∀ F named, wholeJ F false named 0 keys [] = [] := fun F named => by unfold wholeJ; simp
  rw [if_neg h, jsonT, jsonT, e, e, e, e]
theorem flat_pos {f : Nat} {kind n : Int} {s : ByteArray} {keys : List ByteArray} (h : kind = 1 ∨ kind = 2 ∨ kind = 3 ∨ kind = 5 ∨ kind = 6) : jsonT false (f + 1) 0 (.mk kind n s keys []) ≠ [] := by
  have hl := jsonT_leaf false f 0 (kind := kind) (n := n) (s := s) (keys := keys) (kids := [])
  rcases h with k | k | k | k | k
  · rw [hl.1 k]; simp
  · rw [hl.2.1 k]; split <;> simp
  · rw [hl.2.2.1 k]; intro e; have := itoa_pos n; rw [e] at this; simp at this
  · rw [hl.2.2.2.2.1 k]; simp
  · rw [hl.2.2.2.2.2 k]; simp
theorem fb_new2 (w : World) (o : Obj) : FB 75 w.heap.size (w.heap.size + 1) [.bool false] [] ((w.alloc o).alloc (.cells #[.pointer none, .slice none 0 0, .bool false] 75)) := by
  have e : (w.alloc o).heap.size = w.heap.size + 1 := by simp
  have h := heap_alloc_new (w.alloc o) (.cells #[.pointer none, .slice none 0 0, .bool false] 75)
  rw [e] at h
  exact ⟨by omega, .pointer none, .slice none 0 0, .inl rfl, h, World.ownsRow_nil _ _ _ _, by simp [Value.ownBlock]⟩

set_option maxRecDepth 100000 in
set_option maxHeartbeats 3200000 in
theorem shortLine_any (B f : Nat) (t : VT) (v : Value) (w : World) (h : TreeAt B w (f + 1) t v) (hft : TFit (f + 1) t) (htab : TabB B w) (hB : B ≤ w.heap.size) (hf : f ≤ 400) (h0 : (kidsY t).length = 0) :
    Calls Tryd.prog 24 #[v] w fun e w' => e = .returned (.string (txt (flatY t))) ∧ Below w.heap.size w w' := by
  obtain ⟨kind, n, s, keys, kids⟩ := t
  have hk0 : kids = [] := List.eq_nil_of_length_eq_zero h0
  subst hk0
  have HFIT := hideIt hft
  have HT0 := hideIt h
  have HTAB := hideIt htab
  clear h0 htab
  have t1 := ya_null
  have t2 := ya_bool
  have t3 := ya_int
  have t4 := ya_text
  have t5 := ya_list
  have t6 := ya_map
  have HBW : Hid (∀ o o', Below w.heap.size w ((w.alloc o).alloc o')) := fun o o' => ((Below.refl _ _).alloc (Nat.le_refl _) _).alloc (by simp) _
  by_cases h4 : kind = 4
  · subst h4
    have hs : s.size ≤ 60 := hft.2.2.1 rfl
    have HF : Hid (flatY (.mk 4 n s keys []) = wordY s) := rfl
    rcases h with ⟨k, _⟩ | ⟨k, _⟩ | ⟨k, _⟩ | ⟨_, rfl, rfl, _, rfl⟩ | ⟨k, _⟩ | ⟨k, _⟩
    · omega
    · omega
    · omega
    · clear hft
      go_enter Tryd.func24, Tryd.ntmps24
      go_wp2_with fail
      refine (plainOrQuoted_any s _ hs).mono ?_
      rintro e w1 ⟨rfl, hb1⟩
      have HB1 := hideIt (((Below.refl _ _).alloc (Nat.le_refl _) _).trans (hb1.mono (by simp)))
      clear hb1
      go_wp2_with fail
      go_ret
      exact ⟨by rw [HF.out]; rfl, HB1.out⟩
    · omega
    · omega
  have hkk : kind = 1 ∨ kind = 2 ∨ kind = 3 ∨ kind = 5 ∨ kind = 6 := by
    rcases h with ⟨k, _⟩ | ⟨k, _⟩ | ⟨k, _⟩ | ⟨k, _⟩ | ⟨k, _⟩ | ⟨k, _⟩
    · exact .inl k
    · exact .inr (.inl k)
    · exact .inr (.inr (.inl k))
    · exact absurd k h4
    · exact .inr (.inr (.inr (.inl k)))
    · exact .inr (.inr (.inr (.inr k)))
  have HF := hideIt (flat_json (f := f) (n := n) (s := s) (keys := keys) h4)
  have HPOS := hideIt (flat_pos (f := f) (n := n) (s := s) (keys := keys) hkk)
  have HLEN : Hid ((jsonT false (f + 1) 0 (.mk kind n s keys [])).length ≤ 1000) := by
    rw [Hid]
    have hl := jsonT_leaf false f 0 (kind := kind) (n := n) (s := s) (keys := keys) (kids := [])
    have e : ∀ F named, wholeJ F false named 0 keys [] = [] := fun F named => by unfold wholeJ; simp
    rcases hkk with k | k | k | k | k
    · rw [hl.1 k]; simp
    · rw [hl.2.1 k]; split <;> simp
    · rw [hl.2.2.1 k]; have h3 := hft.2.1 k; have := Lib.itoa_length_le n (by omega) (by omega); omega
    · rw [hl.2.2.2.2.1 k, e]; simp
    · rw [hl.2.2.2.2.2 k, e]; simp
  obtain ⟨o, ho⟩ : ∃ o, Obj.cells #[.string ByteArray.empty] 72 = o := ⟨_, rfl⟩
  obtain ⟨W2, hW2⟩ : ∃ W2, (w.alloc o).alloc (.cells #[.pointer none, .slice none 0 0, .bool false] 75) = W2 := ⟨_, rfl⟩
  have HFB : Hid (FB 75 w.heap.size (w.heap.size + 1) [.bool false] [] W2) := by rw [Hid, ← hW2]; exact fb_new2 w o
  have HB2 : Hid (Below w.heap.size w W2) := by rw [Hid, ← hW2]; exact HBW.out _ _
  have HTR : Hid (TreeAt w.heap.size W2 (f + 1) (.mk kind n s keys []) v) := TreeAt.keep (fun c hc => HB2.out.block c (by omega)) hB HT0.out
  have HTB : Hid (TabB w.heap.size W2) := ((HTAB.out.next (HB2.out.mono hB)).wide hB)
  have z2 := HB2.out.size
  have HJW := hideIt (jwrite_any w.heap.size (w.heap.size + 1) false ft_json (f + 1) 0 _ v [] W2 HFB.out HTR.out HFIT.out HTB.out z2 (by omega) (by rw [List.nil_append]; have := HLEN.out; omega))
  have hif : ∃ ty xx, v = .iface ty xx ∧ ∀ w, (Instr.typeAssert (.iface ty xx) 46 72 true).run Tryd.prog w = .ok (.tuple #[.agg #[.string ByteArray.empty], .bool false]) w := by
    rcases h with ⟨_, _, _, _, _, e⟩ | ⟨_, _, _, _, e⟩ | ⟨_, _, _, _, e⟩ | ⟨k, _⟩ | ⟨_, _, _, _, it, e, _⟩ | ⟨_, _, _, ks, it, e, _⟩
    · exact ⟨_, _, e, ya_null _⟩
    · exact ⟨_, _, e, ya_bool _⟩
    · exact ⟨_, _, e, ya_int _⟩
    · exact absurd k h4
    · exact ⟨_, _, e, ya_list _⟩
    · exact ⟨_, _, e, ya_map _⟩
  clear h hft hkk h4 t1 t2 t3 t4 t5 t6 HT0 HTR
  obtain ⟨ty, xx, rfl, hta⟩ := hif
  go_enter Tryd.func24, Tryd.ntmps24
  go_wp2_with fail
  refine HJW.out.mono ?_
  rintro e w3 ⟨rfl, f3, b3, _⟩
  rw [List.nil_append] at f3
  have HF3 := hideIt f3
  have HB3 := hideIt (HB2.out.trans b3)
  have z3 := HB3.out.size
  clear f3 b3
  go_wp2_with fail
  refine (fb_string HF3.out HPOS.out).mono ?_
  rintro e w4 ⟨rfl, b4⟩
  have HB4 := hideIt (HB3.out.trans b4)
  clear b4
  go_wp2_with fail
  go_ret
  exact ⟨by rw [HF.out]; rfl, HB4.out⟩

set_option maxRecDepth 100000 in
set_option maxHeartbeats 1600000 in
theorem lineHead_list (x : Value) (i : Int) (w : World) : Calls Tryd.prog 28 #[.iface 95 x, .int .i64 i] w fun e w' => e = .returned (.string (txt (headY false ByteArray.empty))) ∧ Below w.heap.size w w' := by
  have t1 := yb_list
  go_enter Tryd.func28, Tryd.ntmps28
  go_wp2_with fail
  go_ret
  exact ⟨rfl, (Below.refl _ _).alloc (Nat.le_refl _) _⟩

set_option maxRecDepth 100000 in
set_option maxHeartbeats 1600000 in
theorem lineHead_map (bk ok MK cK k : Nat) (ai : Option Addr) (ni ci : Nat) (key : ByteArray) (w : World) (hb : bk < w.heap.size) (hc : w.cell? ⟨bk, ok + k, none⟩ = some (.string key)) (hk : k < MK) (hM : MK ≤ 100000) (hz : key.size ≤ 60) :
    Calls Tryd.prog 28 #[.iface 81 (.agg #[.slice (some ⟨bk, ok, none⟩) MK cK, .slice ai ni ci]), .int .i64 k] w fun e w' => e = .returned (.string (txt (headY true key))) ∧ Below w.heap.size w w' := by
  have t1 := yb_map
  have hk' : (k : Int) < (MK : Int) := by omega
  have hwz : (txt (wordY key)).size ≤ 400 := by rw [txt_size]; have := wordY_len key; have := (quoT_len key).2; omega
  obtain ⟨W1, hW1⟩ : ∃ W1, w.alloc (.cells #[.slice (some ⟨bk, ok, none⟩) MK cK, .slice ai ni ci] 81) = W1 := ⟨_, rfl⟩
  have HB1 : Hid (Below w.heap.size w W1) := by rw [Hid, ← hW1]; exact (Below.refl _ _).alloc (Nat.le_refl _) _
  have c0 : W1.cell? ⟨w.heap.size, 0, none⟩ = some (.slice (some ⟨bk, ok, none⟩) MK cK) := by rw [← hW1]; simp
  have c1 := (below_cell HB1.out hb).trans hc
  have HPQ := hideIt (plainOrQuoted_any key W1 hz)
  have z1 := HB1.out.size
  clear hc
  go_enter Tryd.func28, Tryd.ntmps28
  go_wp2_with fail
  refine HPQ.out.mono ?_
  rintro e w2 ⟨rfl, hb2⟩
  have HB2 := hideIt (HB1.out.trans (hb2.mono z1))
  clear hb2
  go_wp2_with fail
  go_ret
  refine ⟨ret_str ?_, HB2.out⟩
  simp only [app_txt]
  rfl
end Go.Proofs.YtiamkmkbkehldaaDoor
