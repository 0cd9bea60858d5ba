/-
  The program's YAML: a word, a short value's line, the head of a part's line.
-/
import Derived.Test.YtiamkmkbkehldaaGreatDoorYmP
import Derived.Test.YtiamkmkbkehldaaGreatDoorRdM
import Derived.Test.YtiamkmkbkehldaaGreatDoorLowN
namespace Go.Proofs.YtiamkmkbkehldaaGreatDoor
open Go.RowKit
set_option linter.unusedSimpArgs false
set_option linter.unusedVariables false

set_option maxRecDepth 100000 in
set_option maxHeartbeats 800000 in
theorem plainOrQuoted_any (s : ByteArray) (w : World) (hs : s.size ≤ 60) : Calls Tryz.prog 73 #[.string s] w fun e w' => e = .returned (.string (txt (wordY s))) ∧ Below w.heap.size w w' := by
  have HP := hideIt (iPlain_walk s w)
  cases hp : plainL s.data.toList
  · have HW : Hid (wordY s = quoT s) := by rw [Hid]; unfold wordY; rw [hp]; rfl
    rw [hp] at HP
    go_enter Tryz.func73, Tryz.ntmps73
    go_wp2_with fail
    refine HP.out.mono ?_
    rintro e w1 ⟨rfl, hb1⟩
    have HB1 := hideIt hb1
    have z1 := hb1.size
    clear hb1
    go_wp2_with fail
    refine (iQuo_any s _ (by omega)).mono ?_
    rintro e w2 ⟨rfl, hb2⟩
    have HB2 := hideIt (HB1.out.trans (hb2.mono z1))
    clear hb2
    go_wp2_with fail
    go_ret
    exact ⟨by rw [HW.out]; rfl, HB2.out⟩
  · have HW : Hid (wordY s = s.data.toList) := by rw [Hid]; unfold wordY; rw [hp]; rfl
    rw [hp] at HP
    go_enter Tryz.func73, Tryz.ntmps73
    go_wp2_with fail
    refine HP.out.mono ?_
    rintro e w1 ⟨rfl, hb1⟩
    have HB1 := hideIt hb1
    clear hb1
    go_wp2_with fail
    go_ret
    exact ⟨by rw [HW.out, txt_bytes]; rfl, HB1.out⟩

set_option maxRecDepth 100000 in
set_option maxHeartbeats 1600000 in
theorem isShort_any (B f : Nat) (t : VT) (v : Value) (w : World) (h : TreeAt B w (f + 1) t v) : Calls Tryz.prog 32 #[v] w fun e w' => e = .returned (.bool (decide ((kidsY t).length = 0))) ∧ Below w.heap.size w w' := by
  obtain ⟨kind, n, s, keys, kids⟩ := t
  rcases h with ⟨rfl, rfl, rfl, rfl, rfl, rfl⟩ | ⟨rfl, rfl, rfl, rfl, rfl⟩ | ⟨rfl, rfl, rfl, rfl, rfl⟩ | ⟨rfl, rfl, rfl, rfl, rfl⟩ | ⟨rfl, rfl, rfl, rfl, it, rfl, hi⟩ | ⟨rfl, rfl, rfl, ks, it, rfl, hk, hi⟩
  · go_enter Tryz.func32, Tryz.ntmps32
    go_wp2_with fail
    refine (parts1_any _).mono ?_
    rintro e w1 ⟨rfl, hb1⟩
    go_wp2_with fail
    go_ret
    exact ⟨rfl, hb1⟩
  · go_enter Tryz.func32, Tryz.ntmps32
    go_wp2_with fail
    refine (parts2_any _ _).mono ?_
    rintro e w1 ⟨rfl, hb1⟩
    go_wp2_with fail
    go_ret
    exact ⟨rfl, hb1⟩
  · go_enter Tryz.func32, Tryz.ntmps32
    go_wp2_with fail
    refine (parts3_any _ _).mono ?_
    rintro e w1 ⟨rfl, hb1⟩
    go_wp2_with fail
    go_ret
    exact ⟨rfl, hb1⟩
  · go_enter Tryz.func32, Tryz.ntmps32
    go_wp2_with fail
    refine (parts4_any _ _).mono ?_
    rintro e w1 ⟨rfl, hb1⟩
    go_wp2_with fail
    go_ret
    exact ⟨rfl, hb1⟩
  · obtain ⟨h0, ai, ci, rfl, _⟩ := hi
    obtain ⟨M, hM⟩ : ∃ M, kids.length = M := ⟨_, rfl⟩
    have HK : Hid ((kidsY (.mk 5 0 ByteArray.empty [] kids)).length = M) := hM
    rw [HK.out]
    rw [hM]
    clear hM HK
    go_enter Tryz.func32, Tryz.ntmps32
    go_wp2_with fail
    refine (parts5_any _ _ _ _).mono ?_
    rintro e w1 ⟨rfl, hb1⟩
    go_wp2_with fail
    go_ret
    refine ⟨?_, hb1⟩
    show Ending.returned (.bool _) = Ending.returned (.bool _)
    congr 2
    by_cases e : M = 0
    · subst e; rfl
    · simp [e]
  · obtain ⟨h0, ai, ci, rfl, _⟩ := hi
    obtain ⟨_, _, aK, cK, rfl, _⟩ := hk
    obtain ⟨M, hM⟩ : ∃ M, kids.length = M := ⟨_, rfl⟩
    have HK : Hid ((kidsY (.mk 6 0 ByteArray.empty keys kids)).length = M) := hM
    rw [HK.out]
    rw [hM]
    clear hM HK
    go_enter Tryz.func32, Tryz.ntmps32
    go_wp2_with fail
    refine (parts6_any _ _ _ _ _ _ _).mono ?_
    rintro e w1 ⟨rfl, hb1⟩
    go_wp2_with fail
    go_ret
    refine ⟨?_, hb1⟩
    show Ending.returned (.bool _) = Ending.returned (.bool _)
    congr 2
    by_cases e : M = 0
    · subst e; rfl
    · simp [e]
end Go.Proofs.YtiamkmkbkehldaaGreatDoor

/-
  The program's YAML: a short value's line, the head of a part's line.
-/
namespace Go.Proofs.YtiamkmkbkehldaaGreatDoor
open Go.RowKit
set_option linter.unusedSimpArgs false
set_option linter.unusedVariables false

theorem ya_null (x : Value) (w : World) : (Instr.typeAssert (.iface 170 x) 45 110 true).run Tryz.prog w = .ok (.tuple #[.agg #[.string ByteArray.empty], .bool false]) w := by kernel_rfl
theorem ya_bool (x : Value) (w : World) : (Instr.typeAssert (.iface 163 x) 45 110 true).run Tryz.prog w = .ok (.tuple #[.agg #[.string ByteArray.empty], .bool false]) w := by kernel_rfl
theorem ya_int (x : Value) (w : World) : (Instr.typeAssert (.iface 164 x) 45 110 true).run Tryz.prog w = .ok (.tuple #[.agg #[.string ByteArray.empty], .bool false]) w := by kernel_rfl
theorem ya_text (x : Value) (w : World) : (Instr.typeAssert (.iface 110 x) 45 110 true).run Tryz.prog w = .ok (.tuple #[x, .bool true]) w := by kernel_rfl
theorem ya_list (x : Value) (w : World) : (Instr.typeAssert (.iface 174 x) 45 110 true).run Tryz.prog w = .ok (.tuple #[.agg #[.string ByteArray.empty], .bool false]) w := by kernel_rfl
theorem ya_map (x : Value) (w : World) : (Instr.typeAssert (.iface 119 x) 45 110 true).run Tryz.prog w = .ok (.tuple #[.agg #[.string ByteArray.empty], .bool false]) w := by kernel_rfl
theorem yb_list (x : Value) (w : World) : (Instr.typeAssert (.iface 174 x) 45 119 true).run Tryz.prog w = .ok (.tuple #[.agg #[.slice none 0 0, .slice none 0 0], .bool false]) w := by kernel_rfl
theorem yb_map (x : Value) (w : World) : (Instr.typeAssert (.iface 119 x) 45 119 true).run Tryz.prog w = .ok (.tuple #[x, .bool true]) w := by kernel_rfl
theorem flat_json {f : Nat} {kind n : Int} {s : ByteArray} {keys : List ByteArray} (h : kind ≠ 4) : flatY (.mk kind n s keys []) = jsonT false (f + 1) 0 (.mk kind n s keys []) := by
  show (if kind = 4 then wordY s else jsonT false 1 0 (.mk kind n s keys [])) = _
  have e : ∀ F named, wholeJ F false named 0 keys [] = [] := fun F named => by unfold wholeJ; simp
  rw [if_neg h, jsonT, jsonT, e, e, e, e]
theorem flat_pos {f : Nat} {kind n : Int} {s : ByteArray} {keys : List ByteArray} (h : kind = 1 ∨ kind = 2 ∨ kind = 3 ∨ kind = 5 ∨ kind = 6) : jsonT false (f + 1) 0 (.mk kind n s keys []) ≠ [] := by
  have hl := jsonT_leaf false f 0 (kind := kind) (n := n) (s := s) (keys := keys) (kids := [])
  rcases h with k | k | k | k | k
  · rw [hl.1 k]; simp
  · rw [hl.2.1 k]; split <;> simp
  · rw [hl.2.2.1 k]; intro e; have := itoa_pos n; rw [e] at this; simp at this
  · rw [hl.2.2.2.2.1 k]; simp
  · rw [hl.2.2.2.2.2 k]; simp
theorem fb_new2 (w : World) (o : Obj) : FB 93 w.heap.size (w.heap.size + 1) [.bool false] [] ((w.alloc o).alloc (.cells #[.pointer none, .slice none 0 0, .bool false] 93)) := by
  have e : (w.alloc o).heap.size = w.heap.size + 1 := by simp
  have h := heap_alloc_new (w.alloc o) (.cells #[.pointer none, .slice none 0 0, .bool false] 93)
  rw [e] at h
  exact ⟨by omega, .pointer none, .slice none 0 0, .inl rfl, h, World.ownsRow_nil _ _ _ _, by simp [Value.ownBlock]⟩

set_option maxRecDepth 100000 in
set_option maxHeartbeats 3200000 in
theorem shortLine_any (B f : Nat) (t : VT) (v : Value) (w : World) (h : TreeAt B w (f + 1) t v) (hft : TFit (f + 1) t) (htab : TabB B w) (hB : B ≤ w.heap.size) (hf : f ≤ 400) (h0 : (kidsY t).length = 0) :
    Calls Tryz.prog 33 #[v] w fun e w' => e = .returned (.string (txt (flatY t))) ∧ Below w.heap.size w w' := by
  obtain ⟨kind, n, s, keys, kids⟩ := t
  have hk0 : kids = [] := List.eq_nil_of_length_eq_zero h0
  subst hk0
  have HFIT := hideIt hft
  have HT0 := hideIt h
  have HTAB := hideIt htab
  clear h0 htab
  have t1 := ya_null
  have t2 := ya_bool
  have t3 := ya_int
  have t4 := ya_text
  have t5 := ya_list
  have t6 := ya_map
  have HBW : Hid (∀ o o', Below w.heap.size w ((w.alloc o).alloc o')) := fun o o' => ((Below.refl _ _).alloc (Nat.le_refl _) _).alloc (by simp) _
  by_cases h4 : kind = 4
  · subst h4
    have hs : s.size ≤ 60 := hft.2.2.1 rfl
    have HF : Hid (flatY (.mk 4 n s keys []) = wordY s) := rfl
    rcases h with ⟨k, _⟩ | ⟨k, _⟩ | ⟨k, _⟩ | ⟨_, rfl, rfl, _, rfl⟩ | ⟨k, _⟩ | ⟨k, _⟩
    · omega
    · omega
    · omega
    · clear hft
      go_enter Tryz.func33, Tryz.ntmps33
      go_wp2_with fail
      refine (plainOrQuoted_any s _ hs).mono ?_
      rintro e w1 ⟨rfl, hb1⟩
      have HB1 := hideIt (((Below.refl _ _).alloc (Nat.le_refl _) _).trans (hb1.mono (by simp)))
      clear hb1
      go_wp2_with fail
      go_ret
      exact ⟨by rw [HF.out]; rfl, HB1.out⟩
    · omega
    · omega
  have hkk : kind = 1 ∨ kind = 2 ∨ kind = 3 ∨ kind = 5 ∨ kind = 6 := by
    rcases h with ⟨k, _⟩ | ⟨k, _⟩ | ⟨k, _⟩ | ⟨k, _⟩ | ⟨k, _⟩ | ⟨k, _⟩
    · exact .inl k
    · exact .inr (.inl k)
    · exact .inr (.inr (.inl k))
    · exact absurd k h4
    · exact .inr (.inr (.inr (.inl k)))
    · exact .inr (.inr (.inr (.inr k)))
  have HF := hideIt (flat_json (f := f) (n := n) (s := s) (keys := keys) h4)
  have HPOS := hideIt (flat_pos (f := f) (n := n) (s := s) (keys := keys) hkk)
  have HLEN : Hid ((jsonT false (f + 1) 0 (.mk kind n s keys [])).length ≤ 1000) := by
    rw [Hid]
    have hl := jsonT_leaf false f 0 (kind := kind) (n := n) (s := s) (keys := keys) (kids := [])
    have e : ∀ F named, wholeJ F false named 0 keys [] = [] := fun F named => by unfold wholeJ; simp
    rcases hkk with k | k | k | k | k
    · rw [hl.1 k]; simp
    · rw [hl.2.1 k]; split <;> simp
    · rw [hl.2.2.1 k]; have h3 := hft.2.1 k; have := Lib.itoa_length_le n (by omega) (by omega); omega
    · rw [hl.2.2.2.2.1 k, e]; simp
    · rw [hl.2.2.2.2.2 k, e]; simp
  obtain ⟨o, ho⟩ : ∃ o, Obj.cells #[.string ByteArray.empty] 110 = o := ⟨_, rfl⟩
  obtain ⟨W2, hW2⟩ : ∃ W2, (w.alloc o).alloc (.cells #[.pointer none, .slice none 0 0, .bool false] 93) = W2 := ⟨_, rfl⟩
  have HFB : Hid (FB 93 w.heap.size (w.heap.size + 1) [.bool false] [] W2) := by rw [Hid, ← hW2]; exact fb_new2 w o
  have HB2 : Hid (Below w.heap.size w W2) := by rw [Hid, ← hW2]; exact HBW.out _ _
  have HTR : Hid (TreeAt w.heap.size W2 (f + 1) (.mk kind n s keys []) v) := TreeAt.keep (fun c hc => HB2.out.block c (by omega)) hB HT0.out
  have HTB : Hid (TabB w.heap.size W2) := ((HTAB.out.next (HB2.out.mono hB)).wide hB)
  have z2 := HB2.out.size
  have HJW := hideIt (jwrite_any w.heap.size (w.heap.size + 1) false ft_json (f + 1) 0 _ v [] W2 HFB.out HTR.out HFIT.out HTB.out z2 (by omega) (by rw [List.nil_append]; have := HLEN.out; omega))
  have hif : ∃ ty xx, v = .iface ty xx ∧ ∀ w, (Instr.typeAssert (.iface ty xx) 45 110 true).run Tryz.prog w = .ok (.tuple #[.agg #[.string ByteArray.empty], .bool false]) w := by
    rcases h with ⟨_, _, _, _, _, e⟩ | ⟨_, _, _, _, e⟩ | ⟨_, _, _, _, e⟩ | ⟨k, _⟩ | ⟨_, _, _, _, it, e, _⟩ | ⟨_, _, _, ks, it, e, _⟩
    · exact ⟨_, _, e, ya_null _⟩
    · exact ⟨_, _, e, ya_bool _⟩
    · exact ⟨_, _, e, ya_int _⟩
    · exact absurd k h4
    · exact ⟨_, _, e, ya_list _⟩
    · exact ⟨_, _, e, ya_map _⟩
  clear h hft hkk h4 t1 t2 t3 t4 t5 t6 HT0 HTR
  obtain ⟨ty, xx, rfl, hta⟩ := hif
  go_enter Tryz.func33, Tryz.ntmps33
  go_wp2_with fail
  refine HJW.out.mono ?_
  rintro e w3 ⟨rfl, f3, b3, _⟩
  rw [List.nil_append] at f3
  have HF3 := hideIt f3
  have HB3 := hideIt (HB2.out.trans b3)
  have z3 := HB3.out.size
  clear f3 b3
  go_wp2_with fail
  refine (fb_string HF3.out HPOS.out).mono ?_
  rintro e w4 ⟨rfl, b4⟩
  have HB4 := hideIt (HB3.out.trans b4)
  clear b4
  go_wp2_with fail
  go_ret
  exact ⟨by rw [HF.out]; rfl, HB4.out⟩

set_option maxRecDepth 100000 in
set_option maxHeartbeats 1600000 in
theorem lineHead_list (x : Value) (i : Int) (w : World) : Calls Tryz.prog 37 #[.iface 174 x, .int .i64 i] w fun e w' => e = .returned (.string (txt (headY false ByteArray.empty))) ∧ Below w.heap.size w w' := by
  have t1 := yb_list
  go_enter Tryz.func37, Tryz.ntmps37
  go_wp2_with fail
  go_ret
  exact ⟨rfl, (Below.refl _ _).alloc (Nat.le_refl _) _⟩

set_option maxRecDepth 100000 in
set_option maxHeartbeats 1600000 in
theorem lineHead_map (bk ok MK cK k : Nat) (ai : Option Addr) (ni ci : Nat) (key : ByteArray) (w : World) (hb : bk < w.heap.size) (hc : w.cell? ⟨bk, ok + k, none⟩ = some (.string key)) (hk : k < MK) (hM : MK ≤ 100000) (hz : key.size ≤ 60) :
    Calls Tryz.prog 37 #[.iface 119 (.agg #[.slice (some ⟨bk, ok, none⟩) MK cK, .slice ai ni ci]), .int .i64 k] w fun e w' => e = .returned (.string (txt (headY true key))) ∧ Below w.heap.size w w' := by
  have t1 := yb_map
  have hk' : (k : Int) < (MK : Int) := by omega
  have hwz : (txt (wordY key)).size ≤ 400 := by rw [txt_size]; have := wordY_len key; have := (quoT_len key).2; omega
  obtain ⟨W1, hW1⟩ : ∃ W1, w.alloc (.cells #[.slice (some ⟨bk, ok, none⟩) MK cK, .slice ai ni ci] 119) = W1 := ⟨_, rfl⟩
  have HB1 : Hid (Below w.heap.size w W1) := by rw [Hid, ← hW1]; exact (Below.refl _ _).alloc (Nat.le_refl _) _
  have c0 : W1.cell? ⟨w.heap.size, 0, none⟩ = some (.slice (some ⟨bk, ok, none⟩) MK cK) := by rw [← hW1]; simp
  have c1 := (below_cell HB1.out hb).trans hc
  have HPQ := hideIt (plainOrQuoted_any key W1 hz)
  have z1 := HB1.out.size
  clear hc
  go_enter Tryz.func37, Tryz.ntmps37
  go_wp2_with fail
  refine HPQ.out.mono ?_
  rintro e w2 ⟨rfl, hb2⟩
  have HB2 := hideIt (HB1.out.trans (hb2.mono z1))
  clear hb2
  go_wp2_with fail
  go_ret
  refine ⟨ret_str ?_, HB2.out⟩
  simp only [app_txt]
  rfl
end Go.Proofs.YtiamkmkbkehldaaGreatDoor
