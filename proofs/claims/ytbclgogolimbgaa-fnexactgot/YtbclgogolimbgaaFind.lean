/-
  (*impl.treePart).find: where a step leads, in a part.
-/
import Derived.Test.YtbclgogolimbgaaTOfM
import Derived.Test.YtbclgogolimbgaaBSrch
import Derived.Deep.QuietTactic
import Derived.BigQuiet
namespace Go.Proofs.Ytbclgogolimbgaa
open Go.RowKit
set_option linter.unusedSimpArgs false
set_option linter.unusedVariables false

def findR (kind : Int) (keys : List ByteArray) (n : Nat) (x : PS) : Int × Bool :=
  if kind = 5 then (if x.named = false ∧ x.pl ≤ (n : Int) then (x.pl, decide (x.pl < (n : Int))) else (-1, false))
  else if kind = 6 ∧ x.named = true then ((posK keys x.key : Nat), hasK keys x.key)
  else (-1, false)

theorem findR_some {kind : Int} {keys : List ByteArray} {n k : Nat} {x : PS} (h0 : x.named = true ∨ 0 ≤ x.pl) (h : stepTo kind keys n x = some k) : findR kind keys n x = ((k : Int), true) := by
  unfold stepTo at h
  unfold findR
  split at h
  · rename_i hn
    split at h
    · rename_i h1
      simp only [Option.some.injEq] at h
      subst h
      rw [if_neg (by omega), if_pos ⟨h1.1, hn⟩, h1.2]
    · cases h
  · rename_i hn
    split at h
    · rename_i h1
      simp only [Option.some.injEq] at h
      subst h
      have hn2 : x.named = false := by simpa using hn
      have h0' : 0 ≤ x.pl := by rcases h0 with e | e; exact absurd e hn; exact e
      rw [if_pos h1.1, if_pos ⟨hn2, by omega⟩, decide_eq_true h1.2]
      congr 1
      omega
    · cases h

theorem findR_none {kind : Int} {keys : List ByteArray} {n : Nat} {x : PS} (h : stepTo kind keys n x = none) : (findR kind keys n x).2 = false := by
  unfold stepTo at h
  unfold findR
  split at h
  · rename_i hn
    split at h
    · cases h
    · rename_i h1
      by_cases h5 : kind = 5
      · rw [if_pos h5, if_neg (by rw [hn]; simp)]
      · rw [if_neg h5]
        by_cases h6 : kind = 6
        · rw [if_pos ⟨h6, hn⟩]
          cases e : hasK keys x.key
          · rfl
          · exact absurd ⟨h6, e⟩ h1
        · rw [if_neg (by rintro ⟨a, _⟩; exact h6 a)]
  · rename_i hn
    split at h
    · cases h
    · rename_i h1
      by_cases h5 : kind = 5
      · rw [if_pos h5]
        by_cases h2 : x.named = false ∧ x.pl ≤ (n : Int)
        · rw [if_pos h2]
          simp
          by_cases h3 : x.pl < (n : Int)
          · exact absurd ⟨h5, h3⟩ h1
          · omega
        · rw [if_neg h2]
      · rw [if_neg h5, if_neg (by rintro ⟨_, b⟩; exact hn b)]

theorem taf_null_list (x : Value) (w : World) : (Instr.typeAssert (.iface 155 x) 61 129 true).run Try.prog w = .ok (.tuple #[.agg #[.slice none 0 0], .bool false]) w := by kernel_rfl
theorem taf_bool_list (x : Value) (w : World) : (Instr.typeAssert (.iface 132 x) 61 129 true).run Try.prog w = .ok (.tuple #[.agg #[.slice none 0 0], .bool false]) w := by kernel_rfl
theorem taf_int_list (x : Value) (w : World) : (Instr.typeAssert (.iface 133 x) 61 129 true).run Try.prog w = .ok (.tuple #[.agg #[.slice none 0 0], .bool false]) w := by kernel_rfl
theorem taf_text_list (x : Value) (w : World) : (Instr.typeAssert (.iface 135 x) 61 129 true).run Try.prog w = .ok (.tuple #[.agg #[.slice none 0 0], .bool false]) w := by kernel_rfl
theorem taf_map_list (x : Value) (w : World) : (Instr.typeAssert (.iface 121 x) 61 129 true).run Try.prog w = .ok (.tuple #[.agg #[.slice none 0 0], .bool false]) w := by kernel_rfl
theorem taf_list_list (x : Value) (w : World) : (Instr.typeAssert (.iface 129 x) 61 129 true).run Try.prog w = .ok (.tuple #[x, .bool true]) w := by kernel_rfl

set_option maxRecDepth 100000 in
set_option maxHeartbeats 1600000 in
theorem find_null (p : Nat) (y ks it : Value) (x : PS) (w : World) (h0 : w.cell? ⟨p, 0, none⟩ = some (.iface 155 y)) (hp : p < w.heap.size) :
    Calls Try.prog 83 #[.pointer (some ⟨p, 0, none⟩), .agg #[.bool x.named, .string x.key, .int .i64 x.pl]] w fun e w' => e = .returned (.tuple #[.int .i64 (-1), .bool false]) ∧ Below w.heap.size w w' := by
  have t1 := taf_null_list y
  have t2 := ta_null_map y
  have hne : ¬ (p = w.heap.size) := by omega
  go_enter Try.func83, Try.ntmps83
  go_wp2_with fail
  go_ret2
  exact ⟨rfl, (Below.refl _ _).alloc (Nat.le_refl _) _⟩

set_option maxRecDepth 100000 in
set_option maxHeartbeats 1600000 in
theorem find_bool (p : Nat) (y ks it : Value) (x : PS) (w : World) (h0 : w.cell? ⟨p, 0, none⟩ = some (.iface 132 y)) (hp : p < w.heap.size) :
    Calls Try.prog 83 #[.pointer (some ⟨p, 0, none⟩), .agg #[.bool x.named, .string x.key, .int .i64 x.pl]] w fun e w' => e = .returned (.tuple #[.int .i64 (-1), .bool false]) ∧ Below w.heap.size w w' := by
  have t1 := taf_bool_list y
  have t2 := ta_bool_map y
  have hne : ¬ (p = w.heap.size) := by omega
  go_enter Try.func83, Try.ntmps83
  go_wp2_with fail
  go_ret2
  exact ⟨rfl, (Below.refl _ _).alloc (Nat.le_refl _) _⟩

set_option maxRecDepth 100000 in
set_option maxHeartbeats 1600000 in
theorem find_int (p : Nat) (y ks it : Value) (x : PS) (w : World) (h0 : w.cell? ⟨p, 0, none⟩ = some (.iface 133 y)) (hp : p < w.heap.size) :
    Calls Try.prog 83 #[.pointer (some ⟨p, 0, none⟩), .agg #[.bool x.named, .string x.key, .int .i64 x.pl]] w fun e w' => e = .returned (.tuple #[.int .i64 (-1), .bool false]) ∧ Below w.heap.size w w' := by
  have t1 := taf_int_list y
  have t2 := ta_int_map y
  have hne : ¬ (p = w.heap.size) := by omega
  go_enter Try.func83, Try.ntmps83
  go_wp2_with fail
  go_ret2
  exact ⟨rfl, (Below.refl _ _).alloc (Nat.le_refl _) _⟩

set_option maxRecDepth 100000 in
set_option maxHeartbeats 1600000 in
theorem find_text (p : Nat) (y ks it : Value) (x : PS) (w : World) (h0 : w.cell? ⟨p, 0, none⟩ = some (.iface 135 y)) (hp : p < w.heap.size) :
    Calls Try.prog 83 #[.pointer (some ⟨p, 0, none⟩), .agg #[.bool x.named, .string x.key, .int .i64 x.pl]] w fun e w' => e = .returned (.tuple #[.int .i64 (-1), .bool false]) ∧ Below w.heap.size w w' := by
  have t1 := taf_text_list y
  have t2 := ta_text_map y
  have hne : ¬ (p = w.heap.size) := by omega
  go_enter Try.func83, Try.ntmps83
  go_wp2_with fail
  go_ret2
  exact ⟨rfl, (Below.refl _ _).alloc (Nat.le_refl _) _⟩

set_option maxRecDepth 100000 in
set_option maxHeartbeats 1600000 in
theorem find_list (p n : Nat) (y : Value) (a : Option Addr) (c : Nat) (x : PS) (w : World) (h0 : w.cell? ⟨p, 0, none⟩ = some (.iface 129 y)) (h2 : w.cell? ⟨p, 2, none⟩ = some (.slice a n c)) (hp : p < w.heap.size) (hn : n ≤ 100000) (hx : -9223372036854775808 ≤ x.pl ∧ x.pl ≤ 9223372036854775807) :
    Calls Try.prog 83 #[.pointer (some ⟨p, 0, none⟩), .agg #[.bool x.named, .string x.key, .int .i64 x.pl]] w fun e w' => e = .returned (.tuple #[.int .i64 (findR 5 [] n x).1, .bool (findR 5 [] n x).2]) ∧ Below w.heap.size w w' := by
  have t1 := taf_list_list y
  have t2 := ta_list_map y
  have hne : ¬ (p = w.heap.size) := by omega
  obtain ⟨hx1, hx2⟩ := hx
  obtain ⟨nm, ky, pl⟩ := x
  simp only at hx1 hx2 ⊢
  have hba : Below w.heap.size w (w.alloc (.cells #[.bool nm, .string ky, .int .i64 pl] 82)) := (Below.refl _ _).alloc (Nat.le_refl _) _
  cases nm
  · by_cases hle : pl ≤ (n : Int)
    · have HR : Hid (findR 5 [] n ⟨false, ky, pl⟩ = (pl, decide (pl < (n : Int)))) := by unfold Hid findR; rw [if_pos rfl, if_pos ⟨rfl, hle⟩]
      go_enter Try.func83, Try.ntmps83
      go_wp2_with fail
      go_quiet (fail)
      go_wp2_with fail
      go_ret2
      exact ⟨by rw [HR.out]; rfl, below_drewN hba nq⟩
    · have HR : Hid (findR 5 [] n ⟨false, ky, pl⟩ = (-1, false)) := by unfold Hid findR; rw [if_pos rfl, if_neg (by simp; omega)]
      go_enter Try.func83, Try.ntmps83
      go_wp2_with fail
      go_ret2
      exact ⟨by rw [HR.out]; rfl, hba⟩
  · have HR : Hid (findR 5 [] n ⟨true, ky, pl⟩ = (-1, false)) := by unfold Hid findR; rw [if_pos rfl, if_neg (by simp)]
    go_enter Try.func83, Try.ntmps83
    go_wp2_with fail
    go_ret2
    exact ⟨by rw [HR.out]; rfl, hba⟩

set_option maxRecDepth 100000 in
set_option maxHeartbeats 1600000 in
theorem find_map (p : Nat) (y kv : Value) (keys : List ByteArray) (n : Nat) (x : PS) (w : World) (h0 : w.cell? ⟨p, 0, none⟩ = some (.iface 121 y)) (h1 : w.cell? ⟨p, 1, none⟩ = some kv) (hk : StrsAt w.heap.size w kv keys) (hr : Rise keys) (hl : keys.length ≤ 1048576) (hp : p < w.heap.size) :
    Calls Try.prog 83 #[.pointer (some ⟨p, 0, none⟩), .agg #[.bool x.named, .string x.key, .int .i64 x.pl]] w fun e w' => e = .returned (.tuple #[.int .i64 (findR 6 keys n x).1, .bool (findR 6 keys n x).2]) ∧ Below w.heap.size w w' := by
  have t1 := taf_map_list y
  have t2 := ta_map_map y
  have hne : ¬ (p = w.heap.size) := by omega
  obtain ⟨nm, ky, pl⟩ := x
  simp only
  have hba : Below w.heap.size w (w.alloc (.cells #[.bool nm, .string ky, .int .i64 pl] 82)) := (Below.refl _ _).alloc (Nat.le_refl _) _
  have HK := hideIt hk
  have HRI := hideIt hr
  obtain ⟨_, _, ak, ck, rfl, _⟩ := hk
  clear hr
  cases nm
  · have HR : Hid (findR 6 keys n ⟨false, ky, pl⟩ = (-1, false)) := by unfold Hid findR; rw [if_neg (by omega), if_neg (by simp)]
    go_enter Try.func83, Try.ntmps83
    go_wp2_with fail
    go_ret2
    exact ⟨by rw [HR.out]; rfl, hba⟩
  · have HR : Hid (findR 6 keys n ⟨true, ky, pl⟩ = (((posK keys ky : Nat) : Int), hasK keys ky)) := by unfold Hid findR; rw [if_neg (by omega), if_pos ⟨rfl, rfl⟩]
    go_enter Try.func83, Try.ntmps83
    go_wp2_with fail
    go_quiet ((go_at_call 111; exact Calls.quiet_of_same (search_any w.heap.size _ keys ky _ (HK.out.below (below_drewN hba _)) HRI.out hl)))
    go_wp2_with fail
    go_ret2
    exact ⟨by rw [HR.out]; rfl, below_drewN hba nq⟩
end Go.Proofs.Ytbclgogolimbgaa
