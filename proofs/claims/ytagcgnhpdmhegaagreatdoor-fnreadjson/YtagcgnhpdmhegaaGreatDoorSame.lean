/-
  A value is drawn that is not right now and then: one field of one node may be another one.
-/
import Derived.Test.YtagcgnhpdmhegaaGreatDoorDrV
import Derived.Laws.OwnMore
import Derived.ProofKit
import Derived.OpenShut
import Derived.ShutString
import Derived.ChangeOld
import Derived.Below
import Derived.Test.YtagcgnhpdmhegaaGreatDoorPhase
import Derived.Test.YtagcgnhpdmhegaaGreatDoorProg
import Derived.Lib.Bytealg
import Derived.Laws.Cover1
import Derived.Laws.Externs
import Derived.KernelRfl
import Derived.Test.YtagcgnhpdmhegaaGreatDoorVal
import Derived.Deep.QuietTactic
import Derived.BigQuiet
import Derived.WalkSmall
import Derived.Deep.RegionWith
import Derived.Test.YtagcgnhpdmhegaaGreatDoorRowB
namespace Go.Proofs.YtagcgnhpdmhegaaGreatDoor
open Go.RowKit
set_option linter.unusedSimpArgs false
set_option linter.unusedVariables false

theorem nodeAt_set {vs : List VN} {i : Nat} {x : VN} (hi : i < vs.length) (j : Nat) : nodeAt (vs.set i x) j = if j = i then x else nodeAt vs j := by
  unfold nodeAt
  rw [List.getD_eq_getElem?_getD, List.getD_eq_getElem?_getD, List.getElem?_set]
  by_cases e : i = j
  · subst e; simp [hi]
  · have e' : ¬ j = i := fun h => e h.symm
    simp [e, e']

theorem nestCells_put {vs : List VN} {KV IV : Nat → Value} {i f : Nat} {x : VN} {u : Value} (hi : i < vs.length) (hf : f < 3) (h0 : Value.int .i64 x.kind = if f = 0 then u else .int .i64 (nodeAt vs i).kind) (h1 : Value.int .i64 x.n = if f = 1 then u else .int .i64 (nodeAt vs i).n) (h2 : Value.string x.s = if f = 2 then u else .string (nodeAt vs i).s) :
    nestCells (vs.set i x) KV IV = (nestCells vs KV IV).set (i * 5 + f) u := by
  apply List.ext_getElem
  · simp [nestCells]
  · intro j hj1 hj2
    rw [List.getElem_set]
    simp only [nestCells, List.getElem_map, List.getElem_range]
    unfold nestCell
    rw [nodeAt_set hi]
    by_cases e : j / 5 = i
    · rw [if_pos e, e]
      have ej : j = i * 5 + j % 5 := by omega
      have hr : j % 5 < 5 := by omega
      generalize j % 5 = r at ej hr
      subst ej
      match r, hr with
      | 0, _ => simp only [if_true]; rw [h0]; by_cases e2 : f = 0 <;> simp [e2]
      | 1, _ => simp; exact h1
      | 2, _ => simp; exact h2
      | 3, _ => simp; omega
      | 4, _ => simp; omega
    · have hne : ¬ i * 5 + f = j := by omega
      simp only [if_neg e, if_neg hne]

theorem Nest.put {base g n c : Nat} {w : World} {vs : List VN} {KV IV : Nat → Value} {i f : Nat} {x : VN} {u : Value} (h : Nest base w (.slice (some ⟨g, 0, none⟩) n c) vs KV IV) (hl : vs.length = n) (hi : i < vs.length) (hf : f < 3) (hu : u.oneCell' = true) (h0 : Value.int .i64 x.kind = if f = 0 then u else .int .i64 (nodeAt vs i).kind) (h1 : Value.int .i64 x.n = if f = 1 then u else .int .i64 (nodeAt vs i).n) (h2 : Value.string x.s = if f = 2 then u else .string (nodeAt vs i).s) (hk : x.keys = (nodeAt vs i).keys) (hd : x.kids = (nodeAt vs i).kids) :
    Nest base (w.setCell ⟨g, i * 5 + f, none⟩ u) (.slice (some ⟨g, 0, none⟩) n c) (vs.set i x) KV IV := by
  have hr := h.row
  rw [hl] at hr
  have hs := hr.stored (i * 5 + f) u
  have hlen : (vs.set i x).length = vs.length := List.length_set ..
  have hks : ∀ j, (nodeAt (vs.set i x) j).keys = (nodeAt vs j).keys := fun j => by rw [nodeAt_set hi]; split <;> simp_all
  have hds : ∀ j, (nodeAt (vs.set i x) j).kids = (nodeAt vs j).kids := fun j => by rw [nodeAt_set hi]; split <;> simp_all
  refine ⟨?_, fun j hj => ?_, fun j hj => ?_, fun a b ha hb => h.dkk a b (by omega) (by omega), fun a b ha hb => h.dii a b (by omega) (by omega)⟩
  · rw [hlen, hl, nestCells_put hi hf h0 h1 h2]; exact hs.1
  · rw [hks]; exact (h.rk j (by omega)).kept hs.2 (own_apart (h.rk j (by omega)) hr (by decide))
  · rw [hds]; exact (h.ri j (by omega)).kept hs.2 (own_apart (h.ri j (by omega)) hr (by decide))

theorem Fine.put {c i : Nat} {vs : List VN} {x : VN} (h : Fine c vs) (hi : i < vs.length) (hk : x.keys = (nodeAt vs i).keys) (hd : x.kids = (nodeAt vs i).kids) (h1 : -9223372036854775808 ≤ x.kind ∧ x.kind ≤ 9223372036854775807) (h2 : -9223372036854775808 ≤ x.n ∧ x.n ≤ 9223372036854775807) (h3 : x.s.size ≤ 60) : Fine c (vs.set i x) := by
  have hl : (vs.set i x).length = vs.length := List.length_set ..
  refine ⟨by rw [hl]; exact h.1, by rw [hl]; exact h.2.1, fun j hj => ?_⟩
  rw [hl] at hj ⊢
  rw [nodeAt_set hi]
  by_cases e : j = i
  · rw [if_pos e]
    have hx := h.2.2 i hi
    exact ⟨by rw [hk]; exact hx.keysN, by rw [hk]; exact hx.keysS, by rw [hd]; exact hx.kidsN, by rw [hd]; exact hx.kids, h3, h1, h2⟩
  · rw [if_neg e]; exact h.2.2 j hj

end Go.Proofs.YtagcgnhpdmhegaaGreatDoor

/-
  The draws of FnOrder: values out of a code.
-/
namespace Go.Proofs.YtagcgnhpdmhegaaGreatDoor
open Go.RowKit
set_option linter.unusedSimpArgs false
set_option linter.unusedVariables false

/-- A code of n bytes. -/
def CodeAt (B : Nat) (w : World) (v : Value) (n : Nat) : Prop :=
  n ≤ 1048576 ∧ ∃ a cap, v = .slice a n cap ∧ (0 < n → ∃ b o, a = some ⟨b, o, none⟩ ∧ b < B ∧ ∀ i, i < n → ∃ x : Nat, x < 256 ∧ w.cell? ⟨b, o + i, none⟩ = some (.int .u8 x))

theorem CodeAt.below {B : Nat} {w w' : World} {v : Value} {n : Nat} (h : CodeAt B w v n) (hb : Below B w w') : CodeAt B w' v n := by
  obtain ⟨hn, a, cap, e, hc⟩ := h
  refine ⟨hn, a, cap, e, fun hp => ?_⟩
  obtain ⟨b, o, e2, hlt, hx⟩ := hc hp
  exact ⟨b, o, e2, hlt, fun i hi => by obtain ⟨x, h3, h4⟩ := hx i hi; exact ⟨x, h3, (below_cell hb hlt).trans h4⟩⟩

set_option maxHeartbeats 800000 in
theorem l1Open_any (B : Nat) (v : Value) (n : Nat) (w : World) (h : CodeAt B w v n) (hB : B ≤ w.heap.size) :
    Calls Tryz.prog 16 #[v] w fun e w' => e = .returned (.pointer (some ⟨w.heap.size, 0, none⟩)) ∧ RdAt w' w.heap.size n 0 ∧ Below w.heap.size w w' := by
  obtain ⟨hn, a, cap, rfl, hc⟩ := h
  have HC := hideIt hc
  clear hc
  go_enter Tryz.func16, Tryz.ntmps16
  go_wp2_with fail
  go_ret
  have hb : Below w.heap.size w (w.alloc (.cells #[.slice a n cap, .int .i64 0] 67)) := (Below.refl _ _).alloc (Nat.le_refl _) _
  refine ⟨rfl, ⟨by simp, ⟨a, cap, by simp, fun hp => ?_⟩, by simp, by omega, hn, frozen_of_row _ _ 1 _ _ (heap_alloc_new w _)⟩, hb⟩
  obtain ⟨b, o, e, hlt, hx⟩ := HC.out hp
  exact ⟨b, o, e, by omega, fun i hi => by obtain ⟨x, h3, h4⟩ := hx i hi; exact ⟨x, h3, (below_cell hb (by omega)).trans h4⟩⟩

end Go.Proofs.YtagcgnhpdmhegaaGreatDoor

/-
  Codes of bytes that came in: whether they are too many, and how the argument is opened.
-/
namespace Go.Proofs.YtagcgnhpdmhegaaGreatDoor
open Go.ChangeShapes Go.WideShapes Go.ChangeAt Go.RowKit
set_option linter.unusedSimpArgs false
set_option linter.unusedVariables false

set_option maxHeartbeats 400000 in
theorem big_any (a : Option Addr) (n cap : Nat) (w : World) (hn : n ≤ 9223372036854775807) :
    Calls Tryz.prog 5 #[.slice a n cap] w fun e w' => e = .returned (.bool (decide (1048576 < n))) ∧ w' = w := by
  by_cases h : 1048576 < n
  · have h' : (1048576 : Int) < (n : Int) := by omega
    go_enter Tryz.func5, Tryz.ntmps5
    go_wp2
    go_ret
    exact ⟨ret_bool (by simp [h]), rfl⟩
  · have h' : ¬ (1048576 : Int) < (n : Int) := by omega
    go_enter Tryz.func5, Tryz.ntmps5
    go_wp2
    go_ret
    exact ⟨ret_bool (by simp [h]), rfl⟩

/-- Bytes that came in. -/
def RawCode (w : World) (v : Value) (n : Nat) : Prop :=
  n ≤ 9223372036854775807 ∧ ∃ a cap, v = .slice a n cap ∧ (0 < n → ∃ b o, a = some ⟨b, o, none⟩ ∧ b < w.heap.size ∧ ∀ i, i < n → ∃ x : Nat, x < 256 ∧ w.cell? ⟨b, o + i, none⟩ = some (.int .u8 x))

theorem cells1b : Tryz.prog.cellsOf 5 = 1 := by kernel_rfl

theorem wfByte {n : Int} (h : (Lit.int .u8 n).wf = true) : 0 ≤ n ∧ n ≤ 255 := by
  simp [Lit.wf, IntKind.min, IntKind.max, IntKind.signed, IntKind.bits] at h
  omega

theorem lt_cellB {w : World} {b o : Nat} {v : Value} (h : w.cell? ⟨b, o, none⟩ = some v) : b < w.heap.size := by
  unfold World.cell? at h
  cases hb : w.heap[b]? with
  | none => simp [hb] at h
  | some x => exact (Array.getElem?_eq_some_iff.1 hb).1

section
variable {H : Type} {enc : TypeId × Value → H} {W : World} {base : Nat} {spare : Nat → Bool} {held : Bool}

theorem raw_code {fuel : Nat} {v : Value} {x : DataW H × List MemPlace} (h : DataW.trod enc Tryz.prog W base spare held fuel 22 [v] = some x) : ∃ n, RawCode W v n := by
  rcases open_ints Tryz.underlying22 Tryz.underlying5 cells1b h with ⟨hcs, _⟩ | ⟨a, len, cap, zs, hcs, _, hl, hm, hz, _, hcell, hwz⟩
  · refine ⟨0, by omega, none, 0, by simpa using hcs, fun hl => absurd hl (by simp)⟩
  · have hlen : len ≤ zs.length := by rw [hz]; split <;> omega
    have hm' : len ≤ 9223372036854775807 := by unfold maxLen at hm; omega
    refine ⟨len, hm', some a, cap, by simpa using hcs, fun hl0 => ?_⟩
    obtain ⟨b, o, spot⟩ := a
    have hc0 := hcell 0 (by omega)
    have hspot : spot = none := by simpa [Addr.add] using World.cell?_spot hc0
    subst hspot
    have hc' : ∀ i, i < len → W.cell? ⟨b, o + i, none⟩ = some (.int .u8 (zs.getD i 0)) := fun i hi => by
      have := hcell i (by omega)
      by_cases e : i = 0
      · subst e; simpa [Addr.add] using this
      · simpa [Addr.add, e] using this
    refine ⟨b, o, rfl, lt_cellB (hc' 0 (by omega)), fun i hi => ?_⟩
    have hw := wfByte (hwz (zs.getD i 0) (by
      rw [List.getD_eq_getElem?_getD, List.getElem?_eq_getElem (by omega)]
      exact List.getElem_mem _))
    refine ⟨(zs.getD i 0).toNat, by omega, ?_⟩
    rw [hc' i hi, show (((zs.getD i 0).toNat : Nat) : Int) = zs.getD i 0 by omega]
end

end Go.Proofs.YtagcgnhpdmhegaaGreatDoor

/-
  Comparing numbers, texts and lists of texts: the specification's functions and the library's answer alike.
-/
namespace Go.Proofs.YtagcgnhpdmhegaaGreatDoor
open Go.RowKit
set_option linter.unusedSimpArgs false
set_option linter.unusedVariables false

def cmpI (a b : Int) : Int := if a < b then -1 else if b < a then 1 else 0
def cmpL (x y : List UInt8) : Int := Lib.compareBytes x y
def cmpS (a b : ByteArray) : Int := cmpL a.toList b.toList

theorem cmpL_cons (a b : UInt8) (x y : List UInt8) : cmpL (a :: x) (b :: y) = if a < b then -1 else if b < a then 1 else cmpL x y := by
  unfold cmpL; rw [Lib.compareBytes]

theorem cmpL_less : ∀ x y : List UInt8, Op.bytesLess x y = decide (cmpL x y = -1) := by
  intro x
  induction x with
  | nil => intro y; cases y <;> simp [Op.bytesLess, cmpL, Lib.compareBytes]
  | cons a x ih =>
    intro y
    cases y with
    | nil => simp [Op.bytesLess, cmpL, Lib.compareBytes]
    | cons b y =>
      rw [Op.bytesLess, cmpL_cons, ih]
      by_cases h1 : a < b
      · simp [h1]
      · by_cases h2 : b < a
        · have : (a == b) = false := by simp; intro e; subst e; exact h1 h2
          simp [h1, h2, this]
        · have : a = b := UInt8.le_antisymm (UInt8.not_lt.1 h2) (UInt8.not_lt.1 h1)
          simp [h1, h2, this]

theorem cmpL_flip : ∀ x y : List UInt8, cmpL y x = -cmpL x y := by
  intro x
  induction x with
  | nil => intro y; cases y <;> simp [cmpL, Lib.compareBytes]
  | cons a x ih =>
    intro y
    cases y with
    | nil => simp [cmpL, Lib.compareBytes]
    | cons b y =>
      rw [cmpL_cons, cmpL_cons]
      by_cases h1 : a < b
      · have h2 : ¬ b < a := UInt8.not_lt.2 (UInt8.le_of_lt h1)
        simp [h1, h2]
      · by_cases h2 : b < a
        · simp [h1, h2]
        · simp [h1, h2, ih]

theorem cmpL_range : ∀ x y : List UInt8, cmpL x y = -1 ∨ cmpL x y = 0 ∨ cmpL x y = 1 := by
  intro x
  induction x with
  | nil => intro y; cases y <;> simp [cmpL, Lib.compareBytes]
  | cons a x ih =>
    intro y
    cases y with
    | nil => simp [cmpL, Lib.compareBytes]
    | cons b y =>
      rw [cmpL_cons]
      split
      · simp
      · split
        · simp
        · exact ih y

theorem cmpI_range (a b : Int) : cmpI a b = -1 ∨ cmpI a b = 0 ∨ cmpI a b = 1 := by unfold cmpI; split <;> (try split) <;> simp
set_option maxHeartbeats 1000000 in
set_option maxRecDepth 100000 in
theorem compareString_any (a b : ByteArray) (w : World) : Calls Tryz.prog 130 #[.string a, .string b] w fun e w' => e = .returned (.int .i64 (cmpS a b)) ∧ w' = w := by
  go_enter Tryz.func130, Tryz.ntmps130
  go_wp2
  rw [run_callFunc_extern Tryz.func132 (by kernel_rfl) (by kernel_rfl) (by kernel_rfl) (e := Extern.BytealgCompare.compare) (by kernel_rfl), Lib.run_compareString]
  simp only [Result.andThen]
  rw [Oper.upon_value]
  go_wp2
  go_ret
  exact ⟨ret_int (by simp [cmpS, cmpL, ByteArray.toList_eq]), rfl⟩

set_option maxHeartbeats 1000000 in
theorem stringsCompare_any (a b : ByteArray) (w : World) : Calls Tryz.prog 125 #[.string a, .string b] w fun e w' => e = .returned (.int .i64 (cmpS a b)) ∧ w' = w := by
  go_enter Tryz.func125, Tryz.ntmps125
  go_wp2_with (go_at_call 130; refine (compareString_any _ _ _).mono ?_; rintro e w' ⟨rfl, rfl⟩)
  go_ret
  exact ⟨rfl, rfl⟩
end Go.Proofs.YtagcgnhpdmhegaaGreatDoor

/-
  The order of two values, as a plain function of their nodes; lists of texts compared by the library.
-/
namespace Go.Proofs.YtagcgnhpdmhegaaGreatDoor
open Go.RowKit
set_option linter.unusedSimpArgs false
set_option linter.unusedVariables false

theorem keyAt_get {l : List ByteArray} {j : Nat} (h : j < l.length) : keyAt l j = l[j] := by simp [keyAt, h]

end Go.Proofs.YtagcgnhpdmhegaaGreatDoor

/-
  The specification's order of two right values.
-/
namespace Go.Proofs.YtagcgnhpdmhegaaGreatDoor
open Go.RowKit
set_option linter.unusedSimpArgs false
set_option linter.unusedVariables false

/-- Two values side by side in memory: what the order asks of them. -/
structure Two (B : Nat) (w : World) (v1 v2 : Value) (us vs : List VN) : Prop where
  n1 : NodesAt B w v1 us
  n2 : NodesAt B w v2 vs
  k1 : ∀ k, k < us.length → nodeB (nodeAt us k) = true ∧ kidsIn us k = true
  k2 : ∀ k, k < vs.length → nodeB (nodeAt vs k) = true ∧ kidsIn vs k = true

theorem Two.below {B : Nat} {w w' : World} {v1 v2 : Value} {us vs : List VN} (h : Two B w v1 v2 us vs) (hb : Below B w w') : Two B w' v1 v2 us vs := ⟨h.n1.below hb, h.n2.below hb, h.k1, h.k2⟩

end Go.Proofs.YtagcgnhpdmhegaaGreatDoor

/-
  spec.Order: -2 where one of the two is not right, else the order of their roots.
-/
namespace Go.Proofs.YtagcgnhpdmhegaaGreatDoor
open Go.RowKit
set_option linter.unusedSimpArgs false
set_option linter.unusedVariables false

end Go.Proofs.YtagcgnhpdmhegaaGreatDoor

/-
  The order of values turned round, and of three values. Plain mathematics.
-/
namespace Go.Proofs.YtagcgnhpdmhegaaGreatDoor
open Go.RowKit
set_option linter.unusedSimpArgs false
set_option linter.unusedVariables false

/-- The first that is not 0. -/
def comb (x y : Int) : Int := if x = 0 then y else x
def R3 (x : Int) : Prop := x = -1 ∨ x = 0 ∨ x = 1
/-- Where the two do not go apart, the third is the first of them that is not 0. -/
def Tri (x y z : Int) : Prop := ¬ (x = 1 ∧ y = -1) → ¬ (x = -1 ∧ y = 1) → z = comb x y

theorem comb_r3 {x y : Int} (hx : R3 x) (hy : R3 y) : R3 (comb x y) := by unfold comb; split <;> assumption
theorem tri_lex {x1 y1 z1 x2 y2 z2 : Int} (hx1 : R3 x1) (hy1 : R3 y1) (hx2 : R3 x2) (hy2 : R3 y2) (h1 : Tri x1 y1 z1) (h2 : Tri x2 y2 z2) : Tri (comb x1 x2) (comb y1 y2) (comb z1 z2) := by
  unfold Tri comb at *
  unfold R3 at *
  intro a b
  rcases hx1 with rfl | rfl | rfl <;> rcases hy1 with rfl | rfl | rfl <;> rcases hx2 with rfl | rfl | rfl <;> rcases hy2 with rfl | rfl | rfl <;> simp at * <;> simp [*]

theorem cmpI_r3 (a b : Int) : R3 (cmpI a b) := cmpI_range a b
theorem cmpI_tri (a b c : Int) : Tri (cmpI a b) (cmpI b c) (cmpI a c) := by
  unfold Tri comb cmpI
  intro h1 h2
  split <;> split <;> (try split) <;> (try split) <;> (try split) <;> (try split) <;> simp_all <;> omega

/-- Lists, by the first that differs, then by how many there are. -/
structure IsLex {α β : Type} (C : List α → List β → Int) (r : α → β → Int) : Prop where
  nn : C [] [] = 0
  nc : ∀ b m, C [] (b :: m) = -1
  cn : ∀ a l, C (a :: l) [] = 1
  cc : ∀ a l b m, C (a :: l) (b :: m) = comb (r a b) (C l m)

theorem lex_r3 {α β : Type} {C : List α → List β → Int} {r : α → β → Int} (h : IsLex C r) (hr : ∀ a b, R3 (r a b)) : ∀ x y, R3 (C x y) := by
  intro x
  induction x with
  | nil => intro y; cases y with
    | nil => rw [h.nn]; exact Or.inr (Or.inl rfl)
    | cons b m => rw [h.nc]; exact Or.inl rfl
  | cons a l ih => intro y; cases y with
    | nil => rw [h.cn]; exact Or.inr (Or.inr rfl)
    | cons b m => rw [h.cc]; exact comb_r3 (hr a b) (ih m)

theorem lex_tri {α β γ : Type} {C1 : List α → List β → Int} {C2 : List β → List γ → Int} {C3 : List α → List γ → Int} {r1 : α → β → Int} {r2 : β → γ → Int} {r3 : α → γ → Int} (h1 : IsLex C1 r1) (h2 : IsLex C2 r2) (h3 : IsLex C3 r3) (hr1 : ∀ a b, R3 (r1 a b)) (hr2 : ∀ b c, R3 (r2 b c)) (ht : ∀ a b c, Tri (r1 a b) (r2 b c) (r3 a c)) : ∀ x y z, Tri (C1 x y) (C2 y z) (C3 x z) := by
  intro x
  induction x with
  | nil =>
    intro y z
    cases y with
    | nil => cases z with
      | nil => rw [h1.nn, h2.nn, h3.nn]; intro _ _; rfl
      | cons c k => rw [h1.nn, h2.nc, h3.nc]; intro _ _; rfl
    | cons b m => cases z with
      | nil => rw [h1.nc, h2.cn]; intro _ h; exact absurd ⟨rfl, rfl⟩ h
      | cons c k => rw [h1.nc, h3.nc]; intro _ _; rfl
  | cons a l ih =>
    intro y z
    cases y with
    | nil => cases z with
      | nil => rw [h1.cn, h2.nn, h3.cn]; intro _ _; rfl
      | cons c k => rw [h1.cn, h2.nc]; intro h _; exact absurd ⟨rfl, rfl⟩ h
    | cons b m => cases z with
      | nil =>
        rw [h2.cn, h3.cn]
        intro _ h
        rcases lex_r3 h1 hr1 (a :: l) (b :: m) with e | e | e
        · exact absurd ⟨e, rfl⟩ h
        · rw [e]; rfl
        · rw [e]; rfl
      | cons c k =>
        rw [h1.cc, h2.cc, h3.cc]
        exact tri_lex (hr1 a b) (hr2 b c) (lex_r3 h1 hr1 l m) (lex_r3 h2 hr2 m k) (ht a b c) (ih m k)

theorem cmpL_lex : IsLex cmpL (fun a b => cmpI (a.toNat : Int) (b.toNat : Int)) := by
  refine ⟨rfl, fun b m => rfl, fun a l => rfl, fun a l b m => ?_⟩
  rw [cmpL_cons]
  unfold comb cmpI
  simp only [UInt8.lt_iff_toNat_lt]
  split <;> (try split) <;> (try split) <;> (try split) <;> simp_all <;> omega
theorem cmpS_r3 (a b : ByteArray) : R3 (cmpS a b) := cmpL_range _ _
theorem cmpS_flip (a b : ByteArray) : cmpS b a = -cmpS a b := cmpL_flip _ _
theorem cmpS_tri (a b c : ByteArray) : Tri (cmpS a b) (cmpS b c) (cmpS a c) := lex_tri cmpL_lex cmpL_lex cmpL_lex (fun _ _ => cmpI_r3 _ _) (fun _ _ => cmpI_r3 _ _) (fun _ _ _ => cmpI_tri _ _ _) _ _ _

end Go.Proofs.YtagcgnhpdmhegaaGreatDoor

/-
  Two right values are the same just where their order is 0. Plain mathematics.
-/
namespace Go.Proofs.YtagcgnhpdmhegaaGreatDoor
open Go.RowKit
set_option linter.unusedSimpArgs false
set_option linter.unusedVariables false

end Go.Proofs.YtagcgnhpdmhegaaGreatDoor

/-
  The law's own comparison of two rows of nodes: it says true just where they are the same.
-/
namespace Go.Proofs.YtagcgnhpdmhegaaGreatDoor
open Go.RowKit
set_option linter.unusedSimpArgs false
set_option linter.unusedVariables false

theorem strs_eq {a b : List ByteArray} (hl : a.length = b.length) (h : ∀ j, j < a.length → keyAt a j = keyAt b j) : a = b := by
  refine List.ext_getElem hl fun i h1 h2 => ?_
  have := h i h1
  simpa [keyAt, h1, h2] using this

theorem ints_eq {a b : List Int} (hl : a.length = b.length) (h : ∀ j, j < a.length → intAt a j = intAt b j) : a = b := by
  refine List.ext_getElem hl fun i h1 h2 => ?_
  have := h i h1
  simpa [intAt, h1, h2] using this

theorem nodes_eq {a b : List VN} (hl : a.length = b.length) (h : ∀ j, j < a.length → nodeAt a j = nodeAt b j) : a = b := by
  refine List.ext_getElem hl fun i h1 h2 => ?_
  have := h i h1
  simpa [nodeAt, h1, h2] using this

theorem vn_eq {x y : VN} (h1 : x.kind = y.kind) (h2 : x.n = y.n) (h3 : x.s = y.s) (h4 : x.keys = y.keys) (h5 : x.kids = y.kids) : x = y := by
  cases x; cases y; simp_all

theorem bytes_eq {a b : ByteArray} (h : (a.toList == b.toList) = true) : a = b := by
  have e : a.toList = b.toList := eq_of_beq h
  rw [Lib.toList_data, Lib.toList_data] at e
  rw [← Lib.mk_data a, ← Lib.mk_data b, e]

theorem nodes_ne {us vs : List VN} {k : Nat} (h : nodeAt us k ≠ nodeAt vs k) : ¬ us = vs := fun e => h (by rw [e])

theorem ret_no {p : Prop} (h : ¬ p) : ∃ b, Ending.returned (.bool false) = .returned (.bool b) ∧ (b = true ↔ p) := ⟨false, rfl, by simp [h]⟩

set_option maxRecDepth 100000 in
set_option maxHeartbeats 4000000 in
theorem same_any (B : Nat) (v1 v2 : Value) (us vs : List VN) (w : World) (h1 : NodesAt B w v1 us) (h2 : NodesAt B w v2 vs) (hB : B ≤ w.heap.size) :
    Calls Tryz.prog 12 #[v1, v2] w fun e w' => (∃ b, e = .returned (.bool b) ∧ (b = true ↔ us = vs)) ∧ Below w.heap.size w w' := by
  obtain ⟨hlen, a1, cap1, rfl, hcell1⟩ := h1
  obtain ⟨hlen2, a2, cap2, rfl, hcell2⟩ := h2
  have HC1 := hideIt hcell1
  have HC2 := hideIt hcell2
  clear hcell1 hcell2
  by_cases hl : us.length = vs.length
  case neg =>
    have hne : ((us.length : Int) != (vs.length : Int)) = true := by simp; omega
    have HO : Hid (¬ us = vs) := fun e => hl (by rw [e])
    clear hl
    go_enter Tryz.func12, Tryz.ntmps12
    go_wp2_with fail
    go_ret
    exact ⟨ret_no HO.out, Below.refl _ _⟩
  case pos =>
  obtain ⟨N, hN⟩ : ∃ N, us.length = N := ⟨_, rfl⟩
  have HN1 := hideIt hN
  have HN2 := hideIt (hl.symm.trans hN)
  rw [← hl, hN]
  rw [hN] at hlen
  clear hl hN hlen2
  have hne : ((N : Int) != (N : Int)) = false := by simp
  go_enter Tryz.func12, Tryz.ntmps12
  go_wp2_with fail
  go_loopw [5] (fun i wr => ∃ k : Nat, k ≤ N ∧ i = .int .i64 k ∧ Hid (∀ j, j < k → nodeAt us j = nodeAt vs j) ∧ Below w.heap.size w wr) (fun i _ => N - (intOf i).toNat)
  case atStart => exact ⟨0, Nat.zero_le _, rfl, fun j hj => absurd hj (by omega), Below.refl _ _⟩
  case round =>
    obtain ⟨k, hk, rfl, HE, hbel⟩ := hrel
    by_cases hlt : k < N
    case neg =>
      have HO : Hid (us = vs) := nodes_eq (HN1.out.trans HN2.out.symm) (fun j hj => HE.out j (by have := HN1.out; omega))
      go_wp2_with fail
      go_ret
      exact ⟨⟨true, rfl, by simp [HO.out]⟩, hbel⟩
    case pos =>
    obtain ⟨b1, o1, rfl, hb1, hc1⟩ := HC1.out (by have := HN1.out; omega)
    obtain ⟨b2, o2, rfl, hb2, hc2⟩ := HC2.out (by have := HN2.out; omega)
    obtain ⟨ka, ki, hn⟩ := hc1 k (by have := HN1.out; omega)
    obtain ⟨ka', ki', hn'⟩ := hc2 k (by have := HN2.out; omega)
    have g := hn.below (hbel.mono hB) hb1
    have g' := hn'.below (hbel.mono hB) hb2
    clear hc1 hc2 hn hn'
    have HG := hideIt g
    have HG' := hideIt g'
    obtain ⟨kl1, ks1, ak1, ck1, e1, hkc1⟩ := g.inn.keys
    obtain ⟨il1, is1, ai1, ci1, e2, hic1⟩ := g.inn.kids
    obtain ⟨kl2, ks2, ak2, ck2, e3, hkc2⟩ := g'.inn.keys
    obtain ⟨il2, is2, ai2, ci2, e4, hic2⟩ := g'.inn.kids
    subst e1 e2 e3 e4
    have c0 := g.c0
    have c1 := g.c1
    have c2 := g.c2
    have c3 := g.c3
    have c4 := g.c4
    have d0 := g'.c0
    have d1 := g'.c1
    have d2 := g'.c2
    have d3 := g'.c3
    have d4 := g'.c4
    clear g g'
    have HEQ : Hid (∀ p : Prop, (nodeAt us k = nodeAt vs k → p) → ¬ p → ¬ us = vs) := fun p h1 h2 => nodes_ne (fun e => h2 (h1 e))
    have hsize := hbel.size
    have HKC1 := hideIt hkc1
    have HKC2 := hideIt hkc2
    have HIC1 := hideIt hic1
    have HIC2 := hideIt hic2
    clear hkc1 hkc2 hic1 hic2 ks1 ks2 is1 is2
    obtain ⟨x, hx⟩ : ∃ x, nodeAt us k = x := ⟨_, rfl⟩
    obtain ⟨y, hy⟩ : ∃ y, nodeAt vs k = y := ⟨_, rfl⟩
    rw [hx] at c0 c1 c2 c3 c4 HKC1 HIC1 HEQ HG
    rw [hy] at d0 d1 d2 d3 d4 HKC2 HIC2 HEQ HG'
    have kl1' : x.keys.length ≤ 8796093022208 := by rw [← hx]; exact kl1
    have kl2' : y.keys.length ≤ 8796093022208 := by rw [← hy]; exact kl2
    have il1' : x.kids.length ≤ 17592186044416 := by rw [← hx]; exact il1
    have il2' : y.kids.length ≤ 17592186044416 := by rw [← hy]; exact il2
    have HX := hideIt hx
    have HY := hideIt hy
    clear hx hy kl1 kl2 il1 il2
    by_cases q1 : x.kind = y.kind
    case neg =>
      have f1 : (x.kind != y.kind) = true := by simpa using q1
      have HO := hideIt (HEQ.out _ (fun e => by rw [e]) q1)
      clear q1
      go_wp2_with fail
      refine wp_region_quiet_lit (by kernel_rfl) (by kernel_rfl) ?_
      simp only [List.append_eq, List.cons_append, List.nil_append]
      repeat (go_big_quiet_step (fail))
      refine wpQuiet_nil ?_
      intro _ hw'
      obtain ⟨nq, hw''⟩ := hw'
      subst hw''
      go_wp2_with fail
      go_ret
      exact ⟨ret_no HO.out, below_drewN hbel nq⟩
    case pos =>
    have f1 : (x.kind != y.kind) = false := by simpa using q1
    have Q1 := hideIt q1
    clear q1
    by_cases q2 : x.n = y.n
    case neg =>
      have f2 : (x.n != y.n) = true := by simpa using q2
      have HO := hideIt (HEQ.out _ (fun e => by rw [e]) q2)
      clear q2
      go_wp2_with fail
      refine wp_region_quiet_lit (by kernel_rfl) (by kernel_rfl) ?_
      simp only [List.append_eq, List.cons_append, List.nil_append]
      repeat (go_big_quiet_step (fail))
      refine wpQuiet_nil ?_
      intro _ hw'
      obtain ⟨nq, hw''⟩ := hw'
      subst hw''
      go_wp2_with fail
      go_ret
      exact ⟨ret_no HO.out, below_drewN hbel nq⟩
    case pos =>
    have f2 : (x.n != y.n) = false := by simpa using q2
    have Q2 := hideIt q2
    clear q2
    by_cases f3 : (x.s.toList == y.s.toList) = true
    case neg =>
      have f3' : (x.s.toList == y.s.toList) = false := by simpa using f3
      have HO := hideIt (HEQ.out ((x.s.toList == y.s.toList) = true) (fun e => by rw [e]; simp) f3)
      clear f3
      go_wp2_with fail
      refine wp_region_quiet_lit (by kernel_rfl) (by kernel_rfl) ?_
      simp only [List.append_eq, List.cons_append, List.nil_append]
      repeat (go_big_quiet_step (fail))
      refine wpQuiet_nil ?_
      intro _ hw'
      obtain ⟨nq, hw''⟩ := hw'
      subst hw''
      go_wp2_with fail
      go_ret
      exact ⟨ret_no HO.out, below_drewN hbel nq⟩
    case pos =>
    by_cases q4 : x.keys.length = y.keys.length
    case neg =>
      have f4 : ((x.keys.length : Int) != (y.keys.length : Int)) = true := by simp; omega
      have HO := hideIt (HEQ.out _ (fun e => by rw [e]) q4)
      clear q4
      go_wp2_with fail
      refine wp_region_quiet_lit (by kernel_rfl) (by kernel_rfl) ?_
      simp only [List.append_eq, List.cons_append, List.nil_append]
      repeat (go_big_quiet_step (fail))
      refine wpQuiet_nil ?_
      intro _ hw'
      obtain ⟨nq, hw''⟩ := hw'
      subst hw''
      go_wp2_with fail
      go_ret
      exact ⟨ret_no HO.out, below_drewN hbel nq⟩
    case pos =>
    by_cases q5 : x.kids.length = y.kids.length
    case neg =>
      have f4 : ((x.keys.length : Int) != (y.keys.length : Int)) = false := by simp; omega
      have f5 : ((x.kids.length : Int) != (y.kids.length : Int)) = true := by simp; omega
      have HO := hideIt (HEQ.out _ (fun e => by rw [e]) q5)
      clear q5 q4
      go_wp2_with fail
      refine wp_region_quiet_lit (by kernel_rfl) (by kernel_rfl) ?_
      simp only [List.append_eq, List.cons_append, List.nil_append]
      repeat (go_big_quiet_step (fail))
      refine wpQuiet_nil ?_
      intro _ hw'
      obtain ⟨nq, hw''⟩ := hw'
      subst hw''
      go_wp2_with fail
      go_ret
      exact ⟨ret_no HO.out, below_drewN hbel nq⟩
    case pos =>
    have Q4 := hideIt q4
    have Q5 := hideIt q5
    obtain ⟨P, hP⟩ : ∃ P, x.keys.length = P := ⟨_, rfl⟩
    obtain ⟨Q, hQ⟩ : ∃ Q, x.kids.length = Q := ⟨_, rfl⟩
    rw [← q4, hP] at d3
    rw [← q5, hQ] at d4
    rw [hP] at c3
    rw [hQ] at c4
    have HP := hideIt hP
    have HQ := hideIt hQ
    have hP' : P ≤ 8796093022208 := by omega
    have hQ' : Q ≤ 17592186044416 := by omega
    clear q4 q5 kl1' kl2' il1' il2' hP hQ
    have f4 : ((P : Int) != (P : Int)) = false := by simp
    have f5 : ((Q : Int) != (Q : Int)) = false := by simp
    have HCL : Hid (∀ W, Below w.heap.size w W → ∀ o, W.cell? ⟨b1, o, none⟩ = wr.cell? ⟨b1, o, none⟩ ∧ W.cell? ⟨b2, o, none⟩ = wr.cell? ⟨b2, o, none⟩) := fun W hW o =>
      ⟨(below_cell hW (by omega)).trans (below_cell hbel (by omega)).symm, (below_cell hW (by omega)).trans (below_cell hbel (by omega)).symm⟩
    have C3 := hideIt c3
    have C4 := hideIt c4
    have D3 := hideIt d3
    have D4 := hideIt d4
    go_wp2_with fail
    refine wp_region_quiet_lit (by kernel_rfl) (by kernel_rfl) ?_
    simp only [List.append_eq, List.cons_append, List.nil_append]
    repeat (go_big_quiet_step (fail))
    refine wpQuiet_nil ?_
    intro _ hw'
    obtain ⟨nq, hw''⟩ := hw'
    subst hw''
    have hbq := below_drewN hbel nq
    obtain ⟨W0, hW0⟩ : ∃ W0, W0 = wr := ⟨_, rfl⟩
    rw [← hW0] at HCL C3 C4 D3 D4 HKC1 HKC2 HIC1 HIC2 HG HG'
    generalize wr.drewN nq = W1 at hbq ⊢
    have HW0 : Hid (Below w.heap.size w W0) := by rw [Hid, hW0]; exact hbel
    clear c0 c1 c2 c3 c4 d0 d1 d2 d3 d4 hW0 hbel
    go_wp2_with fail
    go_loopw [6] (fun i wr => ∃ q : Nat, q ≤ P ∧ i = .int .i64 q ∧ Hid (∀ j, j < q → keyAt x.keys j = keyAt y.keys j) ∧ Below w.heap.size w wr) (fun i _ => P - (intOf i).toNat)
    case atStart => exact ⟨0, Nat.zero_le _, rfl, fun j hj => absurd hj (by omega), hbq⟩
    case round =>
      obtain ⟨q, hq, rfl, HQE, hbr⟩ := hrel
      have e3 := ((HCL.out _ hbr _).1).trans C3.out
      have t3 := ((HCL.out _ hbr _).2).trans D3.out
      by_cases hlq : q < P
      case neg =>
        obtain rfl : q = P := by omega
        go_wp2_with fail
        clear e3 t3
        obtain ⟨W2, rfl⟩ : ∃ W2, W2 = wr := ⟨_, rfl⟩
        go_loopw [7] (fun i wr => ∃ p : Nat, p ≤ Q ∧ i = .int .i64 p ∧ Hid (∀ j, j < p → intAt x.kids j = intAt y.kids j) ∧ Below w.heap.size w wr) (fun i _ => Q - (intOf i).toNat)
        case atStart => exact ⟨0, Nat.zero_le _, rfl, fun j hj => absurd hj (by omega), hbr⟩
        case round =>
          obtain ⟨p, hp, rfl, HPE, hbs⟩ := hrel
          have e4 := ((HCL.out _ hbs _).1).trans C4.out
          have t4 := ((HCL.out _ hbs _).2).trans D4.out
          by_cases hlp : p < Q
          case neg =>
            have HXY : Hid (x = y) := vn_eq Q1.out Q2.out (bytes_eq f3) (strs_eq Q4.out (fun j hj => HQE.out j (by have := HP.out; omega))) (ints_eq Q5.out (fun j hj => HPE.out j (by have := HQ.out; omega)))
            have HE2 : Hid (∀ j, j < k + 1 → nodeAt us j = nodeAt vs j) := fun j hj => by
              by_cases e : j = k
              · subst e; rw [HX.out, HY.out]; exact HXY.out
              · exact HE.out j (by omega)
            go_wp2_with fail
            go_roundw
            case rel => exact ⟨k + 1, by omega, by go_num, HE2, hbs⟩
            case measure => simp [intOf]; omega
          case pos =>
          obtain ⟨b3, o3, rfl, hb3, hc3⟩ := HIC1.out (by have := HQ.out; omega)
          obtain ⟨b4, o4, rfl, hb4, hc4⟩ := HIC2.out (by have := HQ.out; have := Q5.out; omega)
          have r1 := ((below_cell (o := o3 + p) hbs (show b3 < w.heap.size by omega)).trans (below_cell HW0.out (show b3 < w.heap.size by omega)).symm).trans (hc3 p (by have := HQ.out; omega))
          have r2 := ((below_cell (o := o4 + p) hbs (show b4 < w.heap.size by omega)).trans (below_cell HW0.out (show b4 < w.heap.size by omega)).symm).trans (hc4 p (by have := HQ.out; have := Q5.out; omega))
          clear hc3 hc4
          by_cases hke : intAt x.kids p = intAt y.kids p
          case neg =>
            have f6 : (intAt x.kids p != intAt y.kids p) = true := by simpa using hke
            have HO := hideIt (HEQ.out _ (fun e => by rw [e]) hke)
            clear hke
            go_wp2_with fail
            go_quiet (fail)
            go_wp2_with fail
            go_ret
            exact ⟨ret_no HO.out, below_drewN hbs nq⟩
          case pos =>
          have f6 : (intAt x.kids p != intAt y.kids p) = false := by simpa using hke
          have HPE2 : Hid (∀ j, j < p + 1 → intAt x.kids j = intAt y.kids j) := fun j hj => by
            by_cases e : j = p
            · subst e; exact hke
            · exact HPE.out j (by omega)
          clear hke
          go_wp2_with fail
          go_quiet (fail)
          go_wp2_with fail
          go_roundw
          case rel => exact ⟨p + 1, by omega, by go_num, HPE2, below_drewN hbs nq⟩
          case measure => simp [intOf]; omega
      case pos =>
      obtain ⟨b3, o3, rfl, hb3, hc3⟩ := HKC1.out (by have := HP.out; omega)
      obtain ⟨b4, o4, rfl, hb4, hc4⟩ := HKC2.out (by have := HP.out; have := Q4.out; omega)
      have r1 := ((below_cell (o := o3 + q) hbr (show b3 < w.heap.size by omega)).trans (below_cell HW0.out (show b3 < w.heap.size by omega)).symm).trans (hc3 q (by have := HP.out; omega))
      have r2 := ((below_cell (o := o4 + q) hbr (show b4 < w.heap.size by omega)).trans (below_cell HW0.out (show b4 < w.heap.size by omega)).symm).trans (hc4 q (by have := HP.out; have := Q4.out; omega))
      clear hc3 hc4
      by_cases hke : ((keyAt x.keys q).toList == (keyAt y.keys q).toList) = true
      case neg =>
        have f6 : ((keyAt x.keys q).toList == (keyAt y.keys q).toList) = false := by simpa using hke
        have HO := hideIt (HEQ.out (((keyAt x.keys q).toList == (keyAt y.keys q).toList) = true) (fun e => by rw [e]; simp) hke)
        clear hke
        go_wp2_with fail
        go_quiet (fail)
        go_wp2_with fail
        go_ret
        exact ⟨ret_no HO.out, below_drewN hbr nq⟩
      case pos =>
      have HQE2 : Hid (∀ j, j < q + 1 → keyAt x.keys j = keyAt y.keys j) := fun j hj => by
        by_cases e : j = q
        · subst e; exact bytes_eq hke
        · exact HQE.out j (by omega)
      go_wp2_with fail
      go_quiet (fail)
      go_wp2_with fail
      go_roundw
      case rel => exact ⟨q + 1, by omega, by go_num, HQE2, below_drewN hbr nq⟩
      case measure => simp [intOf]; omega
end Go.Proofs.YtagcgnhpdmhegaaGreatDoor
