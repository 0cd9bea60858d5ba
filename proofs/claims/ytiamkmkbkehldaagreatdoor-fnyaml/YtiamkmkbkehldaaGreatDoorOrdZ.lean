/-
  A value is drawn that is not right now and then: one field of one node may be another one.
-/
import Derived.Test.YtiamkmkbkehldaaGreatDoorDrV
import Derived.Laws.OwnMore
import Derived.ProofKit
import Derived.OpenShut
import Derived.ShutString
import Derived.ChangeOld
import Derived.Below
import Derived.Test.YtiamkmkbkehldaaGreatDoorPhase
import Derived.Test.YtiamkmkbkehldaaGreatDoorProg
import Derived.Lib.Bytealg
import Derived.Laws.Cover1
import Derived.Laws.Externs
import Derived.KernelRfl
import Derived.Test.YtiamkmkbkehldaaGreatDoorVal
import Derived.Deep.QuietTactic
import Derived.BigQuiet
import Derived.WalkSmall
import Derived.Deep.RegionWith
import Derived.Test.YtiamkmkbkehldaaGreatDoorRowB
namespace Go.Proofs.YtiamkmkbkehldaaGreatDoor
open Go.RowKit
set_option linter.unusedSimpArgs false
set_option linter.unusedVariables false

theorem nodeAt_set {vs : List VN} {i : Nat} {x : VN} (hi : i < vs.length) (j : Nat) : nodeAt (vs.set i x) j = if j = i then x else nodeAt vs j := by
  unfold nodeAt
  rw [List.getD_eq_getElem?_getD, List.getD_eq_getElem?_getD, List.getElem?_set]
  by_cases e : i = j
  · subst e; simp [hi]
  · have e' : ¬ j = i := fun h => e h.symm
    simp [e, e']

theorem nestCells_put {vs : List VN} {KV IV : Nat → Value} {i f : Nat} {x : VN} {u : Value} (hi : i < vs.length) (hf : f < 3) (h0 : Value.int .i64 x.kind = if f = 0 then u else .int .i64 (nodeAt vs i).kind) (h1 : Value.int .i64 x.n = if f = 1 then u else .int .i64 (nodeAt vs i).n) (h2 : Value.string x.s = if f = 2 then u else .string (nodeAt vs i).s) :
    nestCells (vs.set i x) KV IV = (nestCells vs KV IV).set (i * 5 + f) u := by
  apply List.ext_getElem
  · simp [nestCells]
  · intro j hj1 hj2
    rw [List.getElem_set]
    simp only [nestCells, List.getElem_map, List.getElem_range]
    unfold nestCell
    rw [nodeAt_set hi]
    by_cases e : j / 5 = i
    · rw [if_pos e, e]
      have ej : j = i * 5 + j % 5 := by omega
      have hr : j % 5 < 5 := by omega
      generalize j % 5 = r at ej hr
      subst ej
      match r, hr with
      | 0, _ => simp only [if_true]; rw [h0]; by_cases e2 : f = 0 <;> simp [e2]
      | 1, _ => simp; exact h1
      | 2, _ => simp; exact h2
      | 3, _ => simp; omega
      | 4, _ => simp; omega
    · have hne : ¬ i * 5 + f = j := by omega
      simp only [if_neg e, if_neg hne]

theorem Nest.put {base g n c : Nat} {w : World} {vs : List VN} {KV IV : Nat → Value} {i f : Nat} {x : VN} {u : Value} (h : Nest base w (.slice (some ⟨g, 0, none⟩) n c) vs KV IV) (hl : vs.length = n) (hi : i < vs.length) (hf : f < 3) (hu : u.oneCell' = true) (h0 : Value.int .i64 x.kind = if f = 0 then u else .int .i64 (nodeAt vs i).kind) (h1 : Value.int .i64 x.n = if f = 1 then u else .int .i64 (nodeAt vs i).n) (h2 : Value.string x.s = if f = 2 then u else .string (nodeAt vs i).s) (hk : x.keys = (nodeAt vs i).keys) (hd : x.kids = (nodeAt vs i).kids) :
    Nest base (w.setCell ⟨g, i * 5 + f, none⟩ u) (.slice (some ⟨g, 0, none⟩) n c) (vs.set i x) KV IV := by
  have hr := h.row
  rw [hl] at hr
  have hs := hr.stored (i * 5 + f) u
  have hlen : (vs.set i x).length = vs.length := List.length_set ..
  have hks : ∀ j, (nodeAt (vs.set i x) j).keys = (nodeAt vs j).keys := fun j => by rw [nodeAt_set hi]; split <;> simp_all
  have hds : ∀ j, (nodeAt (vs.set i x) j).kids = (nodeAt vs j).kids := fun j => by rw [nodeAt_set hi]; split <;> simp_all
  refine ⟨?_, fun j hj => ?_, fun j hj => ?_, fun a b ha hb => h.dkk a b (by omega) (by omega), fun a b ha hb => h.dii a b (by omega) (by omega)⟩
  · rw [hlen, hl, nestCells_put hi hf h0 h1 h2]; exact hs.1
  · rw [hks]; exact (h.rk j (by omega)).kept hs.2 (own_apart (h.rk j (by omega)) hr (by decide))
  · rw [hds]; exact (h.ri j (by omega)).kept hs.2 (own_apart (h.ri j (by omega)) hr (by decide))

theorem Fine.put {c i : Nat} {vs : List VN} {x : VN} (h : Fine c vs) (hi : i < vs.length) (hk : x.keys = (nodeAt vs i).keys) (hd : x.kids = (nodeAt vs i).kids) (h1 : -9223372036854775808 ≤ x.kind ∧ x.kind ≤ 9223372036854775807) (h2 : -9223372036854775808 ≤ x.n ∧ x.n ≤ 9223372036854775807) (h3 : x.s.size ≤ 60) : Fine c (vs.set i x) := by
  have hl : (vs.set i x).length = vs.length := List.length_set ..
  refine ⟨by rw [hl]; exact h.1, by rw [hl]; exact h.2.1, fun j hj => ?_⟩
  rw [hl] at hj ⊢
  rw [nodeAt_set hi]
  by_cases e : j = i
  · rw [if_pos e]
    have hx := h.2.2 i hi
    exact ⟨by rw [hk]; exact hx.keysN, by rw [hk]; exact hx.keysS, by rw [hd]; exact hx.kidsN, by rw [hd]; exact hx.kids, h3, h1, h2⟩
  · rw [if_neg e]; exact h.2.2 j hj

set_option maxRecDepth 100000 in
set_option maxHeartbeats 3200000 in
theorem rdMaybe_any (rb n : Nat) (w : World) (h : ∃ p, RdAt w rb n p) :
    Calls Tryz.prog 30 #[.pointer (some ⟨rb, 0, none⟩)] w fun e w' => (∃ r vs KV IV, e = .returned r ∧ Fine 40 vs ∧ Nest w.heap.size w' r vs KV IV) ∧ Drawn rb n w w' := by
  have H := hideIt h
  have hrb : rb < w.heap.size := by obtain ⟨p, hp⟩ := h; exact hp.lt
  clear h
  go_enter Tryz.func30, Tryz.ntmps30
  go_wp2_with fail
  refine (rdValue_any rb n 3 (by omega) w H.out).mono ?_
  rintro e w1 ⟨⟨r, vs, KV, IV, rfl, hf, hn⟩, hd⟩
  have HF : Hid (Fine 40 vs) := hf
  have HD := hideIt hd
  have z1 := hd.only.1
  obtain ⟨M, hM⟩ : ∃ M, vs.length = M := ⟨_, rfl⟩
  have HM := hideIt hM
  have hM1 : 1 ≤ M := by have := hf.1; omega
  have hM2 : M ≤ 40 := by have h2 : vs.length ≤ 40 := hf.2.1; omega
  obtain ⟨g, c, e, hgl, _⟩ := hn.row.form hf.1
  rw [hM] at e
  subst e
  have HN := hideIt hn
  clear hf hn hd hM
  go_wp2_with fail
  refine (rdOnce_any rb n 12 w1 HD.out.rd (by omega) (by omega)).mono ?_
  rintro e w2 ⟨⟨b, rfl⟩, hd2⟩
  have HD2 := hideIt (HD.out.trans hd2)
  have HN2 := hideIt (HN.out.from (hd2.from hrb))
  have z2 := hd2.only.1
  clear hd2 HN
  cases b
  · go_wp2_with fail
    go_ret
    exact ⟨⟨_, vs, KV, IV, rfl, HF.out, HN2.out⟩, HD2.out⟩
  go_wp2_with fail
  refine (rdBelow_any rb n M w2 HD2.out.rd hM1 (by omega)).mono ?_
  rintro e w3 ⟨⟨i, hi, rfl⟩, hd3⟩
  have HD3 := hideIt (HD2.out.trans hd3)
  have HN3 := hideIt (HN2.out.from (hd3.from hrb))
  have z3 := hd3.only.1
  clear hd3 HN2
  go_wp2_with fail
  refine (rdBelow_any rb n 3 w3 HD3.out.rd (by omega) (by omega)).mono ?_
  rintro e w4 ⟨⟨t, ht, rfl⟩, hd4⟩
  have HD4 := hideIt (HD3.out.trans hd4)
  have HN4 := hideIt (HN3.out.from (hd4.from hrb))
  have z4 := hd4.only.1
  have hiM : (i : Int) < (M : Int) := by omega
  clear hd4 HN3
  by_cases t0 : t = 0
  · subst t0
    go_wp2_with fail
    refine (rdOff_any rb n 1 6 w4 HD4.out.rd (by omega) (by omega) (by omega)).mono ?_
    rintro e w5 ⟨⟨x, hx1, hx2, rfl⟩, hd5⟩
    have HD5 := hideIt (HD4.out.trans hd5)
    have HN5 := hideIt (HN4.out.from (hd5.from hrb))
    clear hd5 HN4
    have hrow := HN5.out.row
    rw [HM.out] at hrow
    obtain ⟨⟨v0, hcell⟩, hfz⟩ := own_wrow hrow (i * 5) (by omega)
    have HN6 := hideIt (HN5.out.put (i := i) (f := 0) (x := { nodeAt vs i with kind := x }) (u := .int .i64 x) HM.out (by rw [HM.out]; exact hi) (by omega) rfl rfl rfl rfl rfl rfl)
    have HF6 := hideIt (HF.out.put (i := i) (x := { nodeAt vs i with kind := x }) (by rw [HM.out]; exact hi) rfl rfl ⟨hx1, hx2⟩ (HF.out.2.2 i (by rw [HM.out]; exact hi)).num (HF.out.2.2 i (by rw [HM.out]; exact hi)).size)
    have hbs : Below w.heap.size w5 (w5.setCell ⟨g, i * 5, none⟩ (.int .i64 x)) := (Below.refl w.heap.size w5).setCell hgl _
    have HD6 := hideIt (HD5.out.far hbs hrb (Nat.le_refl _))
    clear hbs
    clear hrow HN5 HD5
    go_wp2_with fail
    go_ret
    exact ⟨⟨_, _, KV, IV, rfl, HF6.out, HN6.out⟩, HD6.out⟩
  have f0 : ((t : Int) == 0) = false := by simp; omega
  by_cases t1 : t = 1
  · subst t1
    clear t0
    go_wp2_with fail
    refine (rdOff_any rb n 0 1 w4 HD4.out.rd (by omega) (by omega) (by omega)).mono ?_
    rintro e w5 ⟨⟨x, hx1, hx2, rfl⟩, hd5⟩
    have HD5 := hideIt (HD4.out.trans hd5)
    have HN5 := hideIt (HN4.out.from (hd5.from hrb))
    clear hd5 HN4
    have hrow := HN5.out.row
    rw [HM.out] at hrow
    obtain ⟨⟨v0, hcell⟩, hfz⟩ := own_wrow hrow (i * 5 + 1) (by omega)
    have HN6 := hideIt (HN5.out.put (i := i) (f := 1) (x := { nodeAt vs i with n := x }) (u := .int .i64 x) HM.out (by rw [HM.out]; exact hi) (by omega) rfl rfl rfl rfl rfl rfl)
    have HF6 := hideIt (HF.out.put (i := i) (x := { nodeAt vs i with n := x }) (by rw [HM.out]; exact hi) rfl rfl (HF.out.2.2 i (by rw [HM.out]; exact hi)).kind ⟨hx1, hx2⟩ (HF.out.2.2 i (by rw [HM.out]; exact hi)).size)
    have hbs : Below w.heap.size w5 (w5.setCell ⟨g, i * 5 + 1, none⟩ (.int .i64 x)) := (Below.refl w.heap.size w5).setCell hgl _
    have HD6 := hideIt (HD5.out.far hbs hrb (Nat.le_refl _))
    clear hbs
    clear hrow HN5 HD5
    go_wp2_with fail
    go_ret
    exact ⟨⟨_, _, KV, IV, rfl, HF6.out, HN6.out⟩, HD6.out⟩
  obtain rfl : t = 2 := by omega
  have HD5 := hideIt HD4.out
  have HN5 := hideIt HN4.out
  obtain ⟨w5, hw5⟩ : ∃ w5, w5 = w4 := ⟨_, rfl⟩
  subst hw5
  clear t0 t1 HN4
  have hrow := HN5.out.row
  rw [HM.out] at hrow
  obtain ⟨⟨v0, hcell⟩, hfz⟩ := own_wrow hrow (i * 5 + 2) (by omega)
  have HN6 := hideIt (HN5.out.put (i := i) (f := 2) (x := { nodeAt vs i with s := ⟨#[255]⟩ }) (u := .string ⟨#[255]⟩) HM.out (by rw [HM.out]; exact hi) (by omega) rfl rfl rfl rfl rfl rfl)
  have HF6 := hideIt (HF.out.put (i := i) (x := { nodeAt vs i with s := ⟨#[255]⟩ }) (by rw [HM.out]; exact hi) rfl rfl (HF.out.2.2 i (by rw [HM.out]; exact hi)).kind (HF.out.2.2 i (by rw [HM.out]; exact hi)).num (by show (⟨#[255]⟩ : ByteArray).size ≤ 60; decide))
  have hbs : Below w.heap.size w5 (w5.setCell ⟨g, i * 5 + 2, none⟩ (.string ⟨#[255]⟩)) := (Below.refl w.heap.size w5).setCell hgl _
  have HD6 := hideIt (HD5.out.far hbs hrb (Nat.le_refl _))
  clear hbs
  clear hrow HN5 HD5
  go_wp2_with fail
  go_ret
  exact ⟨⟨_, _, KV, IV, rfl, HF6.out, HN6.out⟩, HD6.out⟩
end Go.Proofs.YtiamkmkbkehldaaGreatDoor

/-
  The draws of FnOrder: values out of a code.
-/
namespace Go.Proofs.YtiamkmkbkehldaaGreatDoor
open Go.RowKit
set_option linter.unusedSimpArgs false
set_option linter.unusedVariables false

/-- A code of n bytes. -/
def CodeAt (B : Nat) (w : World) (v : Value) (n : Nat) : Prop :=
  n ≤ 1048576 ∧ ∃ a cap, v = .slice a n cap ∧ (0 < n → ∃ b o, a = some ⟨b, o, none⟩ ∧ b < B ∧ ∀ i, i < n → ∃ x : Nat, x < 256 ∧ w.cell? ⟨b, o + i, none⟩ = some (.int .u8 x))

theorem CodeAt.below {B : Nat} {w w' : World} {v : Value} {n : Nat} (h : CodeAt B w v n) (hb : Below B w w') : CodeAt B w' v n := by
  obtain ⟨hn, a, cap, e, hc⟩ := h
  refine ⟨hn, a, cap, e, fun hp => ?_⟩
  obtain ⟨b, o, e2, hlt, hx⟩ := hc hp
  exact ⟨b, o, e2, hlt, fun i hi => by obtain ⟨x, h3, h4⟩ := hx i hi; exact ⟨x, h3, (below_cell hb hlt).trans h4⟩⟩

set_option maxHeartbeats 800000 in
theorem l1Open_any (B : Nat) (v : Value) (n : Nat) (w : World) (h : CodeAt B w v n) (hB : B ≤ w.heap.size) :
    Calls Tryz.prog 29 #[v] w fun e w' => e = .returned (.pointer (some ⟨w.heap.size, 0, none⟩)) ∧ RdAt w' w.heap.size n 0 ∧ Below w.heap.size w w' := by
  obtain ⟨hn, a, cap, rfl, hc⟩ := h
  have HC := hideIt hc
  clear hc
  go_enter Tryz.func29, Tryz.ntmps29
  go_wp2_with fail
  go_ret
  have hb : Below w.heap.size w (w.alloc (.cells #[.slice a n cap, .int .i64 0] 106)) := (Below.refl _ _).alloc (Nat.le_refl _) _
  refine ⟨rfl, ⟨by simp, ⟨a, cap, by simp, fun hp => ?_⟩, by simp, by omega, hn, frozen_of_row _ _ 1 _ _ (heap_alloc_new w _)⟩, hb⟩
  obtain ⟨b, o, e, hlt, hx⟩ := HC.out hp
  exact ⟨b, o, e, by omega, fun i hi => by obtain ⟨x, h3, h4⟩ := hx i hi; exact ⟨x, h3, (below_cell hb (by omega)).trans h4⟩⟩

end Go.Proofs.YtiamkmkbkehldaaGreatDoor

/-
  Codes of bytes that came in: whether they are too many, and how the argument is opened.
-/
namespace Go.Proofs.YtiamkmkbkehldaaGreatDoor
open Go.ChangeShapes Go.WideShapes Go.ChangeAt Go.RowKit
set_option linter.unusedSimpArgs false
set_option linter.unusedVariables false

set_option maxHeartbeats 400000 in
theorem big_any (a : Option Addr) (n cap : Nat) (w : World) (hn : n ≤ 9223372036854775807) :
    Calls Tryz.prog 8 #[.slice a n cap] w fun e w' => e = .returned (.bool (decide (1048576 < n))) ∧ w' = w := by
  by_cases h : 1048576 < n
  · have h' : (1048576 : Int) < (n : Int) := by omega
    go_enter Tryz.func8, Tryz.ntmps8
    go_wp2
    go_ret
    exact ⟨ret_bool (by simp [h]), rfl⟩
  · have h' : ¬ (1048576 : Int) < (n : Int) := by omega
    go_enter Tryz.func8, Tryz.ntmps8
    go_wp2
    go_ret
    exact ⟨ret_bool (by simp [h]), rfl⟩

/-- Bytes that came in. -/
def RawCode (w : World) (v : Value) (n : Nat) : Prop :=
  n ≤ 9223372036854775807 ∧ ∃ a cap, v = .slice a n cap ∧ (0 < n → ∃ b o, a = some ⟨b, o, none⟩ ∧ b < w.heap.size ∧ ∀ i, i < n → ∃ x : Nat, x < 256 ∧ w.cell? ⟨b, o + i, none⟩ = some (.int .u8 x))

theorem cells1b : Tryz.prog.cellsOf 5 = 1 := by kernel_rfl

theorem wfByte {n : Int} (h : (Lit.int .u8 n).wf = true) : 0 ≤ n ∧ n ≤ 255 := by
  simp [Lit.wf, IntKind.min, IntKind.max, IntKind.signed, IntKind.bits] at h
  omega

theorem lt_cellB {w : World} {b o : Nat} {v : Value} (h : w.cell? ⟨b, o, none⟩ = some v) : b < w.heap.size := by
  unfold World.cell? at h
  cases hb : w.heap[b]? with
  | none => simp [hb] at h
  | some x => exact (Array.getElem?_eq_some_iff.1 hb).1

section
variable {H : Type} {enc : TypeId × Value → H} {W : World} {base : Nat} {spare : Nat → Bool} {held : Bool}

theorem raw_code {fuel : Nat} {v : Value} {x : DataW H × List MemPlace} (h : DataW.trod enc Tryz.prog W base spare held fuel 22 [v] = some x) : ∃ n, RawCode W v n := by
  rcases open_ints Tryz.underlying22 Tryz.underlying5 cells1b h with ⟨hcs, _⟩ | ⟨a, len, cap, zs, hcs, _, hl, hm, hz, _, hcell, hwz⟩
  · refine ⟨0, by omega, none, 0, by simpa using hcs, fun hl => absurd hl (by simp)⟩
  · have hlen : len ≤ zs.length := by rw [hz]; split <;> omega
    have hm' : len ≤ 9223372036854775807 := by unfold maxLen at hm; omega
    refine ⟨len, hm', some a, cap, by simpa using hcs, fun hl0 => ?_⟩
    obtain ⟨b, o, spot⟩ := a
    have hc0 := hcell 0 (by omega)
    have hspot : spot = none := by simpa [Addr.add] using World.cell?_spot hc0
    subst hspot
    have hc' : ∀ i, i < len → W.cell? ⟨b, o + i, none⟩ = some (.int .u8 (zs.getD i 0)) := fun i hi => by
      have := hcell i (by omega)
      by_cases e : i = 0
      · subst e; simpa [Addr.add] using this
      · simpa [Addr.add, e] using this
    refine ⟨b, o, rfl, lt_cellB (hc' 0 (by omega)), fun i hi => ?_⟩
    have hw := wfByte (hwz (zs.getD i 0) (by
      rw [List.getD_eq_getElem?_getD, List.getElem?_eq_getElem (by omega)]
      exact List.getElem_mem _))
    refine ⟨(zs.getD i 0).toNat, by omega, ?_⟩
    rw [hc' i hi, show (((zs.getD i 0).toNat : Nat) : Int) = zs.getD i 0 by omega]
end

end Go.Proofs.YtiamkmkbkehldaaGreatDoor

/-
  Comparing numbers, texts and lists of texts: the specification's functions and the library's answer alike.
-/
namespace Go.Proofs.YtiamkmkbkehldaaGreatDoor
open Go.RowKit
set_option linter.unusedSimpArgs false
set_option linter.unusedVariables false

def cmpI (a b : Int) : Int := if a < b then -1 else if b < a then 1 else 0
def cmpL (x y : List UInt8) : Int := Lib.compareBytes x y
def cmpS (a b : ByteArray) : Int := cmpL a.toList b.toList

theorem cmpL_cons (a b : UInt8) (x y : List UInt8) : cmpL (a :: x) (b :: y) = if a < b then -1 else if b < a then 1 else cmpL x y := by
  unfold cmpL; rw [Lib.compareBytes]

theorem cmpL_less : ∀ x y : List UInt8, Op.bytesLess x y = decide (cmpL x y = -1) := by
  intro x
  induction x with
  | nil => intro y; cases y <;> simp [Op.bytesLess, cmpL, Lib.compareBytes]
  | cons a x ih =>
    intro y
    cases y with
    | nil => simp [Op.bytesLess, cmpL, Lib.compareBytes]
    | cons b y =>
      rw [Op.bytesLess, cmpL_cons, ih]
      by_cases h1 : a < b
      · simp [h1]
      · by_cases h2 : b < a
        · have : (a == b) = false := by simp; intro e; subst e; exact h1 h2
          simp [h1, h2, this]
        · have : a = b := UInt8.le_antisymm (UInt8.not_lt.1 h2) (UInt8.not_lt.1 h1)
          simp [h1, h2, this]

theorem cmpL_flip : ∀ x y : List UInt8, cmpL y x = -cmpL x y := by
  intro x
  induction x with
  | nil => intro y; cases y <;> simp [cmpL, Lib.compareBytes]
  | cons a x ih =>
    intro y
    cases y with
    | nil => simp [cmpL, Lib.compareBytes]
    | cons b y =>
      rw [cmpL_cons, cmpL_cons]
      by_cases h1 : a < b
      · have h2 : ¬ b < a := UInt8.not_lt.2 (UInt8.le_of_lt h1)
        simp [h1, h2]
      · by_cases h2 : b < a
        · simp [h1, h2]
        · simp [h1, h2, ih]

theorem cmpL_range : ∀ x y : List UInt8, cmpL x y = -1 ∨ cmpL x y = 0 ∨ cmpL x y = 1 := by
  intro x
  induction x with
  | nil => intro y; cases y <;> simp [cmpL, Lib.compareBytes]
  | cons a x ih =>
    intro y
    cases y with
    | nil => simp [cmpL, Lib.compareBytes]
    | cons b y =>
      rw [cmpL_cons]
      split
      · simp
      · split
        · simp
        · exact ih y

theorem cmpI_range (a b : Int) : cmpI a b = -1 ∨ cmpI a b = 0 ∨ cmpI a b = 1 := by unfold cmpI; split <;> (try split) <;> simp
set_option maxHeartbeats 1000000 in
set_option maxRecDepth 100000 in
theorem compareString_any (a b : ByteArray) (w : World) : Calls Tryz.prog 162 #[.string a, .string b] w fun e w' => e = .returned (.int .i64 (cmpS a b)) ∧ w' = w := by
  go_enter Tryz.func162, Tryz.ntmps162
  go_wp2
  rw [run_callFunc_extern Tryz.func194 (by kernel_rfl) (by kernel_rfl) (by kernel_rfl) (e := Extern.BytealgCompare.compare) (by kernel_rfl), Lib.run_compareString]
  simp only [Result.andThen]
  rw [Oper.upon_value]
  go_wp2
  go_ret
  exact ⟨ret_int (by simp [cmpS, cmpL, ByteArray.toList_eq]), rfl⟩

set_option maxHeartbeats 1000000 in
theorem stringsCompare_any (a b : ByteArray) (w : World) : Calls Tryz.prog 115 #[.string a, .string b] w fun e w' => e = .returned (.int .i64 (cmpS a b)) ∧ w' = w := by
  go_enter Tryz.func115, Tryz.ntmps115
  go_wp2_with (go_at_call 162; refine (compareString_any _ _ _).mono ?_; rintro e w' ⟨rfl, rfl⟩)
  go_ret
  exact ⟨rfl, rfl⟩
end Go.Proofs.YtiamkmkbkehldaaGreatDoor

/-
  The order of two values, as a plain function of their nodes; lists of texts compared by the library.
-/
namespace Go.Proofs.YtiamkmkbkehldaaGreatDoor
open Go.RowKit
set_option linter.unusedSimpArgs false
set_option linter.unusedVariables false

end Go.Proofs.YtiamkmkbkehldaaGreatDoor

/-
  The specification's order of two right values.
-/
namespace Go.Proofs.YtiamkmkbkehldaaGreatDoor
open Go.RowKit
set_option linter.unusedSimpArgs false
set_option linter.unusedVariables false

/-- Two values side by side in memory: what the order asks of them. -/
structure Two (B : Nat) (w : World) (v1 v2 : Value) (us vs : List VN) : Prop where
  n1 : NodesAt B w v1 us
  n2 : NodesAt B w v2 vs
  k1 : ∀ k, k < us.length → nodeB (nodeAt us k) = true ∧ kidsIn us k = true
  k2 : ∀ k, k < vs.length → nodeB (nodeAt vs k) = true ∧ kidsIn vs k = true

theorem Two.below {B : Nat} {w w' : World} {v1 v2 : Value} {us vs : List VN} (h : Two B w v1 v2 us vs) (hb : Below B w w') : Two B w' v1 v2 us vs := ⟨h.n1.below hb, h.n2.below hb, h.k1, h.k2⟩

end Go.Proofs.YtiamkmkbkehldaaGreatDoor

/-
  spec.Order: -2 where one of the two is not right, else the order of their roots.
-/
namespace Go.Proofs.YtiamkmkbkehldaaGreatDoor
open Go.RowKit
set_option linter.unusedSimpArgs false
set_option linter.unusedVariables false

end Go.Proofs.YtiamkmkbkehldaaGreatDoor

/-
  The order of values turned round, and of three values. Plain mathematics.
-/
namespace Go.Proofs.YtiamkmkbkehldaaGreatDoor
open Go.RowKit
set_option linter.unusedSimpArgs false
set_option linter.unusedVariables false

/-- The first that is not 0. -/
def comb (x y : Int) : Int := if x = 0 then y else x
def R3 (x : Int) : Prop := x = -1 ∨ x = 0 ∨ x = 1
/-- Where the two do not go apart, the third is the first of them that is not 0. -/
def Tri (x y z : Int) : Prop := ¬ (x = 1 ∧ y = -1) → ¬ (x = -1 ∧ y = 1) → z = comb x y

theorem comb_r3 {x y : Int} (hx : R3 x) (hy : R3 y) : R3 (comb x y) := by unfold comb; split <;> assumption
theorem tri_lex {x1 y1 z1 x2 y2 z2 : Int} (hx1 : R3 x1) (hy1 : R3 y1) (hx2 : R3 x2) (hy2 : R3 y2) (h1 : Tri x1 y1 z1) (h2 : Tri x2 y2 z2) : Tri (comb x1 x2) (comb y1 y2) (comb z1 z2) := by
  unfold Tri comb at *
  unfold R3 at *
  intro a b
  rcases hx1 with rfl | rfl | rfl <;> rcases hy1 with rfl | rfl | rfl <;> rcases hx2 with rfl | rfl | rfl <;> rcases hy2 with rfl | rfl | rfl <;> simp at * <;> simp [*]

theorem cmpI_r3 (a b : Int) : R3 (cmpI a b) := cmpI_range a b
theorem cmpI_tri (a b c : Int) : Tri (cmpI a b) (cmpI b c) (cmpI a c) := by
  unfold Tri comb cmpI
  intro h1 h2
  split <;> split <;> (try split) <;> (try split) <;> (try split) <;> (try split) <;> simp_all <;> omega

/-- Lists, by the first that differs, then by how many there are. -/
structure IsLex {α β : Type} (C : List α → List β → Int) (r : α → β → Int) : Prop where
  nn : C [] [] = 0
  nc : ∀ b m, C [] (b :: m) = -1
  cn : ∀ a l, C (a :: l) [] = 1
  cc : ∀ a l b m, C (a :: l) (b :: m) = comb (r a b) (C l m)

theorem lex_r3 {α β : Type} {C : List α → List β → Int} {r : α → β → Int} (h : IsLex C r) (hr : ∀ a b, R3 (r a b)) : ∀ x y, R3 (C x y) := by
  intro x
  induction x with
  | nil => intro y; cases y with
    | nil => rw [h.nn]; exact Or.inr (Or.inl rfl)
    | cons b m => rw [h.nc]; exact Or.inl rfl
  | cons a l ih => intro y; cases y with
    | nil => rw [h.cn]; exact Or.inr (Or.inr rfl)
    | cons b m => rw [h.cc]; exact comb_r3 (hr a b) (ih m)

theorem lex_tri {α β γ : Type} {C1 : List α → List β → Int} {C2 : List β → List γ → Int} {C3 : List α → List γ → Int} {r1 : α → β → Int} {r2 : β → γ → Int} {r3 : α → γ → Int} (h1 : IsLex C1 r1) (h2 : IsLex C2 r2) (h3 : IsLex C3 r3) (hr1 : ∀ a b, R3 (r1 a b)) (hr2 : ∀ b c, R3 (r2 b c)) (ht : ∀ a b c, Tri (r1 a b) (r2 b c) (r3 a c)) : ∀ x y z, Tri (C1 x y) (C2 y z) (C3 x z) := by
  intro x
  induction x with
  | nil =>
    intro y z
    cases y with
    | nil => cases z with
      | nil => rw [h1.nn, h2.nn, h3.nn]; intro _ _; rfl
      | cons c k => rw [h1.nn, h2.nc, h3.nc]; intro _ _; rfl
    | cons b m => cases z with
      | nil => rw [h1.nc, h2.cn]; intro _ h; exact absurd ⟨rfl, rfl⟩ h
      | cons c k => rw [h1.nc, h3.nc]; intro _ _; rfl
  | cons a l ih =>
    intro y z
    cases y with
    | nil => cases z with
      | nil => rw [h1.cn, h2.nn, h3.cn]; intro _ _; rfl
      | cons c k => rw [h1.cn, h2.nc]; intro h _; exact absurd ⟨rfl, rfl⟩ h
    | cons b m => cases z with
      | nil =>
        rw [h2.cn, h3.cn]
        intro _ h
        rcases lex_r3 h1 hr1 (a :: l) (b :: m) with e | e | e
        · exact absurd ⟨e, rfl⟩ h
        · rw [e]; rfl
        · rw [e]; rfl
      | cons c k =>
        rw [h1.cc, h2.cc, h3.cc]
        exact tri_lex (hr1 a b) (hr2 b c) (lex_r3 h1 hr1 l m) (lex_r3 h2 hr2 m k) (ht a b c) (ih m k)

theorem cmpL_lex : IsLex cmpL (fun a b => cmpI (a.toNat : Int) (b.toNat : Int)) := by
  refine ⟨rfl, fun b m => rfl, fun a l => rfl, fun a l b m => ?_⟩
  rw [cmpL_cons]
  unfold comb cmpI
  simp only [UInt8.lt_iff_toNat_lt]
  split <;> (try split) <;> (try split) <;> (try split) <;> simp_all <;> omega
theorem cmpS_r3 (a b : ByteArray) : R3 (cmpS a b) := cmpL_range _ _
theorem cmpS_flip (a b : ByteArray) : cmpS b a = -cmpS a b := cmpL_flip _ _
theorem cmpS_tri (a b c : ByteArray) : Tri (cmpS a b) (cmpS b c) (cmpS a c) := lex_tri cmpL_lex cmpL_lex cmpL_lex (fun _ _ => cmpI_r3 _ _) (fun _ _ => cmpI_r3 _ _) (fun _ _ _ => cmpI_tri _ _ _) _ _ _

end Go.Proofs.YtiamkmkbkehldaaGreatDoor

/-
  Two right values are the same just where their order is 0. Plain mathematics.
-/
namespace Go.Proofs.YtiamkmkbkehldaaGreatDoor
open Go.RowKit
set_option linter.unusedSimpArgs false
set_option linter.unusedVariables false

end Go.Proofs.YtiamkmkbkehldaaGreatDoor
