/-
  The order of values turned round, and of three values. Plain mathematics.
-/
import Derived.Test.YtagcgnhpdmhegaaGreatDoorOrdS
import Derived.Test.YtagcgnhpdmhegaaGreatDoorPkT
import Derived.Test.YtagcgnhpdmhegaaGreatDoorProg
import Derived.Deep.QuietTactic
import Derived.BigQuiet
import Derived.WalkSmall
import Derived.Deep.RegionWith
namespace Go.Proofs.YtagcgnhpdmhegaaGreatDoor
open Go.RowKit
set_option linter.unusedSimpArgs false
set_option linter.unusedVariables false

/-- The first that is not 0. -/
def comb (x y : Int) : Int := if x = 0 then y else x
def R3 (x : Int) : Prop := x = -1 ∨ x = 0 ∨ x = 1
/-- Where the two do not go apart, the third is the first of them that is not 0. -/
def Tri (x y z : Int) : Prop := ¬ (x = 1 ∧ y = -1) → ¬ (x = -1 ∧ y = 1) → z = comb x y

theorem comb_r3 {x y : Int} (hx : R3 x) (hy : R3 y) : R3 (comb x y) := by unfold comb; split <;> assumption
theorem comb_neg (x y : Int) : comb (-x) (-y) = -comb x y := by unfold comb; split <;> split <;> omega

theorem tri_lex {x1 y1 z1 x2 y2 z2 : Int} (hx1 : R3 x1) (hy1 : R3 y1) (hx2 : R3 x2) (hy2 : R3 y2) (h1 : Tri x1 y1 z1) (h2 : Tri x2 y2 z2) : Tri (comb x1 x2) (comb y1 y2) (comb z1 z2) := by
  unfold Tri comb at *
  unfold R3 at *
  intro a b
  rcases hx1 with rfl | rfl | rfl <;> rcases hy1 with rfl | rfl | rfl <;> rcases hx2 with rfl | rfl | rfl <;> rcases hy2 with rfl | rfl | rfl <;> simp at * <;> simp [*]

theorem cmpI_r3 (a b : Int) : R3 (cmpI a b) := cmpI_range a b
theorem cmpI_flip (a b : Int) : cmpI b a = -cmpI a b := by unfold cmpI; split <;> split <;> (try split) <;> omega
theorem cmpI_tri (a b c : Int) : Tri (cmpI a b) (cmpI b c) (cmpI a c) := by
  unfold Tri comb cmpI
  intro h1 h2
  split <;> split <;> (try split) <;> (try split) <;> (try split) <;> (try split) <;> simp_all <;> omega

/-- Lists, by the first that differs, then by how many there are. -/
structure IsLex {α β : Type} (C : List α → List β → Int) (r : α → β → Int) : Prop where
  nn : C [] [] = 0
  nc : ∀ b m, C [] (b :: m) = -1
  cn : ∀ a l, C (a :: l) [] = 1
  cc : ∀ a l b m, C (a :: l) (b :: m) = comb (r a b) (C l m)

theorem lex_r3 {α β : Type} {C : List α → List β → Int} {r : α → β → Int} (h : IsLex C r) (hr : ∀ a b, R3 (r a b)) : ∀ x y, R3 (C x y) := by
  intro x
  induction x with
  | nil => intro y; cases y with
    | nil => rw [h.nn]; exact Or.inr (Or.inl rfl)
    | cons b m => rw [h.nc]; exact Or.inl rfl
  | cons a l ih => intro y; cases y with
    | nil => rw [h.cn]; exact Or.inr (Or.inr rfl)
    | cons b m => rw [h.cc]; exact comb_r3 (hr a b) (ih m)

theorem lex_flip {α β : Type} {C : List α → List β → Int} {C' : List β → List α → Int} {r : α → β → Int} {r' : β → α → Int} (h : IsLex C r) (h' : IsLex C' r') (hf : ∀ a b, r' b a = -r a b) : ∀ x y, C' y x = -C x y := by
  intro x
  induction x with
  | nil => intro y; cases y with
    | nil => rw [h.nn, h'.nn]; rfl
    | cons b m => rw [h.nc, h'.cn]; rfl
  | cons a l ih => intro y; cases y with
    | nil => rw [h.cn, h'.nc]
    | cons b m => rw [h.cc, h'.cc, hf, ih, comb_neg]

theorem lex_tri {α β γ : Type} {C1 : List α → List β → Int} {C2 : List β → List γ → Int} {C3 : List α → List γ → Int} {r1 : α → β → Int} {r2 : β → γ → Int} {r3 : α → γ → Int} (h1 : IsLex C1 r1) (h2 : IsLex C2 r2) (h3 : IsLex C3 r3) (hr1 : ∀ a b, R3 (r1 a b)) (hr2 : ∀ b c, R3 (r2 b c)) (ht : ∀ a b c, Tri (r1 a b) (r2 b c) (r3 a c)) : ∀ x y z, Tri (C1 x y) (C2 y z) (C3 x z) := by
  intro x
  induction x with
  | nil =>
    intro y z
    cases y with
    | nil => cases z with
      | nil => rw [h1.nn, h2.nn, h3.nn]; intro _ _; rfl
      | cons c k => rw [h1.nn, h2.nc, h3.nc]; intro _ _; rfl
    | cons b m => cases z with
      | nil => rw [h1.nc, h2.cn]; intro _ h; exact absurd ⟨rfl, rfl⟩ h
      | cons c k => rw [h1.nc, h3.nc]; intro _ _; rfl
  | cons a l ih =>
    intro y z
    cases y with
    | nil => cases z with
      | nil => rw [h1.cn, h2.nn, h3.cn]; intro _ _; rfl
      | cons c k => rw [h1.cn, h2.nc]; intro h _; exact absurd ⟨rfl, rfl⟩ h
    | cons b m => cases z with
      | nil =>
        rw [h2.cn, h3.cn]
        intro _ h
        rcases lex_r3 h1 hr1 (a :: l) (b :: m) with e | e | e
        · exact absurd ⟨e, rfl⟩ h
        · rw [e]; rfl
        · rw [e]; rfl
      | cons c k =>
        rw [h1.cc, h2.cc, h3.cc]
        exact tri_lex (hr1 a b) (hr2 b c) (lex_r3 h1 hr1 l m) (lex_r3 h2 hr2 m k) (ht a b c) (ih m k)

theorem cmpL_lex : IsLex cmpL (fun a b => cmpI (a.toNat : Int) (b.toNat : Int)) := by
  refine ⟨rfl, fun b m => rfl, fun a l => rfl, fun a l b m => ?_⟩
  rw [cmpL_cons]
  unfold comb cmpI
  simp only [UInt8.lt_iff_toNat_lt]
  split <;> (try split) <;> (try split) <;> (try split) <;> simp_all <;> omega
theorem cmpS_r3 (a b : ByteArray) : R3 (cmpS a b) := cmpL_range _ _
theorem cmpS_flip (a b : ByteArray) : cmpS b a = -cmpS a b := cmpL_flip _ _
theorem cmpS_tri (a b c : ByteArray) : Tri (cmpS a b) (cmpS b c) (cmpS a c) := lex_tri cmpL_lex cmpL_lex cmpL_lex (fun _ _ => cmpI_r3 _ _) (fun _ _ => cmpI_r3 _ _) (fun _ _ _ => cmpI_tri _ _ _) _ _ _

theorem cmpKeys_lex : IsLex cmpKeys cmpS := by
  refine ⟨rfl, fun b m => rfl, fun a l => rfl, fun a l b m => ?_⟩
  rw [cmpKeys]
  unfold comb
  by_cases h : cmpS a b = 0 <;> simp [h]
theorem cmpKids_lex (R : Int → Int → Int) : IsLex (cmpKids R) R := by
  refine ⟨rfl, fun b m => rfl, fun a l => rfl, fun a l b m => ?_⟩
  rw [cmpKids]
  unfold comb
  by_cases h : R a b = 0 <;> simp [h]

theorem ite_comb {p : Prop} [Decidable p] {x y : Int} (h : p ↔ x ≠ 0) : (if p then x else y) = comb x y := by
  unfold comb
  by_cases e : x = 0
  · rw [if_neg (fun hp => h.1 hp e), if_pos e]
  · rw [if_pos (h.2 e), if_neg e]

theorem ord_comb (us vs : List VN) (f n m : Nat) : ord us vs (f + 1) n m = comb (cmpI (nodeAt us n).kind (nodeAt vs m).kind) (comb (cmpI (nodeAt us n).n (nodeAt vs m).n) (comb (cmpS (nodeAt us n).s (nodeAt vs m).s) (comb (cmpKeys (nodeAt us n).keys (nodeAt vs m).keys) (cmpKids (fun a b => ord us vs f a.toNat b.toNat) (nodeAt us n).kids (nodeAt vs m).kids)))) := by
  have hI : ∀ a b : Int, (a ≠ b) ↔ cmpI a b ≠ 0 := fun a b => (not_congr (cmpI_zero a b)).symm
  rw [ord, ite_comb (hI _ _), ite_comb (hI _ _), ite_comb Iff.rfl, ite_comb Iff.rfl]

theorem ord_r3 (us vs : List VN) (f n m : Nat) : R3 (ord us vs f n m) := by
  have := ord_range us vs f n m
  unfold R3; omega

theorem ord_flip (us vs : List VN) : ∀ f n m, ord vs us f m n = -ord us vs f n m := by
  intro f
  induction f with
  | zero => intro n m; rfl
  | succ f ih =>
    intro n m
    rw [ord_comb, ord_comb, cmpI_flip (nodeAt us n).kind, cmpI_flip (nodeAt us n).n, cmpS_flip (nodeAt us n).s, lex_flip cmpKeys_lex cmpKeys_lex cmpS_flip (nodeAt us n).keys, lex_flip (cmpKids_lex (fun a b => ord us vs f a.toNat b.toNat)) (cmpKids_lex (fun a b => ord vs us f a.toNat b.toNat)) (fun a b => ih a.toNat b.toNat) (nodeAt us n).kids]
    simp only [comb_neg]

theorem ord_tri (us vs ws : List VN) : ∀ f n m k, Tri (ord us vs f n m) (ord vs ws f m k) (ord us ws f n k) := by
  intro f
  induction f with
  | zero => intro n m k; intro _ _; rfl
  | succ f ih =>
    intro n m k
    rw [ord_comb, ord_comb, ord_comb]
    have hk1 := lex_r3 cmpKeys_lex cmpS_r3 (nodeAt us n).keys (nodeAt vs m).keys
    have hk2 := lex_r3 cmpKeys_lex cmpS_r3 (nodeAt vs m).keys (nodeAt ws k).keys
    have hd1 := lex_r3 (cmpKids_lex (fun a b => ord us vs f a.toNat b.toNat)) (fun a b => ord_r3 us vs f a.toNat b.toNat) (nodeAt us n).kids (nodeAt vs m).kids
    have hd2 := lex_r3 (cmpKids_lex (fun a b => ord vs ws f a.toNat b.toNat)) (fun a b => ord_r3 vs ws f a.toNat b.toNat) (nodeAt vs m).kids (nodeAt ws k).kids
    refine tri_lex (cmpI_r3 _ _) (cmpI_r3 _ _) (comb_r3 (cmpI_r3 _ _) (comb_r3 (cmpS_r3 _ _) (comb_r3 hk1 hd1))) (comb_r3 (cmpI_r3 _ _) (comb_r3 (cmpS_r3 _ _) (comb_r3 hk2 hd2))) (cmpI_tri _ _ _) ?_
    refine tri_lex (cmpI_r3 _ _) (cmpI_r3 _ _) (comb_r3 (cmpS_r3 _ _) (comb_r3 hk1 hd1)) (comb_r3 (cmpS_r3 _ _) (comb_r3 hk2 hd2)) (cmpI_tri _ _ _) ?_
    refine tri_lex (cmpS_r3 _ _) (cmpS_r3 _ _) (comb_r3 hk1 hd1) (comb_r3 hk2 hd2) (cmpS_tri _ _ _) ?_
    refine tri_lex hk1 hk2 hd1 hd2 (lex_tri cmpKeys_lex cmpKeys_lex cmpKeys_lex cmpS_r3 cmpS_r3 cmpS_tri _ _ _) ?_
    exact lex_tri (cmpKids_lex _) (cmpKids_lex _) (cmpKids_lex _) (fun a b => ord_r3 us vs f a.toNat b.toNat) (fun a b => ord_r3 vs ws f a.toNat b.toNat) (fun a b c => ih a.toNat b.toNat c.toNat) _ _ _

theorem cmpKids_congr {R R' : Int → Int → Int} : ∀ {l m : List Int}, (∀ a ∈ l, ∀ b ∈ m, R a b = R' a b) → cmpKids R l m = cmpKids R' l m := by
  intro l
  induction l with
  | nil => intro m _; cases m <;> rfl
  | cons a l ih =>
    intro m h
    cases m with
    | nil => rfl
    | cons b m =>
      rw [cmpKids, cmpKids, h a (List.mem_cons_self ..) b (List.mem_cons_self ..), ih (fun x hx y hy => h x (List.mem_cons_of_mem _ hx) y (List.mem_cons_of_mem _ hy))]

theorem kid_lt {vs : List VN} (hok : okB vs = true) {n : Nat} (hn : n < vs.length) {a : Int} (ha : a ∈ (nodeAt vs n).kids) : a.toNat < n := by
  obtain ⟨j, hj, e⟩ := List.getElem_of_mem ha
  have := kidsIn_get ((okB_parts hok).2.1 n hn).2 hj
  have e2 : intAt (nodeAt vs n).kids j = a := by unfold intAt; rw [List.getD_eq_getElem?_getD, List.getElem?_eq_getElem hj]; exact e
  rw [e2] at this
  omega

theorem ord_fuel {us vs : List VN} (hok : okB us = true) : ∀ f f' n m, n < f → n < f' → n < us.length → ord us vs f n m = ord us vs f' n m := by
  intro f
  induction f with
  | zero => intro f' n m h; omega
  | succ f ih =>
    intro f' n m h1 h2 hn
    cases f' with
    | zero => omega
    | succ f' =>
      rw [ord_comb, ord_comb]
      congr 4
      exact cmpKids_congr (fun a ha b hb => by
        have := kid_lt hok hn ha
        exact ih f' a.toNat b.toNat (by omega) (by omega) (by omega))

theorem orderOf_at {us vs : List VN} (h1 : okB us = true) (h2 : okB vs = true) {F : Nat} (hF : us.length ≤ F) : orderOf us vs = ord us vs F (us.length - 1) (vs.length - 1) := by
  rw [orderOf_yes h1 h2]
  have := (okB_parts h1).1
  exact ord_fuel h1 _ _ _ _ (by omega) (by omega) (by omega)

theorem orderOf_flip {us vs : List VN} (h1 : okB us = true) (h2 : okB vs = true) : orderOf vs us = -orderOf us vs := by
  rw [orderOf_at h1 h2 (F := us.length + vs.length) (by omega), orderOf_at h2 h1 (F := us.length + vs.length) (by omega)]
  exact ord_flip us vs _ _ _

theorem orderOf_refl {us : List VN} (h1 : okB us = true) : orderOf us us = 0 := by
  have := orderOf_flip h1 h1
  omega

theorem orderOf_r3 {us vs : List VN} (h1 : okB us = true) (h2 : okB vs = true) : R3 (orderOf us vs) := by
  rw [orderOf_yes h1 h2]; exact ord_r3 _ _ _ _ _

/-- What is ahead of one that is ahead is ahead. -/
theorem orderOf_same {us vs ws : List VN} (h1 : okB us = true) (h2 : okB vs = true) (h3 : okB ws = true) (h : orderOf us vs = orderOf vs ws) : orderOf us ws = orderOf us vs := by
  have t := ord_tri us vs ws (us.length + vs.length) (us.length - 1) (vs.length - 1) (ws.length - 1)
  rw [← orderOf_at h1 h2 (by omega), ← orderOf_at h2 h3 (by omega), ← orderOf_at h1 h3 (by omega)] at t
  have := t (by omega) (by omega)
  rw [this, ← h]
  unfold comb
  split <;> rfl
end Go.Proofs.YtagcgnhpdmhegaaGreatDoor

/-
  Two right values are the same just where their order is 0. Plain mathematics.
-/
namespace Go.Proofs.YtagcgnhpdmhegaaGreatDoor
open Go.RowKit
set_option linter.unusedSimpArgs false
set_option linter.unusedVariables false

theorem comb_zero {x y : Int} : comb x y = 0 ↔ x = 0 ∧ y = 0 := by
  unfold comb
  by_cases e : x = 0 <;> simp [e]

theorem cmpKeys_zero (hS : ∀ a b : ByteArray, cmpS a b = 0 → a = b) : ∀ l m, cmpKeys l m = 0 → l = m := by
  intro l
  induction l with
  | nil => intro m h; cases m with
    | nil => rfl
    | cons b m => rw [cmpKeys_lex.nc] at h; omega
  | cons a l ih => intro m h; cases m with
    | nil => rw [cmpKeys_lex.cn] at h; omega
    | cons b m =>
      rw [cmpKeys_lex.cc, comb_zero] at h
      rw [hS a b h.1, ih m h.2]

theorem cmpKids_zero {α : Type} {R : Int → Int → Int} {g g' : Int → α} (hR : ∀ a b, R a b = 0 → g a = g' b) : ∀ l m, cmpKids R l m = 0 → l.map g = m.map g' := by
  intro l
  induction l with
  | nil => intro m h; cases m with
    | nil => rfl
    | cons b m => rw [(cmpKids_lex R).nc] at h; omega
  | cons a l ih => intro m h; cases m with
    | nil => rw [(cmpKids_lex R).cn] at h; omega
    | cons b m =>
      rw [(cmpKids_lex R).cc, comb_zero] at h
      rw [List.map_cons, List.map_cons, hR a b h.1, ih m h.2]

theorem ord_zero (hS : ∀ a b : ByteArray, cmpS a b = 0 → a = b) (us vs : List VN) : ∀ f n m, ord us vs f n m = 0 → treeOf us f n = treeOf vs f m := by
  intro f
  induction f with
  | zero => intro n m _; rfl
  | succ f ih =>
    intro n m h
    rw [ord_comb, comb_zero, comb_zero, comb_zero, comb_zero] at h
    obtain ⟨h1, h2, h3, h4, h5⟩ := h
    rw [treeOf, treeOf, (cmpI_zero _ _).1 h1, (cmpI_zero _ _).1 h2, hS _ _ h3, cmpKeys_zero hS _ _ h4, cmpKids_zero (g := fun k => treeOf us f k.toNat) (g' := fun k => treeOf vs f k.toNat) (fun a b hab => ih a.toNat b.toNat hab) _ _ h5]

theorem cmpS_eq (a b : ByteArray) (h : cmpS a b = 0) : a = b := by
  have e : a.toList = b.toList := (cmpL_zero _ _).1 h
  rw [Lib.toList_data, Lib.toList_data] at e
  rw [← Lib.mk_data a, ← Lib.mk_data b, e]

theorem shift_zeroZ (x : VN) : shiftN 0 x = x := by
  unfold shiftN
  have : x.kids.map (· + (0 : Int)) = x.kids := by
    have : (fun k : Int => k + 0) = id := by funext k; simp
    rw [this, List.map_id]
  rw [this]

/-- The root's part is the whole. -/
theorem part_root {vs : List VN} (hok : okB vs = true) : partOf vs (vs.length - 1) = vs := by
  have hs := (okB_parts hok).1
  have hr : rootB vs = true := by unfold okB at hok; simp only [Bool.and_eq_true] at hok; exact hok.2
  unfold rootB at hr
  split at hr
  · rename_i p e
    simp only [Bool.and_eq_true, decide_eq_true_eq] at hr
    unfold partOf
    rw [e]
    have e0 : trF (some p) = 0 := by show (p.1 : Int) = 0; omega
    rw [e0]
    have e1 : vs.length - 1 + 1 - (0 : Int).toNat = vs.length := by simp; omega
    rw [e1]
    unfold run
    apply List.ext_getElem
    · simp
    · intro j h1 h2
      simp only [List.getElem_map, List.getElem_range', Int.neg_zero]
      rw [shift_zeroZ]
      unfold nodeAt
      rw [List.getD_eq_getElem?_getD, show (0 : Int).toNat + 1 * j = j by simp, List.getElem?_eq_getElem h2]
      rfl
  · cases hr

theorem orderOf_zero {us vs : List VN} (h1 : okB us = true) (h2 : okB vs = true) : orderOf us vs = 0 ↔ us = vs := by
  constructor
  · intro h
    rw [orderOf_at h1 h2 (F := us.length + vs.length) (by omega)] at h
    have ht := ord_zero cmpS_eq us vs _ _ _ h
    have p1 := (okB_parts h1).1
    have p2 := (okB_parts h2).1
    have l1 := (lay_part h1 (f := us.length + vs.length) (m := us.length - 1) (by omega) (by omega)).1
    have l2 := (lay_part h2 (f := us.length + vs.length) (m := vs.length - 1) (by omega) (by omega)).1
    rw [part_root h1] at l1
    rw [part_root h2] at l2
    rw [ht] at l1
    exact l1.symm.trans l2
  · intro h
    subst h
    exact orderOf_refl h1
end Go.Proofs.YtagcgnhpdmhegaaGreatDoor

/-
  The law's own comparison of two rows of nodes: it says true just where they are the same.
-/
namespace Go.Proofs.YtagcgnhpdmhegaaGreatDoor
open Go.RowKit
set_option linter.unusedSimpArgs false
set_option linter.unusedVariables false

theorem strs_eq {a b : List ByteArray} (hl : a.length = b.length) (h : ∀ j, j < a.length → keyAt a j = keyAt b j) : a = b := by
  refine List.ext_getElem hl fun i h1 h2 => ?_
  have := h i h1
  simpa [keyAt, h1, h2] using this

theorem ints_eq {a b : List Int} (hl : a.length = b.length) (h : ∀ j, j < a.length → intAt a j = intAt b j) : a = b := by
  refine List.ext_getElem hl fun i h1 h2 => ?_
  have := h i h1
  simpa [intAt, h1, h2] using this

theorem nodes_eq {a b : List VN} (hl : a.length = b.length) (h : ∀ j, j < a.length → nodeAt a j = nodeAt b j) : a = b := by
  refine List.ext_getElem hl fun i h1 h2 => ?_
  have := h i h1
  simpa [nodeAt, h1, h2] using this

theorem vn_eq {x y : VN} (h1 : x.kind = y.kind) (h2 : x.n = y.n) (h3 : x.s = y.s) (h4 : x.keys = y.keys) (h5 : x.kids = y.kids) : x = y := by
  cases x; cases y; simp_all

theorem bytes_eq {a b : ByteArray} (h : (a.toList == b.toList) = true) : a = b := by
  have e : a.toList = b.toList := eq_of_beq h
  rw [Lib.toList_data, Lib.toList_data] at e
  rw [← Lib.mk_data a, ← Lib.mk_data b, e]

theorem nodes_ne {us vs : List VN} {k : Nat} (h : nodeAt us k ≠ nodeAt vs k) : ¬ us = vs := fun e => h (by rw [e])

theorem ret_no {p : Prop} (h : ¬ p) : ∃ b, Ending.returned (.bool false) = .returned (.bool b) ∧ (b = true ↔ p) := ⟨false, rfl, by simp [h]⟩

set_option maxRecDepth 100000 in
set_option maxHeartbeats 4000000 in
theorem same_any (B : Nat) (v1 v2 : Value) (us vs : List VN) (w : World) (h1 : NodesAt B w v1 us) (h2 : NodesAt B w v2 vs) (hB : B ≤ w.heap.size) :
    Calls Tryz.prog 12 #[v1, v2] w fun e w' => (∃ b, e = .returned (.bool b) ∧ (b = true ↔ us = vs)) ∧ Below w.heap.size w w' := by
  obtain ⟨hlen, a1, cap1, rfl, hcell1⟩ := h1
  obtain ⟨hlen2, a2, cap2, rfl, hcell2⟩ := h2
  have HC1 := hideIt hcell1
  have HC2 := hideIt hcell2
  clear hcell1 hcell2
  by_cases hl : us.length = vs.length
  case neg =>
    have hne : ((us.length : Int) != (vs.length : Int)) = true := by simp; omega
    have HO : Hid (¬ us = vs) := fun e => hl (by rw [e])
    clear hl
    go_enter Tryz.func12, Tryz.ntmps12
    go_wp2_with fail
    go_ret
    exact ⟨ret_no HO.out, Below.refl _ _⟩
  case pos =>
  obtain ⟨N, hN⟩ : ∃ N, us.length = N := ⟨_, rfl⟩
  have HN1 := hideIt hN
  have HN2 := hideIt (hl.symm.trans hN)
  rw [← hl, hN]
  rw [hN] at hlen
  clear hl hN hlen2
  have hne : ((N : Int) != (N : Int)) = false := by simp
  go_enter Tryz.func12, Tryz.ntmps12
  go_wp2_with fail
  go_loopw [5] (fun i wr => ∃ k : Nat, k ≤ N ∧ i = .int .i64 k ∧ Hid (∀ j, j < k → nodeAt us j = nodeAt vs j) ∧ Below w.heap.size w wr) (fun i _ => N - (intOf i).toNat)
  case atStart => exact ⟨0, Nat.zero_le _, rfl, fun j hj => absurd hj (by omega), Below.refl _ _⟩
  case round =>
    obtain ⟨k, hk, rfl, HE, hbel⟩ := hrel
    by_cases hlt : k < N
    case neg =>
      have HO : Hid (us = vs) := nodes_eq (HN1.out.trans HN2.out.symm) (fun j hj => HE.out j (by have := HN1.out; omega))
      go_wp2_with fail
      go_ret
      exact ⟨⟨true, rfl, by simp [HO.out]⟩, hbel⟩
    case pos =>
    obtain ⟨b1, o1, rfl, hb1, hc1⟩ := HC1.out (by have := HN1.out; omega)
    obtain ⟨b2, o2, rfl, hb2, hc2⟩ := HC2.out (by have := HN2.out; omega)
    obtain ⟨ka, ki, hn⟩ := hc1 k (by have := HN1.out; omega)
    obtain ⟨ka', ki', hn'⟩ := hc2 k (by have := HN2.out; omega)
    have g := hn.below (hbel.mono hB) hb1
    have g' := hn'.below (hbel.mono hB) hb2
    clear hc1 hc2 hn hn'
    have HG := hideIt g
    have HG' := hideIt g'
    obtain ⟨kl1, ks1, ak1, ck1, e1, hkc1⟩ := g.inn.keys
    obtain ⟨il1, is1, ai1, ci1, e2, hic1⟩ := g.inn.kids
    obtain ⟨kl2, ks2, ak2, ck2, e3, hkc2⟩ := g'.inn.keys
    obtain ⟨il2, is2, ai2, ci2, e4, hic2⟩ := g'.inn.kids
    subst e1 e2 e3 e4
    have c0 := g.c0
    have c1 := g.c1
    have c2 := g.c2
    have c3 := g.c3
    have c4 := g.c4
    have d0 := g'.c0
    have d1 := g'.c1
    have d2 := g'.c2
    have d3 := g'.c3
    have d4 := g'.c4
    clear g g'
    have HEQ : Hid (∀ p : Prop, (nodeAt us k = nodeAt vs k → p) → ¬ p → ¬ us = vs) := fun p h1 h2 => nodes_ne (fun e => h2 (h1 e))
    have hsize := hbel.size
    have HKC1 := hideIt hkc1
    have HKC2 := hideIt hkc2
    have HIC1 := hideIt hic1
    have HIC2 := hideIt hic2
    clear hkc1 hkc2 hic1 hic2 ks1 ks2 is1 is2
    obtain ⟨x, hx⟩ : ∃ x, nodeAt us k = x := ⟨_, rfl⟩
    obtain ⟨y, hy⟩ : ∃ y, nodeAt vs k = y := ⟨_, rfl⟩
    rw [hx] at c0 c1 c2 c3 c4 HKC1 HIC1 HEQ HG
    rw [hy] at d0 d1 d2 d3 d4 HKC2 HIC2 HEQ HG'
    have kl1' : x.keys.length ≤ 8796093022208 := by rw [← hx]; exact kl1
    have kl2' : y.keys.length ≤ 8796093022208 := by rw [← hy]; exact kl2
    have il1' : x.kids.length ≤ 17592186044416 := by rw [← hx]; exact il1
    have il2' : y.kids.length ≤ 17592186044416 := by rw [← hy]; exact il2
    have HX := hideIt hx
    have HY := hideIt hy
    clear hx hy kl1 kl2 il1 il2
    by_cases q1 : x.kind = y.kind
    case neg =>
      have f1 : (x.kind != y.kind) = true := by simpa using q1
      have HO := hideIt (HEQ.out _ (fun e => by rw [e]) q1)
      clear q1
      go_wp2_with fail
      refine wp_region_quiet_lit (by kernel_rfl) (by kernel_rfl) ?_
      simp only [List.append_eq, List.cons_append, List.nil_append]
      repeat (go_big_quiet_step (fail))
      refine wpQuiet_nil ?_
      intro _ hw'
      obtain ⟨nq, hw''⟩ := hw'
      subst hw''
      go_wp2_with fail
      go_ret
      exact ⟨ret_no HO.out, below_drewN hbel nq⟩
    case pos =>
    have f1 : (x.kind != y.kind) = false := by simpa using q1
    have Q1 := hideIt q1
    clear q1
    by_cases q2 : x.n = y.n
    case neg =>
      have f2 : (x.n != y.n) = true := by simpa using q2
      have HO := hideIt (HEQ.out _ (fun e => by rw [e]) q2)
      clear q2
      go_wp2_with fail
      refine wp_region_quiet_lit (by kernel_rfl) (by kernel_rfl) ?_
      simp only [List.append_eq, List.cons_append, List.nil_append]
      repeat (go_big_quiet_step (fail))
      refine wpQuiet_nil ?_
      intro _ hw'
      obtain ⟨nq, hw''⟩ := hw'
      subst hw''
      go_wp2_with fail
      go_ret
      exact ⟨ret_no HO.out, below_drewN hbel nq⟩
    case pos =>
    have f2 : (x.n != y.n) = false := by simpa using q2
    have Q2 := hideIt q2
    clear q2
    by_cases f3 : (x.s.toList == y.s.toList) = true
    case neg =>
      have f3' : (x.s.toList == y.s.toList) = false := by simpa using f3
      have HO := hideIt (HEQ.out ((x.s.toList == y.s.toList) = true) (fun e => by rw [e]; simp) f3)
      clear f3
      go_wp2_with fail
      refine wp_region_quiet_lit (by kernel_rfl) (by kernel_rfl) ?_
      simp only [List.append_eq, List.cons_append, List.nil_append]
      repeat (go_big_quiet_step (fail))
      refine wpQuiet_nil ?_
      intro _ hw'
      obtain ⟨nq, hw''⟩ := hw'
      subst hw''
      go_wp2_with fail
      go_ret
      exact ⟨ret_no HO.out, below_drewN hbel nq⟩
    case pos =>
    by_cases q4 : x.keys.length = y.keys.length
    case neg =>
      have f4 : ((x.keys.length : Int) != (y.keys.length : Int)) = true := by simp; omega
      have HO := hideIt (HEQ.out _ (fun e => by rw [e]) q4)
      clear q4
      go_wp2_with fail
      refine wp_region_quiet_lit (by kernel_rfl) (by kernel_rfl) ?_
      simp only [List.append_eq, List.cons_append, List.nil_append]
      repeat (go_big_quiet_step (fail))
      refine wpQuiet_nil ?_
      intro _ hw'
      obtain ⟨nq, hw''⟩ := hw'
      subst hw''
      go_wp2_with fail
      go_ret
      exact ⟨ret_no HO.out, below_drewN hbel nq⟩
    case pos =>
    by_cases q5 : x.kids.length = y.kids.length
    case neg =>
      have f4 : ((x.keys.length : Int) != (y.keys.length : Int)) = false := by simp; omega
      have f5 : ((x.kids.length : Int) != (y.kids.length : Int)) = true := by simp; omega
      have HO := hideIt (HEQ.out _ (fun e => by rw [e]) q5)
      clear q5 q4
      go_wp2_with fail
      refine wp_region_quiet_lit (by kernel_rfl) (by kernel_rfl) ?_
      simp only [List.append_eq, List.cons_append, List.nil_append]
      repeat (go_big_quiet_step (fail))
      refine wpQuiet_nil ?_
      intro _ hw'
      obtain ⟨nq, hw''⟩ := hw'
      subst hw''
      go_wp2_with fail
      go_ret
      exact ⟨ret_no HO.out, below_drewN hbel nq⟩
    case pos =>
    have Q4 := hideIt q4
    have Q5 := hideIt q5
    obtain ⟨P, hP⟩ : ∃ P, x.keys.length = P := ⟨_, rfl⟩
    obtain ⟨Q, hQ⟩ : ∃ Q, x.kids.length = Q := ⟨_, rfl⟩
    rw [← q4, hP] at d3
    rw [← q5, hQ] at d4
    rw [hP] at c3
    rw [hQ] at c4
    have HP := hideIt hP
    have HQ := hideIt hQ
    have hP' : P ≤ 8796093022208 := by omega
    have hQ' : Q ≤ 17592186044416 := by omega
    clear q4 q5 kl1' kl2' il1' il2' hP hQ
    have f4 : ((P : Int) != (P : Int)) = false := by simp
    have f5 : ((Q : Int) != (Q : Int)) = false := by simp
    have HCL : Hid (∀ W, Below w.heap.size w W → ∀ o, W.cell? ⟨b1, o, none⟩ = wr.cell? ⟨b1, o, none⟩ ∧ W.cell? ⟨b2, o, none⟩ = wr.cell? ⟨b2, o, none⟩) := fun W hW o =>
      ⟨(below_cell hW (by omega)).trans (below_cell hbel (by omega)).symm, (below_cell hW (by omega)).trans (below_cell hbel (by omega)).symm⟩
    have C3 := hideIt c3
    have C4 := hideIt c4
    have D3 := hideIt d3
    have D4 := hideIt d4
    go_wp2_with fail
    refine wp_region_quiet_lit (by kernel_rfl) (by kernel_rfl) ?_
    simp only [List.append_eq, List.cons_append, List.nil_append]
    repeat (go_big_quiet_step (fail))
    refine wpQuiet_nil ?_
    intro _ hw'
    obtain ⟨nq, hw''⟩ := hw'
    subst hw''
    have hbq := below_drewN hbel nq
    obtain ⟨W0, hW0⟩ : ∃ W0, W0 = wr := ⟨_, rfl⟩
    rw [← hW0] at HCL C3 C4 D3 D4 HKC1 HKC2 HIC1 HIC2 HG HG'
    generalize wr.drewN nq = W1 at hbq ⊢
    have HW0 : Hid (Below w.heap.size w W0) := by rw [Hid, hW0]; exact hbel
    clear c0 c1 c2 c3 c4 d0 d1 d2 d3 d4 hW0 hbel
    go_wp2_with fail
    go_loopw [6] (fun i wr => ∃ q : Nat, q ≤ P ∧ i = .int .i64 q ∧ Hid (∀ j, j < q → keyAt x.keys j = keyAt y.keys j) ∧ Below w.heap.size w wr) (fun i _ => P - (intOf i).toNat)
    case atStart => exact ⟨0, Nat.zero_le _, rfl, fun j hj => absurd hj (by omega), hbq⟩
    case round =>
      obtain ⟨q, hq, rfl, HQE, hbr⟩ := hrel
      have e3 := ((HCL.out _ hbr _).1).trans C3.out
      have t3 := ((HCL.out _ hbr _).2).trans D3.out
      by_cases hlq : q < P
      case neg =>
        obtain rfl : q = P := by omega
        go_wp2_with fail
        clear e3 t3
        obtain ⟨W2, rfl⟩ : ∃ W2, W2 = wr := ⟨_, rfl⟩
        go_loopw [7] (fun i wr => ∃ p : Nat, p ≤ Q ∧ i = .int .i64 p ∧ Hid (∀ j, j < p → intAt x.kids j = intAt y.kids j) ∧ Below w.heap.size w wr) (fun i _ => Q - (intOf i).toNat)
        case atStart => exact ⟨0, Nat.zero_le _, rfl, fun j hj => absurd hj (by omega), hbr⟩
        case round =>
          obtain ⟨p, hp, rfl, HPE, hbs⟩ := hrel
          have e4 := ((HCL.out _ hbs _).1).trans C4.out
          have t4 := ((HCL.out _ hbs _).2).trans D4.out
          by_cases hlp : p < Q
          case neg =>
            have HXY : Hid (x = y) := vn_eq Q1.out Q2.out (bytes_eq f3) (strs_eq Q4.out (fun j hj => HQE.out j (by have := HP.out; omega))) (ints_eq Q5.out (fun j hj => HPE.out j (by have := HQ.out; omega)))
            have HE2 : Hid (∀ j, j < k + 1 → nodeAt us j = nodeAt vs j) := fun j hj => by
              by_cases e : j = k
              · subst e; rw [HX.out, HY.out]; exact HXY.out
              · exact HE.out j (by omega)
            go_wp2_with fail
            go_roundw
            case rel => exact ⟨k + 1, by omega, by go_num, HE2, hbs⟩
            case measure => simp [intOf]; omega
          case pos =>
          obtain ⟨b3, o3, rfl, hb3, hc3⟩ := HIC1.out (by have := HQ.out; omega)
          obtain ⟨b4, o4, rfl, hb4, hc4⟩ := HIC2.out (by have := HQ.out; have := Q5.out; omega)
          have r1 := ((below_cell (o := o3 + p) hbs (show b3 < w.heap.size by omega)).trans (below_cell HW0.out (show b3 < w.heap.size by omega)).symm).trans (hc3 p (by have := HQ.out; omega))
          have r2 := ((below_cell (o := o4 + p) hbs (show b4 < w.heap.size by omega)).trans (below_cell HW0.out (show b4 < w.heap.size by omega)).symm).trans (hc4 p (by have := HQ.out; have := Q5.out; omega))
          clear hc3 hc4
          by_cases hke : intAt x.kids p = intAt y.kids p
          case neg =>
            have f6 : (intAt x.kids p != intAt y.kids p) = true := by simpa using hke
            have HO := hideIt (HEQ.out _ (fun e => by rw [e]) hke)
            clear hke
            go_wp2_with fail
            go_quiet (fail)
            go_wp2_with fail
            go_ret
            exact ⟨ret_no HO.out, below_drewN hbs nq⟩
          case pos =>
          have f6 : (intAt x.kids p != intAt y.kids p) = false := by simpa using hke
          have HPE2 : Hid (∀ j, j < p + 1 → intAt x.kids j = intAt y.kids j) := fun j hj => by
            by_cases e : j = p
            · subst e; exact hke
            · exact HPE.out j (by omega)
          clear hke
          go_wp2_with fail
          go_quiet (fail)
          go_wp2_with fail
          go_roundw
          case rel => exact ⟨p + 1, by omega, by go_num, HPE2, below_drewN hbs nq⟩
          case measure => simp [intOf]; omega
      case pos =>
      obtain ⟨b3, o3, rfl, hb3, hc3⟩ := HKC1.out (by have := HP.out; omega)
      obtain ⟨b4, o4, rfl, hb4, hc4⟩ := HKC2.out (by have := HP.out; have := Q4.out; omega)
      have r1 := ((below_cell (o := o3 + q) hbr (show b3 < w.heap.size by omega)).trans (below_cell HW0.out (show b3 < w.heap.size by omega)).symm).trans (hc3 q (by have := HP.out; omega))
      have r2 := ((below_cell (o := o4 + q) hbr (show b4 < w.heap.size by omega)).trans (below_cell HW0.out (show b4 < w.heap.size by omega)).symm).trans (hc4 q (by have := HP.out; have := Q4.out; omega))
      clear hc3 hc4
      by_cases hke : ((keyAt x.keys q).toList == (keyAt y.keys q).toList) = true
      case neg =>
        have f6 : ((keyAt x.keys q).toList == (keyAt y.keys q).toList) = false := by simpa using hke
        have HO := hideIt (HEQ.out (((keyAt x.keys q).toList == (keyAt y.keys q).toList) = true) (fun e => by rw [e]; simp) hke)
        clear hke
        go_wp2_with fail
        go_quiet (fail)
        go_wp2_with fail
        go_ret
        exact ⟨ret_no HO.out, below_drewN hbr nq⟩
      case pos =>
      have HQE2 : Hid (∀ j, j < q + 1 → keyAt x.keys j = keyAt y.keys j) := fun j hj => by
        by_cases e : j = q
        · subst e; exact bytes_eq hke
        · exact HQE.out j (by omega)
      go_wp2_with fail
      go_quiet (fail)
      go_wp2_with fail
      go_roundw
      case rel => exact ⟨q + 1, by omega, by go_num, HQE2, below_drewN hbr nq⟩
      case measure => simp [intOf]; omega
end Go.Proofs.YtagcgnhpdmhegaaGreatDoor
