/-
  spec.Order: -2 where one of the two is not right, else the order of their roots.
-/
import Derived.Test.YtiamkmkbkehldaaGreatDoorSpcOrd
import Derived.Test.YtiamkmkbkehldaaGreatDoorOrd
import Derived.Test.YtiamkmkbkehldaaGreatDoorPkT
import Derived.Test.YtiamkmkbkehldaaGreatDoorKp
namespace Go.Proofs.YtiamkmkbkehldaaGreatDoor
open Go.RowKit
set_option linter.unusedSimpArgs false
set_option linter.unusedVariables false

def orderOf (us vs : List VN) : Int := if okB us = true ∧ okB vs = true then ord us vs us.length (us.length - 1) (vs.length - 1) else -2

theorem orderOf_yes {us vs : List VN} (h1 : okB us = true) (h2 : okB vs = true) : orderOf us vs = ord us vs us.length (us.length - 1) (vs.length - 1) := if_pos ⟨h1, h2⟩
theorem orderOf_left {us vs : List VN} (h1 : okB us = false) : orderOf us vs = -2 := if_neg (by simp [h1])
theorem orderOf_right {us vs : List VN} (h2 : okB vs = false) : orderOf us vs = -2 := if_neg (by simp [h2])

set_option maxRecDepth 100000 in
set_option maxHeartbeats 1600000 in
theorem l1Compare_any (B : Nat) (v1 v2 : Value) (us vs : List VN) (w : World) (h : Two B w v1 v2 us vs) (hB : B ≤ w.heap.size) (hu : 1 ≤ us.length ∧ us.length ≤ 80) (hv : 1 ≤ vs.length ∧ vs.length ≤ 80) :
    Calls Tryz.prog 59 #[v1, v2] w fun e w' => e = .returned (.int .i64 (ord us vs us.length (us.length - 1) (vs.length - 1))) ∧ Below w.heap.size w w' := by
  have H := hideIt h
  obtain ⟨_, a1, c1, rfl, _⟩ := h.n1
  obtain ⟨_, a2, c2, rfl, _⟩ := h.n2
  clear h
  obtain ⟨hu1, hu2⟩ := hu
  obtain ⟨hv1, hv2⟩ := hv
  have e1 : ((us.length : Nat) : Int) - 1 = ((us.length - 1 : Nat) : Int) := by omega
  have e2 : ((vs.length : Nat) : Int) - 1 = ((vs.length - 1 : Nat) : Int) := by omega
  go_enter Tryz.func59, Tryz.ntmps59
  go_wp2_with fail
  refine (l1Order_any B _ _ us vs us.length (us.length - 1) (vs.length - 1) _ (by omega) (by omega) (by omega) H.out hB).mono ?_
  rintro e w1 ⟨rfl, hb1⟩
  go_wp2_with fail
  go_ret
  exact ⟨rfl, hb1⟩

set_option maxRecDepth 100000 in
set_option maxHeartbeats 1600000 in
theorem specOrder_any (B : Nat) (v1 v2 : Value) (us vs : List VN) (w : World) (h1 : NodesAt B w v1 us) (h2 : NodesAt B w v2 vs) (hB : B ≤ w.heap.size) :
    Calls Tryz.prog 19 #[v1, v2] w fun e w' => e = .returned (.int .i64 (orderOf us vs)) ∧ Below w.heap.size w w' := by
  have H1 := hideIt h1
  have H2 := hideIt h2
  obtain ⟨_, a1, c1, rfl, _⟩ := h1
  obtain ⟨_, a2, c2, rfl, _⟩ := h2
  go_enter Tryz.func19, Tryz.ntmps19
  go_wp2_with fail
  refine (specOk_any B _ us _ H1.out hB).mono ?_
  rintro e w1 ⟨rfl, hb1⟩
  have z1 := hb1.size
  cases ok1 : okB us
  · have HO := hideIt (orderOf_left (vs := vs) ok1)
    go_wp2_with fail
    go_ret
    exact ⟨ret_int HO.out.symm, hb1⟩
  · go_wp2_with fail
    refine (specOk_any B _ vs _ (H2.out.below (hb1.mono hB)) (by omega)).mono ?_
    rintro e w2 ⟨rfl, hb2⟩
    have HB2 := hideIt (hb1.trans (hb2.mono z1))
    have z2 := hb2.size
    cases ok2 : okB vs
    · have HO := hideIt (orderOf_right (us := us) ok2)
      go_wp2_with fail
      go_ret
      exact ⟨ret_int HO.out.symm, HB2.out⟩
    · have HO := hideIt (orderOf_yes ok1 ok2)
      obtain ⟨p1, q1, _, _⟩ := okB_parts ok1
      obtain ⟨p2, q2, _, _⟩ := okB_parts ok2
      have HT : Hid (Two B w2 (.slice a1 us.length c1) (.slice a2 vs.length c2) us vs) := ⟨H1.out.below (HB2.out.mono hB), H2.out.below (HB2.out.mono hB), q1, q2⟩
      clear q1 q2
      go_wp2_with fail
      refine (l1Compare_any B _ _ us vs _ HT.out (by omega) p1 p2).mono ?_
      rintro e w3 ⟨rfl, hb3⟩
      go_wp2_with fail
      go_ret
      exact ⟨ret_int HO.out.symm, HB2.out.trans (hb3.mono (by omega))⟩
end Go.Proofs.YtiamkmkbkehldaaGreatDoor

/-
  The order of values turned round, and of three values. Plain mathematics.
-/
namespace Go.Proofs.YtiamkmkbkehldaaGreatDoor
open Go.RowKit
set_option linter.unusedSimpArgs false
set_option linter.unusedVariables false

/-- The first that is not 0. -/
def comb (x y : Int) : Int := if x = 0 then y else x
def R3 (x : Int) : Prop := x = -1 ∨ x = 0 ∨ x = 1
/-- Where the two do not go apart, the third is the first of them that is not 0. -/
def Tri (x y z : Int) : Prop := ¬ (x = 1 ∧ y = -1) → ¬ (x = -1 ∧ y = 1) → z = comb x y

theorem comb_r3 {x y : Int} (hx : R3 x) (hy : R3 y) : R3 (comb x y) := by unfold comb; split <;> assumption
theorem comb_neg (x y : Int) : comb (-x) (-y) = -comb x y := by unfold comb; split <;> split <;> omega

theorem tri_lex {x1 y1 z1 x2 y2 z2 : Int} (hx1 : R3 x1) (hy1 : R3 y1) (hx2 : R3 x2) (hy2 : R3 y2) (h1 : Tri x1 y1 z1) (h2 : Tri x2 y2 z2) : Tri (comb x1 x2) (comb y1 y2) (comb z1 z2) := by
  unfold Tri comb at *
  unfold R3 at *
  intro a b
  rcases hx1 with rfl | rfl | rfl <;> rcases hy1 with rfl | rfl | rfl <;> rcases hx2 with rfl | rfl | rfl <;> rcases hy2 with rfl | rfl | rfl <;> simp at * <;> simp [*]

theorem cmpI_r3 (a b : Int) : R3 (cmpI a b) := cmpI_range a b
theorem cmpI_flip (a b : Int) : cmpI b a = -cmpI a b := by unfold cmpI; split <;> split <;> (try split) <;> omega
theorem cmpI_tri (a b c : Int) : Tri (cmpI a b) (cmpI b c) (cmpI a c) := by
  unfold Tri comb cmpI
  intro h1 h2
  split <;> split <;> (try split) <;> (try split) <;> (try split) <;> (try split) <;> simp_all <;> omega

/-- Lists, by the first that differs, then by how many there are. -/
structure IsLex {α β : Type} (C : List α → List β → Int) (r : α → β → Int) : Prop where
  nn : C [] [] = 0
  nc : ∀ b m, C [] (b :: m) = -1
  cn : ∀ a l, C (a :: l) [] = 1
  cc : ∀ a l b m, C (a :: l) (b :: m) = comb (r a b) (C l m)

theorem lex_r3 {α β : Type} {C : List α → List β → Int} {r : α → β → Int} (h : IsLex C r) (hr : ∀ a b, R3 (r a b)) : ∀ x y, R3 (C x y) := by
  intro x
  induction x with
  | nil => intro y; cases y with
    | nil => rw [h.nn]; exact Or.inr (Or.inl rfl)
    | cons b m => rw [h.nc]; exact Or.inl rfl
  | cons a l ih => intro y; cases y with
    | nil => rw [h.cn]; exact Or.inr (Or.inr rfl)
    | cons b m => rw [h.cc]; exact comb_r3 (hr a b) (ih m)

theorem lex_flip {α β : Type} {C : List α → List β → Int} {C' : List β → List α → Int} {r : α → β → Int} {r' : β → α → Int} (h : IsLex C r) (h' : IsLex C' r') (hf : ∀ a b, r' b a = -r a b) : ∀ x y, C' y x = -C x y := by
  intro x
  induction x with
  | nil => intro y; cases y with
    | nil => rw [h.nn, h'.nn]; rfl
    | cons b m => rw [h.nc, h'.cn]; rfl
  | cons a l ih => intro y; cases y with
    | nil => rw [h.cn, h'.nc]
    | cons b m => rw [h.cc, h'.cc, hf, ih, comb_neg]

theorem lex_tri {α β γ : Type} {C1 : List α → List β → Int} {C2 : List β → List γ → Int} {C3 : List α → List γ → Int} {r1 : α → β → Int} {r2 : β → γ → Int} {r3 : α → γ → Int} (h1 : IsLex C1 r1) (h2 : IsLex C2 r2) (h3 : IsLex C3 r3) (hr1 : ∀ a b, R3 (r1 a b)) (hr2 : ∀ b c, R3 (r2 b c)) (ht : ∀ a b c, Tri (r1 a b) (r2 b c) (r3 a c)) : ∀ x y z, Tri (C1 x y) (C2 y z) (C3 x z) := by
  intro x
  induction x with
  | nil =>
    intro y z
    cases y with
    | nil => cases z with
      | nil => rw [h1.nn, h2.nn, h3.nn]; intro _ _; rfl
      | cons c k => rw [h1.nn, h2.nc, h3.nc]; intro _ _; rfl
    | cons b m => cases z with
      | nil => rw [h1.nc, h2.cn]; intro _ h; exact absurd ⟨rfl, rfl⟩ h
      | cons c k => rw [h1.nc, h3.nc]; intro _ _; rfl
  | cons a l ih =>
    intro y z
    cases y with
    | nil => cases z with
      | nil => rw [h1.cn, h2.nn, h3.cn]; intro _ _; rfl
      | cons c k => rw [h1.cn, h2.nc]; intro h _; exact absurd ⟨rfl, rfl⟩ h
    | cons b m => cases z with
      | nil =>
        rw [h2.cn, h3.cn]
        intro _ h
        rcases lex_r3 h1 hr1 (a :: l) (b :: m) with e | e | e
        · exact absurd ⟨e, rfl⟩ h
        · rw [e]; rfl
        · rw [e]; rfl
      | cons c k =>
        rw [h1.cc, h2.cc, h3.cc]
        exact tri_lex (hr1 a b) (hr2 b c) (lex_r3 h1 hr1 l m) (lex_r3 h2 hr2 m k) (ht a b c) (ih m k)

theorem cmpL_lex : IsLex cmpL (fun a b => cmpI (a.toNat : Int) (b.toNat : Int)) := by
  refine ⟨rfl, fun b m => rfl, fun a l => rfl, fun a l b m => ?_⟩
  rw [cmpL_cons]
  unfold comb cmpI
  simp only [UInt8.lt_iff_toNat_lt]
  split <;> (try split) <;> (try split) <;> (try split) <;> simp_all <;> omega
theorem cmpS_r3 (a b : ByteArray) : R3 (cmpS a b) := cmpL_range _ _
theorem cmpS_flip (a b : ByteArray) : cmpS b a = -cmpS a b := cmpL_flip _ _
theorem cmpS_tri (a b c : ByteArray) : Tri (cmpS a b) (cmpS b c) (cmpS a c) := lex_tri cmpL_lex cmpL_lex cmpL_lex (fun _ _ => cmpI_r3 _ _) (fun _ _ => cmpI_r3 _ _) (fun _ _ _ => cmpI_tri _ _ _) _ _ _

theorem cmpKeys_lex : IsLex cmpKeys cmpS := by
  refine ⟨rfl, fun b m => rfl, fun a l => rfl, fun a l b m => ?_⟩
  rw [cmpKeys]
  unfold comb
  by_cases h : cmpS a b = 0 <;> simp [h]
theorem cmpKids_lex (R : Int → Int → Int) : IsLex (cmpKids R) R := by
  refine ⟨rfl, fun b m => rfl, fun a l => rfl, fun a l b m => ?_⟩
  rw [cmpKids]
  unfold comb
  by_cases h : R a b = 0 <;> simp [h]

theorem ite_comb {p : Prop} [Decidable p] {x y : Int} (h : p ↔ x ≠ 0) : (if p then x else y) = comb x y := by
  unfold comb
  by_cases e : x = 0
  · rw [if_neg (fun hp => h.1 hp e), if_pos e]
  · rw [if_pos (h.2 e), if_neg e]

theorem ord_comb (us vs : List VN) (f n m : Nat) : ord us vs (f + 1) n m = comb (cmpI (nodeAt us n).kind (nodeAt vs m).kind) (comb (cmpI (nodeAt us n).n (nodeAt vs m).n) (comb (cmpS (nodeAt us n).s (nodeAt vs m).s) (comb (cmpKeys (nodeAt us n).keys (nodeAt vs m).keys) (cmpKids (fun a b => ord us vs f a.toNat b.toNat) (nodeAt us n).kids (nodeAt vs m).kids)))) := by
  have hI : ∀ a b : Int, (a ≠ b) ↔ cmpI a b ≠ 0 := fun a b => (not_congr (cmpI_zero a b)).symm
  rw [ord, ite_comb (hI _ _), ite_comb (hI _ _), ite_comb Iff.rfl, ite_comb Iff.rfl]

theorem ord_r3 (us vs : List VN) (f n m : Nat) : R3 (ord us vs f n m) := by
  have := ord_range us vs f n m
  unfold R3; omega

theorem ord_flip (us vs : List VN) : ∀ f n m, ord vs us f m n = -ord us vs f n m := by
  intro f
  induction f with
  | zero => intro n m; rfl
  | succ f ih =>
    intro n m
    rw [ord_comb, ord_comb, cmpI_flip (nodeAt us n).kind, cmpI_flip (nodeAt us n).n, cmpS_flip (nodeAt us n).s, lex_flip cmpKeys_lex cmpKeys_lex cmpS_flip (nodeAt us n).keys, lex_flip (cmpKids_lex (fun a b => ord us vs f a.toNat b.toNat)) (cmpKids_lex (fun a b => ord vs us f a.toNat b.toNat)) (fun a b => ih a.toNat b.toNat) (nodeAt us n).kids]
    simp only [comb_neg]

theorem cmpKids_congr {R R' : Int → Int → Int} : ∀ {l m : List Int}, (∀ a ∈ l, ∀ b ∈ m, R a b = R' a b) → cmpKids R l m = cmpKids R' l m := by
  intro l
  induction l with
  | nil => intro m _; cases m <;> rfl
  | cons a l ih =>
    intro m h
    cases m with
    | nil => rfl
    | cons b m =>
      rw [cmpKids, cmpKids, h a (List.mem_cons_self ..) b (List.mem_cons_self ..), ih (fun x hx y hy => h x (List.mem_cons_of_mem _ hx) y (List.mem_cons_of_mem _ hy))]

theorem kid_lt {vs : List VN} (hok : okB vs = true) {n : Nat} (hn : n < vs.length) {a : Int} (ha : a ∈ (nodeAt vs n).kids) : a.toNat < n := by
  obtain ⟨j, hj, e⟩ := List.getElem_of_mem ha
  have := kidsIn_get ((okB_parts hok).2.1 n hn).2 hj
  have e2 : intAt (nodeAt vs n).kids j = a := by unfold intAt; rw [List.getD_eq_getElem?_getD, List.getElem?_eq_getElem hj]; exact e
  rw [e2] at this
  omega

theorem ord_fuel {us vs : List VN} (hok : okB us = true) : ∀ f f' n m, n < f → n < f' → n < us.length → ord us vs f n m = ord us vs f' n m := by
  intro f
  induction f with
  | zero => intro f' n m h; omega
  | succ f ih =>
    intro f' n m h1 h2 hn
    cases f' with
    | zero => omega
    | succ f' =>
      rw [ord_comb, ord_comb]
      congr 4
      exact cmpKids_congr (fun a ha b hb => by
        have := kid_lt hok hn ha
        exact ih f' a.toNat b.toNat (by omega) (by omega) (by omega))

theorem orderOf_at {us vs : List VN} (h1 : okB us = true) (h2 : okB vs = true) {F : Nat} (hF : us.length ≤ F) : orderOf us vs = ord us vs F (us.length - 1) (vs.length - 1) := by
  rw [orderOf_yes h1 h2]
  have := (okB_parts h1).1
  exact ord_fuel h1 _ _ _ _ (by omega) (by omega) (by omega)

theorem orderOf_flip {us vs : List VN} (h1 : okB us = true) (h2 : okB vs = true) : orderOf vs us = -orderOf us vs := by
  rw [orderOf_at h1 h2 (F := us.length + vs.length) (by omega), orderOf_at h2 h1 (F := us.length + vs.length) (by omega)]
  exact ord_flip us vs _ _ _

theorem orderOf_refl {us : List VN} (h1 : okB us = true) : orderOf us us = 0 := by
  have := orderOf_flip h1 h1
  omega

theorem orderOf_r3 {us vs : List VN} (h1 : okB us = true) (h2 : okB vs = true) : R3 (orderOf us vs) := by
  rw [orderOf_yes h1 h2]; exact ord_r3 _ _ _ _ _

end Go.Proofs.YtiamkmkbkehldaaGreatDoor

/-
  Two right values are the same just where their order is 0. Plain mathematics.
-/
namespace Go.Proofs.YtiamkmkbkehldaaGreatDoor
open Go.RowKit
set_option linter.unusedSimpArgs false
set_option linter.unusedVariables false

theorem comb_zero {x y : Int} : comb x y = 0 ↔ x = 0 ∧ y = 0 := by
  unfold comb
  by_cases e : x = 0 <;> simp [e]

theorem cmpKeys_zero (hS : ∀ a b : ByteArray, cmpS a b = 0 → a = b) : ∀ l m, cmpKeys l m = 0 → l = m := by
  intro l
  induction l with
  | nil => intro m h; cases m with
    | nil => rfl
    | cons b m => rw [cmpKeys_lex.nc] at h; omega
  | cons a l ih => intro m h; cases m with
    | nil => rw [cmpKeys_lex.cn] at h; omega
    | cons b m =>
      rw [cmpKeys_lex.cc, comb_zero] at h
      rw [hS a b h.1, ih m h.2]

theorem cmpKids_zero {α : Type} {R : Int → Int → Int} {g g' : Int → α} (hR : ∀ a b, R a b = 0 → g a = g' b) : ∀ l m, cmpKids R l m = 0 → l.map g = m.map g' := by
  intro l
  induction l with
  | nil => intro m h; cases m with
    | nil => rfl
    | cons b m => rw [(cmpKids_lex R).nc] at h; omega
  | cons a l ih => intro m h; cases m with
    | nil => rw [(cmpKids_lex R).cn] at h; omega
    | cons b m =>
      rw [(cmpKids_lex R).cc, comb_zero] at h
      rw [List.map_cons, List.map_cons, hR a b h.1, ih m h.2]

theorem ord_zero (hS : ∀ a b : ByteArray, cmpS a b = 0 → a = b) (us vs : List VN) : ∀ f n m, ord us vs f n m = 0 → treeOf us f n = treeOf vs f m := by
  intro f
  induction f with
  | zero => intro n m _; rfl
  | succ f ih =>
    intro n m h
    rw [ord_comb, comb_zero, comb_zero, comb_zero, comb_zero] at h
    obtain ⟨h1, h2, h3, h4, h5⟩ := h
    rw [treeOf, treeOf, (cmpI_zero _ _).1 h1, (cmpI_zero _ _).1 h2, hS _ _ h3, cmpKeys_zero hS _ _ h4, cmpKids_zero (g := fun k => treeOf us f k.toNat) (g' := fun k => treeOf vs f k.toNat) (fun a b hab => ih a.toNat b.toNat hab) _ _ h5]

theorem cmpS_eq (a b : ByteArray) (h : cmpS a b = 0) : a = b := by
  have e : a.toList = b.toList := (cmpL_zero _ _).1 h
  rw [Lib.toList_data, Lib.toList_data] at e
  rw [← Lib.mk_data a, ← Lib.mk_data b, e]

theorem shift_zeroZ (x : VN) : shiftN 0 x = x := by
  unfold shiftN
  have : x.kids.map (· + (0 : Int)) = x.kids := by
    have : (fun k : Int => k + 0) = id := by funext k; simp
    rw [this, List.map_id]
  rw [this]

/-- The root's part is the whole. -/
theorem part_root {vs : List VN} (hok : okB vs = true) : partOf vs (vs.length - 1) = vs := by
  have hs := (okB_parts hok).1
  have hr : rootB vs = true := by unfold okB at hok; simp only [Bool.and_eq_true] at hok; exact hok.2
  unfold rootB at hr
  split at hr
  · rename_i p e
    simp only [Bool.and_eq_true, decide_eq_true_eq] at hr
    unfold partOf
    rw [e]
    have e0 : trF (some p) = 0 := by show (p.1 : Int) = 0; omega
    rw [e0]
    have e1 : vs.length - 1 + 1 - (0 : Int).toNat = vs.length := by simp; omega
    rw [e1]
    unfold run
    apply List.ext_getElem
    · simp
    · intro j h1 h2
      simp only [List.getElem_map, List.getElem_range', Int.neg_zero]
      rw [shift_zeroZ]
      unfold nodeAt
      rw [List.getD_eq_getElem?_getD, show (0 : Int).toNat + 1 * j = j by simp, List.getElem?_eq_getElem h2]
      rfl
  · cases hr

theorem orderOf_zero {us vs : List VN} (h1 : okB us = true) (h2 : okB vs = true) : orderOf us vs = 0 ↔ us = vs := by
  constructor
  · intro h
    rw [orderOf_at h1 h2 (F := us.length + vs.length) (by omega)] at h
    have ht := ord_zero cmpS_eq us vs _ _ _ h
    have p1 := (okB_parts h1).1
    have p2 := (okB_parts h2).1
    have l1 := (lay_part h1 (f := us.length + vs.length) (m := us.length - 1) (by omega) (by omega)).1
    have l2 := (lay_part h2 (f := us.length + vs.length) (m := vs.length - 1) (by omega) (by omega)).1
    rw [part_root h1] at l1
    rw [part_root h2] at l2
    rw [ht] at l1
    exact l1.symm.trans l2
  · intro h
    subst h
    exact orderOf_refl h1
end Go.Proofs.YtiamkmkbkehldaaGreatDoor

/-
  What the methods kind say (apart from Kp: a part turning may lack their bodies).
-/
namespace Go.Proofs.YtiamkmkbkehldaaGreatDoor
open Go.RowKit
set_option linter.unusedSimpArgs false
set_option linter.unusedVariables false

theorem kind1_any (w : World) : Calls Tryz.prog 279 #[.agg #[]] w fun e w' => e = .returned (.int .i64 1) ∧ Below w.heap.size w w' := by
  go_enter Tryz.func279, Tryz.ntmps279
  go_wp2_with fail
  go_ret
  exact ⟨rfl, (Below.refl _ _).alloc (Nat.le_refl _) _⟩
theorem kind2_any (n : Int) (w : World) : Calls Tryz.prog 275 #[.agg #[.int .i64 n]] w fun e w' => e = .returned (.int .i64 2) ∧ Below w.heap.size w w' := by
  go_enter Tryz.func275, Tryz.ntmps275
  go_wp2_with fail
  go_ret
  exact ⟨rfl, (Below.refl _ _).alloc (Nat.le_refl _) _⟩
theorem kind3_any (n : Int) (w : World) : Calls Tryz.prog 277 #[.agg #[.int .i64 n]] w fun e w' => e = .returned (.int .i64 3) ∧ Below w.heap.size w w' := by
  go_enter Tryz.func277, Tryz.ntmps277
  go_wp2_with fail
  go_ret
  exact ⟨rfl, (Below.refl _ _).alloc (Nat.le_refl _) _⟩
theorem kind4_any (s : ByteArray) (w : World) : Calls Tryz.prog 270 #[.agg #[.string s]] w fun e w' => e = .returned (.int .i64 4) ∧ Below w.heap.size w w' := by
  go_enter Tryz.func270, Tryz.ntmps270
  go_wp2_with fail
  go_ret
  exact ⟨rfl, (Below.refl _ _).alloc (Nat.le_refl _) _⟩
theorem kind5_any (a : Option Addr) (n c : Nat) (w : World) : Calls Tryz.prog 281 #[.agg #[.slice a n c]] w fun e w' => e = .returned (.int .i64 5) ∧ Below w.heap.size w w' := by
  go_enter Tryz.func281, Tryz.ntmps281
  go_wp2_with fail
  go_ret
  exact ⟨rfl, (Below.refl _ _).alloc (Nat.le_refl _) _⟩
theorem kind6_any (a : Option Addr) (n c : Nat) (a' : Option Addr) (n' c' : Nat) (w : World) : Calls Tryz.prog 272 #[.agg #[.slice a n c, .slice a' n' c']] w fun e w' => e = .returned (.int .i64 6) ∧ Below w.heap.size w w' := by
  go_enter Tryz.func272, Tryz.ntmps272
  go_wp2_with fail
  go_ret
  exact ⟨rfl, (Below.refl _ _).alloc (Nat.le_refl _) _⟩
end Go.Proofs.YtiamkmkbkehldaaGreatDoor

/-
  What the methods kind and parts say; lists of values compared by the library.
-/
namespace Go.Proofs.YtiamkmkbkehldaaGreatDoor
open Go.RowKit
set_option linter.unusedSimpArgs false
set_option linter.unusedVariables false

set_option maxRecDepth 100000 in
set_option maxHeartbeats 1600000 in
theorem compareFunc_any (lo B lo' B' : Nat) (us vs : List VN) (f f' : Nat) (l m : List Int) (it it' : Value) (w : World)
    (h1 : ItemsAt lo B w it l.length (fun j u => ValIs lo B w us f (intAt l j).toNat u)) (h2 : ItemsAt lo' B' w it' m.length (fun j u => ValIs lo' B' w vs f' (intAt m j).toNat u))
    (hlo : lo ≤ B) (hlo' : lo' ≤ B') (hB : B ≤ w.heap.size) (hB' : B' ≤ w.heap.size) (hl : l.length ≤ 80) (hm : m.length ≤ 80)
    (r1 : ∀ j, j < l.length → (intAt l j).toNat < us.length) (r2 : ∀ j, j < m.length → (intAt m j).toNat < vs.length)
    (ih : ∀ (n k : Nat) (v v' : Value) (w : World), n < us.length → k < vs.length → ValIs lo B w us f n v → ValIs lo' B' w vs f' k v' → B ≤ w.heap.size → B' ≤ w.heap.size →
      Calls Tryz.prog 58 #[v, v'] w fun e w' => e = .returned (.int .i64 (ord us vs f n k)) ∧ Below w.heap.size w w') :
    Calls Tryz.prog 117 #[it, it', .func (.func 58) #[] #[]] w fun e w' => e = .returned (.int .i64 (cmpKids (fun a b => ord us vs f a.toNat b.toNat) l m)) ∧ Below w.heap.size w w' := by
  obtain ⟨a1, c1, rfl, hc1⟩ := h1
  obtain ⟨a2, c2, rfl, hc2⟩ := h2
  have HC1 := hideIt hc1
  have HC2 := hideIt hc2
  have R1 := hideIt r1
  have R2 := hideIt r2
  have IH := hideIt ih
  clear hc1 hc2 r1 r2 ih
  go_enter Tryz.func117, Tryz.ntmps117
  go_wp2_with fail
  go_loopw [13] (fun i wr => ∃ k : Nat, k ≤ l.length ∧ i = .int .i64 k ∧ Hid (k ≤ m.length ∧ cmpKids (fun a b => ord us vs f a.toNat b.toNat) (l.drop k) (m.drop k) = cmpKids (fun a b => ord us vs f a.toNat b.toNat) l m) ∧ Below w.heap.size w wr) (fun i _ => l.length - (intOf i).toNat)
  case atStart => exact ⟨0, Nat.zero_le _, rfl, ⟨Nat.zero_le _, by simp⟩, Below.refl _ _⟩
  case round =>
    obtain ⟨k, hk, rfl, HE, hbw⟩ := hrel
    have hsz := hbw.size
    by_cases hlt : k < l.length
    · obtain ⟨b1, rfl, _, l1, d1⟩ := HC1.out (by omega)
      obtain ⟨t1, x1, e1, V1⟩ := d1 k hlt
      have e1' : wr.cell? ⟨b1, k, none⟩ = some (.iface t1 x1) := (below_cell hbw (by omega)).trans e1
      have HV1 := hideIt (ValIs.keep (Keep.of_below (hbw.mono hB)) (Nat.le_refl _) hlo V1)
      clear d1 e1 V1
      by_cases hlm : k < m.length
      · obtain ⟨b2, rfl, _, l2, d2⟩ := HC2.out (by omega)
        obtain ⟨t2, x2, e2, V2⟩ := d2 k hlm
        have e2' : wr.cell? ⟨b2, k, none⟩ = some (.iface t2 x2) := (below_cell hbw (by omega)).trans e2
        have HV2 := hideIt (ValIs.keep (Keep.of_below (hbw.mono hB')) (Nat.le_refl _) hlo' V2)
        clear d2 e2 V2
        have hge : ¬ (m.length : Int) ≤ (k : Int) := by omega
        have HS := hideIt (cmpKids_step (R := fun a b => ord us vs f a.toNat b.toNat) hlt hlm)
        go_wp2_with fail
        refine (IH.out (intAt l k).toNat (intAt m k).toNat _ _ _ (R1.out k hlt) (R2.out k hlm) HV1.out HV2.out (by omega) (by omega)).mono ?_
        rintro e w1 ⟨rfl, hb1⟩
        have HB1 := hideIt (hbw.trans (hb1.mono hsz))
        clear hb1
        obtain ⟨bz, hbz0⟩ : ∃ bz, (ord us vs f (intAt l k).toNat (intAt m k).toNat != 0) = bz := ⟨_, rfl⟩
        cases bz
        · have HZ : Hid (ord us vs f (intAt l k).toNat (intAt m k).toNat = 0) := by simpa [Hid] using hbz0
          go_wp2_with fail
          go_roundw
          case rel => exact ⟨k + 1, by omega, by go_num, ⟨by omega, by rw [← HE.out.2, HS.out]; simp [HZ.out]⟩, HB1.out⟩
          case measure => simp [intOf]; omega
        · have HZ : Hid (¬ ord us vs f (intAt l k).toNat (intAt m k).toNat = 0) := by simpa [Hid] using hbz0
          have HR : Hid (cmpKids (fun a b => ord us vs f a.toNat b.toNat) l m = ord us vs f (intAt l k).toNat (intAt m k).toNat) := by rw [Hid, ← HE.out.2, HS.out]; simp [HZ.out]
          go_wp2_with fail
          go_ret
          exact ⟨ret_int HR.out.symm, HB1.out⟩
      · have HZ : Hid (cmpKids (fun a b => ord us vs f a.toNat b.toNat) l m = 1) := by rw [Hid, ← HE.out.2, cmpKids_more hlt (by omega)]
        have hge : (m.length : Int) ≤ (k : Int) := by omega
        go_wp2_with fail
        go_ret
        exact ⟨ret_int HZ.out.symm, hbw⟩
    · obtain rfl : k = l.length := by omega
      by_cases hlm : l.length < m.length
      · have HZ : Hid (cmpKids (fun a b => ord us vs f a.toNat b.toNat) l m = -1) := by rw [Hid, ← HE.out.2, cmpKids_less (Nat.le_refl _) hlm]
        go_wp2_with fail
        go_ret
        exact ⟨ret_int HZ.out.symm, hbw⟩
      · have HZ : Hid (cmpKids (fun a b => ord us vs f a.toNat b.toNat) l m = 0) := by rw [Hid, ← HE.out.2, cmpKids_end (Nat.le_refl _) (by omega)]
        go_wp2_with fail
        go_ret
        exact ⟨ret_int HZ.out.symm, hbw⟩
end Go.Proofs.YtiamkmkbkehldaaGreatDoor

/-
  impl.compared: two values of unlike kinds.
-/
namespace Go.Proofs.YtiamkmkbkehldaaGreatDoor
open Go.RowKit
set_option linter.unusedSimpArgs false
set_option linter.unusedVariables false

set_option maxRecDepth 100000 in
set_option maxHeartbeats 6400000 in
theorem compared_diff (lo B lo' B' f f' n m : Nat) (us vs : List VN) (v v' : Value) (w : World) (h1 : ValIs lo B w us f n v) (h2 : ValIs lo' B' w vs f' m v') (hne : (nodeAt us n).kind ≠ (nodeAt vs m).kind) :
    Calls Tryz.prog 58 #[v, v'] w fun e w' => e = .returned (.int .i64 (cmpI (nodeAt us n).kind (nodeAt vs m).kind)) ∧ Below w.heap.size w w' := by
  cases f with
  | zero => exact h1.elim
  | succ f =>
  cases f' with
  | zero => exact h2.elim
  | succ f' =>
  rcases h1 with ⟨k1, rfl⟩ | ⟨k1, rfl⟩ | ⟨k1, rfl⟩ | ⟨k1, rfl⟩ | ⟨k1, _, rfl, a1, p1, rfl, _⟩ | ⟨k1, _, _, rfl, ⟨_, _, b1, q1, rfl, _⟩, a1, p1, rfl, _⟩ <;>
  rcases h2 with ⟨k2, rfl⟩ | ⟨k2, rfl⟩ | ⟨k2, rfl⟩ | ⟨k2, rfl⟩ | ⟨k2, _, rfl, a2, p2, rfl, _⟩ | ⟨k2, _, _, rfl, ⟨_, _, b2, q2, rfl, _⟩, a2, p2, rfl, _⟩ <;>
  first
  | exact absurd (k1.trans k2.symm) hne
  | (rw [k1, k2]
     clear hne k1 k2
     go_enter Tryz.func58, Tryz.ntmps58
     go_wp2_with fail
     first | refine (kind1_any _).mono ?_ | refine (kind2_any _ _).mono ?_ | refine (kind3_any _ _).mono ?_ | refine (kind4_any _ _).mono ?_ | refine (kind5_any _ _ _ _).mono ?_ | refine (kind6_any _ _ _ _ _ _ _).mono ?_
     rintro e w1 ⟨rfl, hb1⟩
     go_wp2_with fail
     first | refine (kind1_any _).mono ?_ | refine (kind2_any _ _).mono ?_ | refine (kind3_any _ _).mono ?_ | refine (kind4_any _ _).mono ?_ | refine (kind5_any _ _ _ _).mono ?_ | refine (kind6_any _ _ _ _ _ _ _).mono ?_
     rintro e w2 ⟨rfl, hb2⟩
     go_wp2_with fail
     refine (cmpInt_any _ _ _).mono ?_
     rintro e w3 ⟨rfl, rfl⟩
     go_wp2_with fail
     go_ret
     exact ⟨rfl, hb1.trans (hb2.mono hb1.size)⟩)
end Go.Proofs.YtiamkmkbkehldaaGreatDoor
