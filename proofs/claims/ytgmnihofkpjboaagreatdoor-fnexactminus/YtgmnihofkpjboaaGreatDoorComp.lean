/-
  spec.Order: -2 where one of the two is not right, else the order of their roots.
-/
import Derived.Test.YtgmnihofkpjboaaGreatDoorSpcOrd
import Derived.Test.YtgmnihofkpjboaaGreatDoorCmpD
import Derived.Test.YtgmnihofkpjboaaGreatDoorPartOk
import Derived.Test.YtgmnihofkpjboaaGreatDoorCmpE
namespace Go.Proofs.YtgmnihofkpjboaaGreatDoor
open Go.RowKit
set_option linter.unusedSimpArgs false
set_option linter.unusedVariables false

def orderOf (us vs : List VN) : Int := if okB us = true ∧ okB vs = true then ord us vs us.length (us.length - 1) (vs.length - 1) else -2

theorem orderOf_yes {us vs : List VN} (h1 : okB us = true) (h2 : okB vs = true) : orderOf us vs = ord us vs us.length (us.length - 1) (vs.length - 1) := if_pos ⟨h1, h2⟩
theorem orderOf_left {us vs : List VN} (h1 : okB us = false) : orderOf us vs = -2 := if_neg (by simp [h1])
theorem orderOf_right {us vs : List VN} (h2 : okB vs = false) : orderOf us vs = -2 := if_neg (by simp [h2])

set_option maxRecDepth 100000 in
set_option maxHeartbeats 1600000 in
theorem l1Compare_any (B : Nat) (v1 v2 : Value) (us vs : List VN) (w : World) (h : Two B w v1 v2 us vs) (hB : B ≤ w.heap.size) (hu : 1 ≤ us.length ∧ us.length ≤ 80) (hv : 1 ≤ vs.length ∧ vs.length ≤ 80) :
    Calls Tryz.prog 31 #[v1, v2] w fun e w' => e = .returned (.int .i64 (ord us vs us.length (us.length - 1) (vs.length - 1))) ∧ Below w.heap.size w w' := by
  have H := hideIt h
  obtain ⟨_, a1, c1, rfl, _⟩ := h.n1
  obtain ⟨_, a2, c2, rfl, _⟩ := h.n2
  clear h
  obtain ⟨hu1, hu2⟩ := hu
  obtain ⟨hv1, hv2⟩ := hv
  have e1 : ((us.length : Nat) : Int) - 1 = ((us.length - 1 : Nat) : Int) := by omega
  have e2 : ((vs.length : Nat) : Int) - 1 = ((vs.length - 1 : Nat) : Int) := by omega
  go_enter Tryz.func31, Tryz.ntmps31
  go_wp2_with fail
  refine (l1Order_any B _ _ us vs us.length (us.length - 1) (vs.length - 1) _ (by omega) (by omega) (by omega) H.out hB).mono ?_
  rintro e w1 ⟨rfl, hb1⟩
  go_wp2_with fail
  go_ret
  exact ⟨rfl, hb1⟩

end Go.Proofs.YtgmnihofkpjboaaGreatDoor

/-
  The order of values turned round, and of three values. Plain mathematics.
-/
namespace Go.Proofs.YtgmnihofkpjboaaGreatDoor
open Go.RowKit
set_option linter.unusedSimpArgs false
set_option linter.unusedVariables false

/-- The first that is not 0. -/
def comb (x y : Int) : Int := if x = 0 then y else x
def R3 (x : Int) : Prop := x = -1 ∨ x = 0 ∨ x = 1
/-- Where the two do not go apart, the third is the first of them that is not 0. -/
def Tri (x y z : Int) : Prop := ¬ (x = 1 ∧ y = -1) → ¬ (x = -1 ∧ y = 1) → z = comb x y

theorem comb_r3 {x y : Int} (hx : R3 x) (hy : R3 y) : R3 (comb x y) := by unfold comb; split <;> assumption
theorem comb_neg (x y : Int) : comb (-x) (-y) = -comb x y := by unfold comb; split <;> split <;> omega

theorem tri_lex {x1 y1 z1 x2 y2 z2 : Int} (hx1 : R3 x1) (hy1 : R3 y1) (hx2 : R3 x2) (hy2 : R3 y2) (h1 : Tri x1 y1 z1) (h2 : Tri x2 y2 z2) : Tri (comb x1 x2) (comb y1 y2) (comb z1 z2) := by
  unfold Tri comb at *
  unfold R3 at *
  intro a b
  rcases hx1 with rfl | rfl | rfl <;> rcases hy1 with rfl | rfl | rfl <;> rcases hx2 with rfl | rfl | rfl <;> rcases hy2 with rfl | rfl | rfl <;> simp at * <;> simp [*]

theorem cmpI_r3 (a b : Int) : R3 (cmpI a b) := cmpI_range a b
theorem cmpI_flip (a b : Int) : cmpI b a = -cmpI a b := by unfold cmpI; split <;> split <;> (try split) <;> omega
theorem cmpI_tri (a b c : Int) : Tri (cmpI a b) (cmpI b c) (cmpI a c) := by
  unfold Tri comb cmpI
  intro h1 h2
  split <;> split <;> (try split) <;> (try split) <;> (try split) <;> (try split) <;> simp_all <;> omega

/-- Lists, by the first that differs, then by how many there are. -/
structure IsLex {α β : Type} (C : List α → List β → Int) (r : α → β → Int) : Prop where
  nn : C [] [] = 0
  nc : ∀ b m, C [] (b :: m) = -1
  cn : ∀ a l, C (a :: l) [] = 1
  cc : ∀ a l b m, C (a :: l) (b :: m) = comb (r a b) (C l m)

theorem lex_r3 {α β : Type} {C : List α → List β → Int} {r : α → β → Int} (h : IsLex C r) (hr : ∀ a b, R3 (r a b)) : ∀ x y, R3 (C x y) := by
  intro x
  induction x with
  | nil => intro y; cases y with
    | nil => rw [h.nn]; exact Or.inr (Or.inl rfl)
    | cons b m => rw [h.nc]; exact Or.inl rfl
  | cons a l ih => intro y; cases y with
    | nil => rw [h.cn]; exact Or.inr (Or.inr rfl)
    | cons b m => rw [h.cc]; exact comb_r3 (hr a b) (ih m)

theorem lex_flip {α β : Type} {C : List α → List β → Int} {C' : List β → List α → Int} {r : α → β → Int} {r' : β → α → Int} (h : IsLex C r) (h' : IsLex C' r') (hf : ∀ a b, r' b a = -r a b) : ∀ x y, C' y x = -C x y := by
  intro x
  induction x with
  | nil => intro y; cases y with
    | nil => rw [h.nn, h'.nn]; rfl
    | cons b m => rw [h.nc, h'.cn]; rfl
  | cons a l ih => intro y; cases y with
    | nil => rw [h.cn, h'.nc]
    | cons b m => rw [h.cc, h'.cc, hf, ih, comb_neg]

theorem lex_tri {α β γ : Type} {C1 : List α → List β → Int} {C2 : List β → List γ → Int} {C3 : List α → List γ → Int} {r1 : α → β → Int} {r2 : β → γ → Int} {r3 : α → γ → Int} (h1 : IsLex C1 r1) (h2 : IsLex C2 r2) (h3 : IsLex C3 r3) (hr1 : ∀ a b, R3 (r1 a b)) (hr2 : ∀ b c, R3 (r2 b c)) (ht : ∀ a b c, Tri (r1 a b) (r2 b c) (r3 a c)) : ∀ x y z, Tri (C1 x y) (C2 y z) (C3 x z) := by
  intro x
  induction x with
  | nil =>
    intro y z
    cases y with
    | nil => cases z with
      | nil => rw [h1.nn, h2.nn, h3.nn]; intro _ _; rfl
      | cons c k => rw [h1.nn, h2.nc, h3.nc]; intro _ _; rfl
    | cons b m => cases z with
      | nil => rw [h1.nc, h2.cn]; intro _ h; exact absurd ⟨rfl, rfl⟩ h
      | cons c k => rw [h1.nc, h3.nc]; intro _ _; rfl
  | cons a l ih =>
    intro y z
    cases y with
    | nil => cases z with
      | nil => rw [h1.cn, h2.nn, h3.cn]; intro _ _; rfl
      | cons c k => rw [h1.cn, h2.nc]; intro h _; exact absurd ⟨rfl, rfl⟩ h
    | cons b m => cases z with
      | nil =>
        rw [h2.cn, h3.cn]
        intro _ h
        rcases lex_r3 h1 hr1 (a :: l) (b :: m) with e | e | e
        · exact absurd ⟨e, rfl⟩ h
        · rw [e]; rfl
        · rw [e]; rfl
      | cons c k =>
        rw [h1.cc, h2.cc, h3.cc]
        exact tri_lex (hr1 a b) (hr2 b c) (lex_r3 h1 hr1 l m) (lex_r3 h2 hr2 m k) (ht a b c) (ih m k)

theorem cmpL_lex : IsLex cmpL (fun a b => cmpI (a.toNat : Int) (b.toNat : Int)) := by
  refine ⟨rfl, fun b m => rfl, fun a l => rfl, fun a l b m => ?_⟩
  rw [cmpL_cons]
  unfold comb cmpI
  simp only [UInt8.lt_iff_toNat_lt]
  split <;> (try split) <;> (try split) <;> (try split) <;> simp_all <;> omega
theorem cmpS_r3 (a b : ByteArray) : R3 (cmpS a b) := cmpL_range _ _
theorem cmpS_flip (a b : ByteArray) : cmpS b a = -cmpS a b := cmpL_flip _ _
theorem cmpS_tri (a b c : ByteArray) : Tri (cmpS a b) (cmpS b c) (cmpS a c) := lex_tri cmpL_lex cmpL_lex cmpL_lex (fun _ _ => cmpI_r3 _ _) (fun _ _ => cmpI_r3 _ _) (fun _ _ _ => cmpI_tri _ _ _) _ _ _

theorem cmpKeys_lex : IsLex cmpKeys cmpS := by
  refine ⟨rfl, fun b m => rfl, fun a l => rfl, fun a l b m => ?_⟩
  rw [cmpKeys]
  unfold comb
  by_cases h : cmpS a b = 0 <;> simp [h]
theorem cmpKids_lex (R : Int → Int → Int) : IsLex (cmpKids R) R := by
  refine ⟨rfl, fun b m => rfl, fun a l => rfl, fun a l b m => ?_⟩
  rw [cmpKids]
  unfold comb
  by_cases h : R a b = 0 <;> simp [h]

theorem ite_comb {p : Prop} [Decidable p] {x y : Int} (h : p ↔ x ≠ 0) : (if p then x else y) = comb x y := by
  unfold comb
  by_cases e : x = 0
  · rw [if_neg (fun hp => h.1 hp e), if_pos e]
  · rw [if_pos (h.2 e), if_neg e]

theorem ord_comb (us vs : List VN) (f n m : Nat) : ord us vs (f + 1) n m = comb (cmpI (nodeAt us n).kind (nodeAt vs m).kind) (comb (cmpI (nodeAt us n).n (nodeAt vs m).n) (comb (cmpS (nodeAt us n).s (nodeAt vs m).s) (comb (cmpKeys (nodeAt us n).keys (nodeAt vs m).keys) (cmpKids (fun a b => ord us vs f a.toNat b.toNat) (nodeAt us n).kids (nodeAt vs m).kids)))) := by
  have hI : ∀ a b : Int, (a ≠ b) ↔ cmpI a b ≠ 0 := fun a b => (not_congr (cmpI_zero a b)).symm
  rw [ord, ite_comb (hI _ _), ite_comb (hI _ _), ite_comb Iff.rfl, ite_comb Iff.rfl]

theorem ord_r3 (us vs : List VN) (f n m : Nat) : R3 (ord us vs f n m) := by
  have := ord_range us vs f n m
  unfold R3; omega

theorem ord_flip (us vs : List VN) : ∀ f n m, ord vs us f m n = -ord us vs f n m := by
  intro f
  induction f with
  | zero => intro n m; rfl
  | succ f ih =>
    intro n m
    rw [ord_comb, ord_comb, cmpI_flip (nodeAt us n).kind, cmpI_flip (nodeAt us n).n, cmpS_flip (nodeAt us n).s, lex_flip cmpKeys_lex cmpKeys_lex cmpS_flip (nodeAt us n).keys, lex_flip (cmpKids_lex (fun a b => ord us vs f a.toNat b.toNat)) (cmpKids_lex (fun a b => ord vs us f a.toNat b.toNat)) (fun a b => ih a.toNat b.toNat) (nodeAt us n).kids]
    simp only [comb_neg]

theorem ord_tri (us vs ws : List VN) : ∀ f n m k, Tri (ord us vs f n m) (ord vs ws f m k) (ord us ws f n k) := by
  intro f
  induction f with
  | zero => intro n m k; intro _ _; rfl
  | succ f ih =>
    intro n m k
    rw [ord_comb, ord_comb, ord_comb]
    have hk1 := lex_r3 cmpKeys_lex cmpS_r3 (nodeAt us n).keys (nodeAt vs m).keys
    have hk2 := lex_r3 cmpKeys_lex cmpS_r3 (nodeAt vs m).keys (nodeAt ws k).keys
    have hd1 := lex_r3 (cmpKids_lex (fun a b => ord us vs f a.toNat b.toNat)) (fun a b => ord_r3 us vs f a.toNat b.toNat) (nodeAt us n).kids (nodeAt vs m).kids
    have hd2 := lex_r3 (cmpKids_lex (fun a b => ord vs ws f a.toNat b.toNat)) (fun a b => ord_r3 vs ws f a.toNat b.toNat) (nodeAt vs m).kids (nodeAt ws k).kids
    refine tri_lex (cmpI_r3 _ _) (cmpI_r3 _ _) (comb_r3 (cmpI_r3 _ _) (comb_r3 (cmpS_r3 _ _) (comb_r3 hk1 hd1))) (comb_r3 (cmpI_r3 _ _) (comb_r3 (cmpS_r3 _ _) (comb_r3 hk2 hd2))) (cmpI_tri _ _ _) ?_
    refine tri_lex (cmpI_r3 _ _) (cmpI_r3 _ _) (comb_r3 (cmpS_r3 _ _) (comb_r3 hk1 hd1)) (comb_r3 (cmpS_r3 _ _) (comb_r3 hk2 hd2)) (cmpI_tri _ _ _) ?_
    refine tri_lex (cmpS_r3 _ _) (cmpS_r3 _ _) (comb_r3 hk1 hd1) (comb_r3 hk2 hd2) (cmpS_tri _ _ _) ?_
    refine tri_lex hk1 hk2 hd1 hd2 (lex_tri cmpKeys_lex cmpKeys_lex cmpKeys_lex cmpS_r3 cmpS_r3 cmpS_tri _ _ _) ?_
    exact lex_tri (cmpKids_lex _) (cmpKids_lex _) (cmpKids_lex _) (fun a b => ord_r3 us vs f a.toNat b.toNat) (fun a b => ord_r3 vs ws f a.toNat b.toNat) (fun a b c => ih a.toNat b.toNat c.toNat) _ _ _

theorem cmpKids_congr {R R' : Int → Int → Int} : ∀ {l m : List Int}, (∀ a ∈ l, ∀ b ∈ m, R a b = R' a b) → cmpKids R l m = cmpKids R' l m := by
  intro l
  induction l with
  | nil => intro m _; cases m <;> rfl
  | cons a l ih =>
    intro m h
    cases m with
    | nil => rfl
    | cons b m =>
      rw [cmpKids, cmpKids, h a (List.mem_cons_self ..) b (List.mem_cons_self ..), ih (fun x hx y hy => h x (List.mem_cons_of_mem _ hx) y (List.mem_cons_of_mem _ hy))]

theorem kid_lt {vs : List VN} (hok : okB vs = true) {n : Nat} (hn : n < vs.length) {a : Int} (ha : a ∈ (nodeAt vs n).kids) : a.toNat < n := by
  obtain ⟨j, hj, e⟩ := List.getElem_of_mem ha
  have := kidsIn_get ((okB_parts hok).2.1 n hn).2 hj
  have e2 : intAt (nodeAt vs n).kids j = a := by unfold intAt; rw [List.getD_eq_getElem?_getD, List.getElem?_eq_getElem hj]; exact e
  rw [e2] at this
  omega

theorem ord_fuel {us vs : List VN} (hok : okB us = true) : ∀ f f' n m, n < f → n < f' → n < us.length → ord us vs f n m = ord us vs f' n m := by
  intro f
  induction f with
  | zero => intro f' n m h; omega
  | succ f ih =>
    intro f' n m h1 h2 hn
    cases f' with
    | zero => omega
    | succ f' =>
      rw [ord_comb, ord_comb]
      congr 4
      exact cmpKids_congr (fun a ha b hb => by
        have := kid_lt hok hn ha
        exact ih f' a.toNat b.toNat (by omega) (by omega) (by omega))

theorem orderOf_at {us vs : List VN} (h1 : okB us = true) (h2 : okB vs = true) {F : Nat} (hF : us.length ≤ F) : orderOf us vs = ord us vs F (us.length - 1) (vs.length - 1) := by
  rw [orderOf_yes h1 h2]
  have := (okB_parts h1).1
  exact ord_fuel h1 _ _ _ _ (by omega) (by omega) (by omega)

theorem orderOf_flip {us vs : List VN} (h1 : okB us = true) (h2 : okB vs = true) : orderOf vs us = -orderOf us vs := by
  rw [orderOf_at h1 h2 (F := us.length + vs.length) (by omega), orderOf_at h2 h1 (F := us.length + vs.length) (by omega)]
  exact ord_flip us vs _ _ _

theorem orderOf_refl {us : List VN} (h1 : okB us = true) : orderOf us us = 0 := by
  have := orderOf_flip h1 h1
  omega

theorem orderOf_r3 {us vs : List VN} (h1 : okB us = true) (h2 : okB vs = true) : R3 (orderOf us vs) := by
  rw [orderOf_yes h1 h2]; exact ord_r3 _ _ _ _ _

/-- What is ahead of one that is ahead is ahead. -/
theorem orderOf_same {us vs ws : List VN} (h1 : okB us = true) (h2 : okB vs = true) (h3 : okB ws = true) (h : orderOf us vs = orderOf vs ws) : orderOf us ws = orderOf us vs := by
  have t := ord_tri us vs ws (us.length + vs.length) (us.length - 1) (vs.length - 1) (ws.length - 1)
  rw [← orderOf_at h1 h2 (by omega), ← orderOf_at h2 h3 (by omega), ← orderOf_at h1 h3 (by omega)] at t
  have := t (by omega) (by omega)
  rw [this, ← h]
  unfold comb
  split <;> rfl
end Go.Proofs.YtgmnihofkpjboaaGreatDoor

/-
  Two right values are the same just where their order is 0. Plain mathematics.
-/
namespace Go.Proofs.YtgmnihofkpjboaaGreatDoor
open Go.RowKit
set_option linter.unusedSimpArgs false
set_option linter.unusedVariables false

theorem comb_zero {x y : Int} : comb x y = 0 ↔ x = 0 ∧ y = 0 := by
  unfold comb
  by_cases e : x = 0 <;> simp [e]

theorem cmpKeys_zero (hS : ∀ a b : ByteArray, cmpS a b = 0 → a = b) : ∀ l m, cmpKeys l m = 0 → l = m := by
  intro l
  induction l with
  | nil => intro m h; cases m with
    | nil => rfl
    | cons b m => rw [cmpKeys_lex.nc] at h; omega
  | cons a l ih => intro m h; cases m with
    | nil => rw [cmpKeys_lex.cn] at h; omega
    | cons b m =>
      rw [cmpKeys_lex.cc, comb_zero] at h
      rw [hS a b h.1, ih m h.2]

theorem cmpKids_zero {α : Type} {R : Int → Int → Int} {g g' : Int → α} (hR : ∀ a b, R a b = 0 → g a = g' b) : ∀ l m, cmpKids R l m = 0 → l.map g = m.map g' := by
  intro l
  induction l with
  | nil => intro m h; cases m with
    | nil => rfl
    | cons b m => rw [(cmpKids_lex R).nc] at h; omega
  | cons a l ih => intro m h; cases m with
    | nil => rw [(cmpKids_lex R).cn] at h; omega
    | cons b m =>
      rw [(cmpKids_lex R).cc, comb_zero] at h
      rw [List.map_cons, List.map_cons, hR a b h.1, ih m h.2]

theorem ord_zero (hS : ∀ a b : ByteArray, cmpS a b = 0 → a = b) (us vs : List VN) : ∀ f n m, ord us vs f n m = 0 → treeOf us f n = treeOf vs f m := by
  intro f
  induction f with
  | zero => intro n m _; rfl
  | succ f ih =>
    intro n m h
    rw [ord_comb, comb_zero, comb_zero, comb_zero, comb_zero] at h
    obtain ⟨h1, h2, h3, h4, h5⟩ := h
    rw [treeOf, treeOf, (cmpI_zero _ _).1 h1, (cmpI_zero _ _).1 h2, hS _ _ h3, cmpKeys_zero hS _ _ h4, cmpKids_zero (g := fun k => treeOf us f k.toNat) (g' := fun k => treeOf vs f k.toNat) (fun a b hab => ih a.toNat b.toNat hab) _ _ h5]

theorem cmpS_eq (a b : ByteArray) (h : cmpS a b = 0) : a = b := by
  have e : a.toList = b.toList := (cmpL_zero _ _).1 h
  rw [Lib.toList_data, Lib.toList_data] at e
  rw [← Lib.mk_data a, ← Lib.mk_data b, e]

theorem shift_zeroZ (x : VN) : shiftN 0 x = x := by
  unfold shiftN
  have : x.kids.map (· + (0 : Int)) = x.kids := by
    have : (fun k : Int => k + 0) = id := by funext k; simp
    rw [this, List.map_id]
  rw [this]

/-- The root's part is the whole. -/
theorem part_root {vs : List VN} (hok : okB vs = true) : partOf vs (vs.length - 1) = vs := by
  have hs := (okB_parts hok).1
  have hr : rootB vs = true := by unfold okB at hok; simp only [Bool.and_eq_true] at hok; exact hok.2
  unfold rootB at hr
  split at hr
  · rename_i p e
    simp only [Bool.and_eq_true, decide_eq_true_eq] at hr
    unfold partOf
    rw [e]
    have e0 : trF (some p) = 0 := by show (p.1 : Int) = 0; omega
    rw [e0]
    have e1 : vs.length - 1 + 1 - (0 : Int).toNat = vs.length := by simp; omega
    rw [e1]
    unfold run
    apply List.ext_getElem
    · simp
    · intro j h1 h2
      simp only [List.getElem_map, List.getElem_range', Int.neg_zero]
      rw [shift_zeroZ]
      unfold nodeAt
      rw [List.getD_eq_getElem?_getD, show (0 : Int).toNat + 1 * j = j by simp, List.getElem?_eq_getElem h2]
      rfl
  · cases hr

theorem orderOf_zero {us vs : List VN} (h1 : okB us = true) (h2 : okB vs = true) : orderOf us vs = 0 ↔ us = vs := by
  constructor
  · intro h
    rw [orderOf_at h1 h2 (F := us.length + vs.length) (by omega)] at h
    have ht := ord_zero cmpS_eq us vs _ _ _ h
    have p1 := (okB_parts h1).1
    have p2 := (okB_parts h2).1
    have l1 := (lay_part h1 (f := us.length + vs.length) (m := us.length - 1) (by omega) (by omega)).1
    have l2 := (lay_part h2 (f := us.length + vs.length) (m := vs.length - 1) (by omega) (by omega)).1
    rw [part_root h1] at l1
    rw [part_root h2] at l2
    rw [ht] at l1
    exact l1.symm.trans l2
  · intro h
    subst h
    exact orderOf_refl h1
end Go.Proofs.YtgmnihofkpjboaaGreatDoor

/-
  impl.compared: the order of two right values.
-/
namespace Go.Proofs.YtgmnihofkpjboaaGreatDoor
open Go.RowKit
set_option linter.unusedSimpArgs false
set_option linter.unusedVariables false

/-- What the order asks of the nodes alone. -/
structure FineU (us : List VN) : Prop where
  size : us.length ≤ 80
  nodes : ∀ k, k < us.length → nodeB (nodeAt us k) = true ∧ kidsIn us k = true
  few : ∀ k, k < us.length → (nodeAt us k).kids.length ≤ k

theorem fine_of {us : List VN} (h : okB us = true) : FineU us := by
  obtain ⟨h1, h2, _, h4⟩ := okB_parts h
  exact ⟨h1.2, h2, h4⟩

theorem FineU.kid {us : List VN} (h : FineU us) {n j : Nat} (hn : n < us.length) (hj : j < (nodeAt us n).kids.length) : (intAt (nodeAt us n).kids j).toNat < us.length := by
  have := kidsIn_get (h.nodes n hn).2 hj
  omega

theorem compared_any (us vs : List VN) (hu : FineU us) (hv : FineU vs) (lo B lo' B' : Nat) (hlo : lo ≤ B) (hlo' : lo' ≤ B') : ∀ f f' : Nat, CmpIH lo B lo' B' us vs f f' := by
  intro f
  induction f with
  | zero => intro f' n k v v' w _ _ h; exact h.elim
  | succ f ih =>
    intro f' n k v v' w hn hk h1 h2 hB hB'
    cases f' with
    | zero => exact h2.elim
    | succ f' =>
      have IH := ih f'
      have nx := (hu.nodes n hn).1
      have ny := (hv.nodes k hk).1
      by_cases hne : (nodeAt us n).kind = (nodeAt vs k).kind
      · have f1 := hu.few n hn
        have f2 := hv.few k hk
        have s1 := hu.size
        have s2 := hv.size
        have absurd2 : ∀ {a b : Int}, (nodeAt us n).kind = a → (nodeAt vs k).kind = b → a ≠ b → False := fun e1 e2 h => h (by omega)
        rcases h1 with ⟨k1, rfl⟩ | ⟨k1, rfl⟩ | ⟨k1, rfl⟩ | ⟨k1, rfl⟩ | ⟨k1, it, rfl, i1⟩ | ⟨k1, ks, it, rfl, g1, i1⟩
        · rcases h2 with ⟨k2, rfl⟩ | ⟨k2, _⟩ | ⟨k2, _⟩ | ⟨k2, _⟩ | ⟨k2, _⟩ | ⟨k2, _⟩
          · rw [ord_same nx ny k1 k2]; exact compared_null IH hlo hlo' w hB hB'
          all_goals exact (absurd2 k1 k2 (by decide)).elim
        · rcases h2 with ⟨k2, _⟩ | ⟨k2, rfl⟩ | ⟨k2, _⟩ | ⟨k2, _⟩ | ⟨k2, _⟩ | ⟨k2, _⟩
          · exact (absurd2 k1 k2 (by decide)).elim
          · rw [ord_same nx ny k1 k2]; exact compared_bool _ _ IH hlo hlo' w hB hB'
          all_goals exact (absurd2 k1 k2 (by decide)).elim
        · rcases h2 with ⟨k2, _⟩ | ⟨k2, _⟩ | ⟨k2, rfl⟩ | ⟨k2, _⟩ | ⟨k2, _⟩ | ⟨k2, _⟩
          · exact (absurd2 k1 k2 (by decide)).elim
          · exact (absurd2 k1 k2 (by decide)).elim
          · rw [ord_same nx ny k1 k2]; exact compared_int _ _ IH hlo hlo' w hB hB'
          all_goals exact (absurd2 k1 k2 (by decide)).elim
        · rcases h2 with ⟨k2, _⟩ | ⟨k2, _⟩ | ⟨k2, _⟩ | ⟨k2, rfl⟩ | ⟨k2, _⟩ | ⟨k2, _⟩
          · exact (absurd2 k1 k2 (by decide)).elim
          · exact (absurd2 k1 k2 (by decide)).elim
          · exact (absurd2 k1 k2 (by decide)).elim
          · rw [ord_same nx ny k1 k2]; exact compared_text _ _ IH hlo hlo' w hB hB'
          all_goals exact (absurd2 k1 k2 (by decide)).elim
        · rcases h2 with ⟨k2, _⟩ | ⟨k2, _⟩ | ⟨k2, _⟩ | ⟨k2, _⟩ | ⟨k2, it', rfl, i2⟩ | ⟨k2, _⟩
          · exact (absurd2 k1 k2 (by decide)).elim
          · exact (absurd2 k1 k2 (by decide)).elim
          · exact (absurd2 k1 k2 (by decide)).elim
          · exact (absurd2 k1 k2 (by decide)).elim
          · have hr : ord us vs (f + 1) n k = cmpKids (fun a b => ord us vs f a.toNat b.toNat) (nodeAt us n).kids (nodeAt vs k).kids := by
              rw [ord_same nx ny k1 k2, zeroK nx (by omega), zeroK ny (by omega)]; rfl
            rw [hr]
            exact compared_list _ _ _ _ IH hlo hlo' w hB hB' i1 i2 (by omega) (by omega) (fun j hj => hu.kid hn hj) (fun j hj => hv.kid hk hj)
          · exact (absurd2 k1 k2 (by decide)).elim
        · rcases h2 with ⟨k2, _⟩ | ⟨k2, _⟩ | ⟨k2, _⟩ | ⟨k2, _⟩ | ⟨k2, _⟩ | ⟨k2, ks', it', rfl, g2, i2⟩
          · exact (absurd2 k1 k2 (by decide)).elim
          · exact (absurd2 k1 k2 (by decide)).elim
          · exact (absurd2 k1 k2 (by decide)).elim
          · exact (absurd2 k1 k2 (by decide)).elim
          · exact (absurd2 k1 k2 (by decide)).elim
          · have hr : ord us vs (f + 1) n k = if cmpKeys (nodeAt us n).keys (nodeAt vs k).keys ≠ 0 then cmpKeys (nodeAt us n).keys (nodeAt vs k).keys else cmpKids (fun a b => ord us vs f a.toNat b.toNat) (nodeAt us n).kids (nodeAt vs k).kids := by
              rw [ord_same nx ny k1 k2]; rfl
            rw [hr]
            exact compared_map _ _ _ _ _ _ _ _ IH hlo hlo' w hB hB' g1 g2 i1 i2 (by omega) (by omega) (fun j hj => hu.kid hn hj) (fun j hj => hv.kid hk hj)
      · have hr : ord us vs (f + 1) n k = cmpI (nodeAt us n).kind (nodeAt vs k).kind := by rw [ord, if_pos hne]
        rw [hr]
        exact compared_diff lo B lo' B' (f + 1) (f' + 1) n k us vs v v' w h1 h2 hne
end Go.Proofs.YtgmnihofkpjboaaGreatDoor
