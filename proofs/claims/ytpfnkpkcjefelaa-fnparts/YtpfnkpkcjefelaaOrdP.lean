/-
  spec.Order: -2 where one of the two is not right, else the order of their roots.
-/
import Derived.Test.YtpfnkpkcjefelaaSpcOrd
import Derived.Test.YtpfnkpkcjefelaaOrd
namespace Go.Proofs.Ytpfnkpkcjefelaa
open Go.RowKit
set_option linter.unusedSimpArgs false
set_option linter.unusedVariables false

def orderOf (us vs : List VN) : Int := if okB us = true ∧ okB vs = true then ord us vs us.length (us.length - 1) (vs.length - 1) else -2

theorem orderOf_yes {us vs : List VN} (h1 : okB us = true) (h2 : okB vs = true) : orderOf us vs = ord us vs us.length (us.length - 1) (vs.length - 1) := if_pos ⟨h1, h2⟩
theorem orderOf_left {us vs : List VN} (h1 : okB us = false) : orderOf us vs = -2 := if_neg (by simp [h1])
theorem orderOf_right {us vs : List VN} (h2 : okB vs = false) : orderOf us vs = -2 := if_neg (by simp [h2])

set_option maxRecDepth 100000 in
set_option maxHeartbeats 1600000 in
theorem l1Compare_any (B : Nat) (v1 v2 : Value) (us vs : List VN) (w : World) (h : Two B w v1 v2 us vs) (hB : B ≤ w.heap.size) (hu : 1 ≤ us.length ∧ us.length ≤ 80) (hv : 1 ≤ vs.length ∧ vs.length ≤ 80) :
    Calls Try.prog 53 #[v1, v2] w fun e w' => e = .returned (.int .i64 (ord us vs us.length (us.length - 1) (vs.length - 1))) ∧ Below w.heap.size w w' := by
  have H := hideIt h
  obtain ⟨_, a1, c1, rfl, _⟩ := h.n1
  obtain ⟨_, a2, c2, rfl, _⟩ := h.n2
  clear h
  obtain ⟨hu1, hu2⟩ := hu
  obtain ⟨hv1, hv2⟩ := hv
  have e1 : ((us.length : Nat) : Int) - 1 = ((us.length - 1 : Nat) : Int) := by omega
  have e2 : ((vs.length : Nat) : Int) - 1 = ((vs.length - 1 : Nat) : Int) := by omega
  go_enter Try.func53, Try.ntmps53
  go_wp2_with fail
  refine (l1Order_any B _ _ us vs us.length (us.length - 1) (vs.length - 1) _ (by omega) (by omega) (by omega) H.out hB).mono ?_
  rintro e w1 ⟨rfl, hb1⟩
  go_wp2_with fail
  go_ret
  exact ⟨rfl, hb1⟩

set_option maxRecDepth 100000 in
set_option maxHeartbeats 1600000 in
theorem specOrder_any (B : Nat) (v1 v2 : Value) (us vs : List VN) (w : World) (h1 : NodesAt B w v1 us) (h2 : NodesAt B w v2 vs) (hB : B ≤ w.heap.size) :
    Calls Try.prog 16 #[v1, v2] w fun e w' => e = .returned (.int .i64 (orderOf us vs)) ∧ Below w.heap.size w w' := by
  have H1 := hideIt h1
  have H2 := hideIt h2
  obtain ⟨_, a1, c1, rfl, _⟩ := h1
  obtain ⟨_, a2, c2, rfl, _⟩ := h2
  go_enter Try.func16, Try.ntmps16
  go_wp2_with fail
  refine (specOk_any B _ us _ H1.out hB).mono ?_
  rintro e w1 ⟨rfl, hb1⟩
  have z1 := hb1.size
  cases ok1 : okB us
  · have HO := hideIt (orderOf_left (vs := vs) ok1)
    go_wp2_with fail
    go_ret
    exact ⟨ret_int HO.out.symm, hb1⟩
  · go_wp2_with fail
    refine (specOk_any B _ vs _ (H2.out.below (hb1.mono hB)) (by omega)).mono ?_
    rintro e w2 ⟨rfl, hb2⟩
    have HB2 := hideIt (hb1.trans (hb2.mono z1))
    have z2 := hb2.size
    cases ok2 : okB vs
    · have HO := hideIt (orderOf_right (us := us) ok2)
      go_wp2_with fail
      go_ret
      exact ⟨ret_int HO.out.symm, HB2.out⟩
    · have HO := hideIt (orderOf_yes ok1 ok2)
      obtain ⟨p1, q1, _, _⟩ := okB_parts ok1
      obtain ⟨p2, q2, _, _⟩ := okB_parts ok2
      have HT : Hid (Two B w2 (.slice a1 us.length c1) (.slice a2 vs.length c2) us vs) := ⟨H1.out.below (HB2.out.mono hB), H2.out.below (HB2.out.mono hB), q1, q2⟩
      clear q1 q2
      go_wp2_with fail
      refine (l1Compare_any B _ _ us vs _ HT.out (by omega) p1 p2).mono ?_
      rintro e w3 ⟨rfl, hb3⟩
      go_wp2_with fail
      go_ret
      exact ⟨ret_int HO.out.symm, HB2.out.trans (hb3.mono (by omega))⟩
end Go.Proofs.Ytpfnkpkcjefelaa

/-
  The order of values turned round, and of three values. Plain mathematics.
-/
namespace Go.Proofs.Ytpfnkpkcjefelaa
open Go.RowKit
set_option linter.unusedSimpArgs false
set_option linter.unusedVariables false

/-- The first that is not 0. -/
def comb (x y : Int) : Int := if x = 0 then y else x
def R3 (x : Int) : Prop := x = -1 ∨ x = 0 ∨ x = 1
/-- Where the two do not go apart, the third is the first of them that is not 0. -/
def Tri (x y z : Int) : Prop := ¬ (x = 1 ∧ y = -1) → ¬ (x = -1 ∧ y = 1) → z = comb x y

theorem comb_r3 {x y : Int} (hx : R3 x) (hy : R3 y) : R3 (comb x y) := by unfold comb; split <;> assumption
theorem comb_neg (x y : Int) : comb (-x) (-y) = -comb x y := by unfold comb; split <;> split <;> omega

theorem tri_lex {x1 y1 z1 x2 y2 z2 : Int} (hx1 : R3 x1) (hy1 : R3 y1) (hx2 : R3 x2) (hy2 : R3 y2) (h1 : Tri x1 y1 z1) (h2 : Tri x2 y2 z2) : Tri (comb x1 x2) (comb y1 y2) (comb z1 z2) := by
  unfold Tri comb at *
  unfold R3 at *
  intro a b
  rcases hx1 with rfl | rfl | rfl <;> rcases hy1 with rfl | rfl | rfl <;> rcases hx2 with rfl | rfl | rfl <;> rcases hy2 with rfl | rfl | rfl <;> simp at * <;> simp [*]

theorem cmpI_r3 (a b : Int) : R3 (cmpI a b) := cmpI_range a b
theorem cmpI_flip (a b : Int) : cmpI b a = -cmpI a b := by unfold cmpI; split <;> split <;> (try split) <;> omega
theorem cmpI_tri (a b c : Int) : Tri (cmpI a b) (cmpI b c) (cmpI a c) := by
  unfold Tri comb cmpI
  intro h1 h2
  split <;> split <;> (try split) <;> (try split) <;> (try split) <;> (try split) <;> simp_all <;> omega

/-- Lists, by the first that differs, then by how many there are. -/
structure IsLex {α β : Type} (C : List α → List β → Int) (r : α → β → Int) : Prop where
  nn : C [] [] = 0
  nc : ∀ b m, C [] (b :: m) = -1
  cn : ∀ a l, C (a :: l) [] = 1
  cc : ∀ a l b m, C (a :: l) (b :: m) = comb (r a b) (C l m)

theorem lex_r3 {α β : Type} {C : List α → List β → Int} {r : α → β → Int} (h : IsLex C r) (hr : ∀ a b, R3 (r a b)) : ∀ x y, R3 (C x y) := by
  intro x
  induction x with
  | nil => intro y; cases y with
    | nil => rw [h.nn]; exact Or.inr (Or.inl rfl)
    | cons b m => rw [h.nc]; exact Or.inl rfl
  | cons a l ih => intro y; cases y with
    | nil => rw [h.cn]; exact Or.inr (Or.inr rfl)
    | cons b m => rw [h.cc]; exact comb_r3 (hr a b) (ih m)

theorem lex_flip {α β : Type} {C : List α → List β → Int} {C' : List β → List α → Int} {r : α → β → Int} {r' : β → α → Int} (h : IsLex C r) (h' : IsLex C' r') (hf : ∀ a b, r' b a = -r a b) : ∀ x y, C' y x = -C x y := by
  intro x
  induction x with
  | nil => intro y; cases y with
    | nil => rw [h.nn, h'.nn]; rfl
    | cons b m => rw [h.nc, h'.cn]; rfl
  | cons a l ih => intro y; cases y with
    | nil => rw [h.cn, h'.nc]
    | cons b m => rw [h.cc, h'.cc, hf, ih, comb_neg]

theorem lex_tri {α β γ : Type} {C1 : List α → List β → Int} {C2 : List β → List γ → Int} {C3 : List α → List γ → Int} {r1 : α → β → Int} {r2 : β → γ → Int} {r3 : α → γ → Int} (h1 : IsLex C1 r1) (h2 : IsLex C2 r2) (h3 : IsLex C3 r3) (hr1 : ∀ a b, R3 (r1 a b)) (hr2 : ∀ b c, R3 (r2 b c)) (ht : ∀ a b c, Tri (r1 a b) (r2 b c) (r3 a c)) : ∀ x y z, Tri (C1 x y) (C2 y z) (C3 x z) := by
  intro x
  induction x with
  | nil =>
    intro y z
    cases y with
    | nil => cases z with
      | nil => rw [h1.nn, h2.nn, h3.nn]; intro _ _; rfl
      | cons c k => rw [h1.nn, h2.nc, h3.nc]; intro _ _; rfl
    | cons b m => cases z with
      | nil => rw [h1.nc, h2.cn]; intro _ h; exact absurd ⟨rfl, rfl⟩ h
      | cons c k => rw [h1.nc, h3.nc]; intro _ _; rfl
  | cons a l ih =>
    intro y z
    cases y with
    | nil => cases z with
      | nil => rw [h1.cn, h2.nn, h3.cn]; intro _ _; rfl
      | cons c k => rw [h1.cn, h2.nc]; intro h _; exact absurd ⟨rfl, rfl⟩ h
    | cons b m => cases z with
      | nil =>
        rw [h2.cn, h3.cn]
        intro _ h
        rcases lex_r3 h1 hr1 (a :: l) (b :: m) with e | e | e
        · exact absurd ⟨e, rfl⟩ h
        · rw [e]; rfl
        · rw [e]; rfl
      | cons c k =>
        rw [h1.cc, h2.cc, h3.cc]
        exact tri_lex (hr1 a b) (hr2 b c) (lex_r3 h1 hr1 l m) (lex_r3 h2 hr2 m k) (ht a b c) (ih m k)

theorem cmpL_lex : IsLex cmpL (fun a b => cmpI (a.toNat : Int) (b.toNat : Int)) := by
  refine ⟨rfl, fun b m => rfl, fun a l => rfl, fun a l b m => ?_⟩
  rw [cmpL_cons]
  unfold comb cmpI
  simp only [UInt8.lt_iff_toNat_lt]
  split <;> (try split) <;> (try split) <;> (try split) <;> simp_all <;> omega
theorem cmpS_r3 (a b : ByteArray) : R3 (cmpS a b) := cmpL_range _ _
theorem cmpS_flip (a b : ByteArray) : cmpS b a = -cmpS a b := cmpL_flip _ _
theorem cmpS_tri (a b c : ByteArray) : Tri (cmpS a b) (cmpS b c) (cmpS a c) := lex_tri cmpL_lex cmpL_lex cmpL_lex (fun _ _ => cmpI_r3 _ _) (fun _ _ => cmpI_r3 _ _) (fun _ _ _ => cmpI_tri _ _ _) _ _ _

theorem cmpKeys_lex : IsLex cmpKeys cmpS := by
  refine ⟨rfl, fun b m => rfl, fun a l => rfl, fun a l b m => ?_⟩
  rw [cmpKeys]
  unfold comb
  by_cases h : cmpS a b = 0 <;> simp [h]
theorem cmpKids_lex (R : Int → Int → Int) : IsLex (cmpKids R) R := by
  refine ⟨rfl, fun b m => rfl, fun a l => rfl, fun a l b m => ?_⟩
  rw [cmpKids]
  unfold comb
  by_cases h : R a b = 0 <;> simp [h]

theorem ite_comb {p : Prop} [Decidable p] {x y : Int} (h : p ↔ x ≠ 0) : (if p then x else y) = comb x y := by
  unfold comb
  by_cases e : x = 0
  · rw [if_neg (fun hp => h.1 hp e), if_pos e]
  · rw [if_pos (h.2 e), if_neg e]

theorem ord_comb (us vs : List VN) (f n m : Nat) : ord us vs (f + 1) n m = comb (cmpI (nodeAt us n).kind (nodeAt vs m).kind) (comb (cmpI (nodeAt us n).n (nodeAt vs m).n) (comb (cmpS (nodeAt us n).s (nodeAt vs m).s) (comb (cmpKeys (nodeAt us n).keys (nodeAt vs m).keys) (cmpKids (fun a b => ord us vs f a.toNat b.toNat) (nodeAt us n).kids (nodeAt vs m).kids)))) := by
  have hI : ∀ a b : Int, (a ≠ b) ↔ cmpI a b ≠ 0 := fun a b => (not_congr (cmpI_zero a b)).symm
  rw [ord, ite_comb (hI _ _), ite_comb (hI _ _), ite_comb Iff.rfl, ite_comb Iff.rfl]

theorem ord_r3 (us vs : List VN) (f n m : Nat) : R3 (ord us vs f n m) := by
  have := ord_range us vs f n m
  unfold R3; omega

theorem ord_flip (us vs : List VN) : ∀ f n m, ord vs us f m n = -ord us vs f n m := by
  intro f
  induction f with
  | zero => intro n m; rfl
  | succ f ih =>
    intro n m
    rw [ord_comb, ord_comb, cmpI_flip (nodeAt us n).kind, cmpI_flip (nodeAt us n).n, cmpS_flip (nodeAt us n).s, lex_flip cmpKeys_lex cmpKeys_lex cmpS_flip (nodeAt us n).keys, lex_flip (cmpKids_lex (fun a b => ord us vs f a.toNat b.toNat)) (cmpKids_lex (fun a b => ord vs us f a.toNat b.toNat)) (fun a b => ih a.toNat b.toNat) (nodeAt us n).kids]
    simp only [comb_neg]

theorem ord_tri (us vs ws : List VN) : ∀ f n m k, Tri (ord us vs f n m) (ord vs ws f m k) (ord us ws f n k) := by
  intro f
  induction f with
  | zero => intro n m k; intro _ _; rfl
  | succ f ih =>
    intro n m k
    rw [ord_comb, ord_comb, ord_comb]
    have hk1 := lex_r3 cmpKeys_lex cmpS_r3 (nodeAt us n).keys (nodeAt vs m).keys
    have hk2 := lex_r3 cmpKeys_lex cmpS_r3 (nodeAt vs m).keys (nodeAt ws k).keys
    have hd1 := lex_r3 (cmpKids_lex (fun a b => ord us vs f a.toNat b.toNat)) (fun a b => ord_r3 us vs f a.toNat b.toNat) (nodeAt us n).kids (nodeAt vs m).kids
    have hd2 := lex_r3 (cmpKids_lex (fun a b => ord vs ws f a.toNat b.toNat)) (fun a b => ord_r3 vs ws f a.toNat b.toNat) (nodeAt vs m).kids (nodeAt ws k).kids
    refine tri_lex (cmpI_r3 _ _) (cmpI_r3 _ _) (comb_r3 (cmpI_r3 _ _) (comb_r3 (cmpS_r3 _ _) (comb_r3 hk1 hd1))) (comb_r3 (cmpI_r3 _ _) (comb_r3 (cmpS_r3 _ _) (comb_r3 hk2 hd2))) (cmpI_tri _ _ _) ?_
    refine tri_lex (cmpI_r3 _ _) (cmpI_r3 _ _) (comb_r3 (cmpS_r3 _ _) (comb_r3 hk1 hd1)) (comb_r3 (cmpS_r3 _ _) (comb_r3 hk2 hd2)) (cmpI_tri _ _ _) ?_
    refine tri_lex (cmpS_r3 _ _) (cmpS_r3 _ _) (comb_r3 hk1 hd1) (comb_r3 hk2 hd2) (cmpS_tri _ _ _) ?_
    refine tri_lex hk1 hk2 hd1 hd2 (lex_tri cmpKeys_lex cmpKeys_lex cmpKeys_lex cmpS_r3 cmpS_r3 cmpS_tri _ _ _) ?_
    exact lex_tri (cmpKids_lex _) (cmpKids_lex _) (cmpKids_lex _) (fun a b => ord_r3 us vs f a.toNat b.toNat) (fun a b => ord_r3 vs ws f a.toNat b.toNat) (fun a b c => ih a.toNat b.toNat c.toNat) _ _ _

theorem cmpKids_congr {R R' : Int → Int → Int} : ∀ {l m : List Int}, (∀ a ∈ l, ∀ b ∈ m, R a b = R' a b) → cmpKids R l m = cmpKids R' l m := by
  intro l
  induction l with
  | nil => intro m _; cases m <;> rfl
  | cons a l ih =>
    intro m h
    cases m with
    | nil => rfl
    | cons b m =>
      rw [cmpKids, cmpKids, h a (List.mem_cons_self ..) b (List.mem_cons_self ..), ih (fun x hx y hy => h x (List.mem_cons_of_mem _ hx) y (List.mem_cons_of_mem _ hy))]

theorem kid_lt {vs : List VN} (hok : okB vs = true) {n : Nat} (hn : n < vs.length) {a : Int} (ha : a ∈ (nodeAt vs n).kids) : a.toNat < n := by
  obtain ⟨j, hj, e⟩ := List.getElem_of_mem ha
  have := kidsIn_get ((okB_parts hok).2.1 n hn).2 hj
  have e2 : intAt (nodeAt vs n).kids j = a := by unfold intAt; rw [List.getD_eq_getElem?_getD, List.getElem?_eq_getElem hj]; exact e
  rw [e2] at this
  omega

theorem ord_fuel {us vs : List VN} (hok : okB us = true) : ∀ f f' n m, n < f → n < f' → n < us.length → ord us vs f n m = ord us vs f' n m := by
  intro f
  induction f with
  | zero => intro f' n m h; omega
  | succ f ih =>
    intro f' n m h1 h2 hn
    cases f' with
    | zero => omega
    | succ f' =>
      rw [ord_comb, ord_comb]
      congr 4
      exact cmpKids_congr (fun a ha b hb => by
        have := kid_lt hok hn ha
        exact ih f' a.toNat b.toNat (by omega) (by omega) (by omega))

theorem orderOf_at {us vs : List VN} (h1 : okB us = true) (h2 : okB vs = true) {F : Nat} (hF : us.length ≤ F) : orderOf us vs = ord us vs F (us.length - 1) (vs.length - 1) := by
  rw [orderOf_yes h1 h2]
  have := (okB_parts h1).1
  exact ord_fuel h1 _ _ _ _ (by omega) (by omega) (by omega)

theorem orderOf_flip {us vs : List VN} (h1 : okB us = true) (h2 : okB vs = true) : orderOf vs us = -orderOf us vs := by
  rw [orderOf_at h1 h2 (F := us.length + vs.length) (by omega), orderOf_at h2 h1 (F := us.length + vs.length) (by omega)]
  exact ord_flip us vs _ _ _

theorem orderOf_refl {us : List VN} (h1 : okB us = true) : orderOf us us = 0 := by
  have := orderOf_flip h1 h1
  omega

theorem orderOf_r3 {us vs : List VN} (h1 : okB us = true) (h2 : okB vs = true) : R3 (orderOf us vs) := by
  rw [orderOf_yes h1 h2]; exact ord_r3 _ _ _ _ _

/-- What is ahead of one that is ahead is ahead. -/
theorem orderOf_same {us vs ws : List VN} (h1 : okB us = true) (h2 : okB vs = true) (h3 : okB ws = true) (h : orderOf us vs = orderOf vs ws) : orderOf us ws = orderOf us vs := by
  have t := ord_tri us vs ws (us.length + vs.length) (us.length - 1) (vs.length - 1) (ws.length - 1)
  rw [← orderOf_at h1 h2 (by omega), ← orderOf_at h2 h3 (by omega), ← orderOf_at h1 h3 (by omega)] at t
  have := t (by omega) (by omega)
  rw [this, ← h]
  unfold comb
  split <;> rfl
end Go.Proofs.Ytpfnkpkcjefelaa
