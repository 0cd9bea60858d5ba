/-
  Two right values are the same just where their order is 0. Plain mathematics.
-/
import Derived.Test.YtpfnkpkcjefelaaOrdP
import Derived.Test.YtpfnkpkcjefelaaPartOk
namespace Go.Proofs.Ytpfnkpkcjefelaa
open Go.RowKit
set_option linter.unusedSimpArgs false
set_option linter.unusedVariables false

theorem comb_zero {x y : Int} : comb x y = 0 ↔ x = 0 ∧ y = 0 := by
  unfold comb
  by_cases e : x = 0 <;> simp [e]

theorem cmpKeys_zero (hS : ∀ a b : ByteArray, cmpS a b = 0 → a = b) : ∀ l m, cmpKeys l m = 0 → l = m := by
  intro l
  induction l with
  | nil => intro m h; cases m with
    | nil => rfl
    | cons b m => rw [cmpKeys_lex.nc] at h; omega
  | cons a l ih => intro m h; cases m with
    | nil => rw [cmpKeys_lex.cn] at h; omega
    | cons b m =>
      rw [cmpKeys_lex.cc, comb_zero] at h
      rw [hS a b h.1, ih m h.2]

theorem cmpKids_zero {α : Type} {R : Int → Int → Int} {g g' : Int → α} (hR : ∀ a b, R a b = 0 → g a = g' b) : ∀ l m, cmpKids R l m = 0 → l.map g = m.map g' := by
  intro l
  induction l with
  | nil => intro m h; cases m with
    | nil => rfl
    | cons b m => rw [(cmpKids_lex R).nc] at h; omega
  | cons a l ih => intro m h; cases m with
    | nil => rw [(cmpKids_lex R).cn] at h; omega
    | cons b m =>
      rw [(cmpKids_lex R).cc, comb_zero] at h
      rw [List.map_cons, List.map_cons, hR a b h.1, ih m h.2]

theorem ord_zero (hS : ∀ a b : ByteArray, cmpS a b = 0 → a = b) (us vs : List VN) : ∀ f n m, ord us vs f n m = 0 → treeOf us f n = treeOf vs f m := by
  intro f
  induction f with
  | zero => intro n m _; rfl
  | succ f ih =>
    intro n m h
    rw [ord_comb, comb_zero, comb_zero, comb_zero, comb_zero] at h
    obtain ⟨h1, h2, h3, h4, h5⟩ := h
    rw [treeOf, treeOf, (cmpI_zero _ _).1 h1, (cmpI_zero _ _).1 h2, hS _ _ h3, cmpKeys_zero hS _ _ h4, cmpKids_zero (g := fun k => treeOf us f k.toNat) (g' := fun k => treeOf vs f k.toNat) (fun a b hab => ih a.toNat b.toNat hab) _ _ h5]

theorem cmpS_eq (a b : ByteArray) (h : cmpS a b = 0) : a = b := by
  have e : a.toList = b.toList := (cmpL_zero _ _).1 h
  rw [Lib.toList_data, Lib.toList_data] at e
  rw [← Lib.mk_data a, ← Lib.mk_data b, e]

theorem shift_zeroZ (x : VN) : shiftN 0 x = x := by
  unfold shiftN
  have : x.kids.map (· + (0 : Int)) = x.kids := by
    have : (fun k : Int => k + 0) = id := by funext k; simp
    rw [this, List.map_id]
  rw [this]

/-- The root's part is the whole. -/
theorem part_root {vs : List VN} (hok : okB vs = true) : partOf vs (vs.length - 1) = vs := by
  have hs := (okB_parts hok).1
  have hr : rootB vs = true := by unfold okB at hok; simp only [Bool.and_eq_true] at hok; exact hok.2
  unfold rootB at hr
  split at hr
  · rename_i p e
    simp only [Bool.and_eq_true, decide_eq_true_eq] at hr
    unfold partOf
    rw [e]
    have e0 : trF (some p) = 0 := by show (p.1 : Int) = 0; omega
    rw [e0]
    have e1 : vs.length - 1 + 1 - (0 : Int).toNat = vs.length := by simp; omega
    rw [e1]
    unfold run
    apply List.ext_getElem
    · simp
    · intro j h1 h2
      simp only [List.getElem_map, List.getElem_range', Int.neg_zero]
      rw [shift_zeroZ]
      unfold nodeAt
      rw [List.getD_eq_getElem?_getD, show (0 : Int).toNat + 1 * j = j by simp, List.getElem?_eq_getElem h2]
      rfl
  · cases hr

theorem orderOf_zero {us vs : List VN} (h1 : okB us = true) (h2 : okB vs = true) : orderOf us vs = 0 ↔ us = vs := by
  constructor
  · intro h
    rw [orderOf_at h1 h2 (F := us.length + vs.length) (by omega)] at h
    have ht := ord_zero cmpS_eq us vs _ _ _ h
    have p1 := (okB_parts h1).1
    have p2 := (okB_parts h2).1
    have l1 := (lay_part h1 (f := us.length + vs.length) (m := us.length - 1) (by omega) (by omega)).1
    have l2 := (lay_part h2 (f := us.length + vs.length) (m := vs.length - 1) (by omega) (by omega)).1
    rw [part_root h1] at l1
    rw [part_root h2] at l2
    rw [ht] at l1
    exact l1.symm.trans l2
  · intro h
    subst h
    exact orderOf_refl h1
end Go.Proofs.Ytpfnkpkcjefelaa
