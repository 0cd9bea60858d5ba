/-
  The copies of nodes of filters that the law makes: they lie in new memory and hold what came in.
-/
import Derived.Test.YtbclgogolimbgaaFP
namespace Go.Proofs.Ytbclgogolimbgaa
open Go.RowKit
set_option linter.unusedSimpArgs false
set_option linter.unusedVariables false

theorem OwnAt.other {w : World} {b : Nat} {vs : List VN} {KB KI : Nat → Nat} (h : OwnAt w b vs KB KI) {c o : Nat} (hc : c < b) (v : Value) : OwnAt (w.setCell ⟨c, o, none⟩ v) b vs KB KI :=
  ⟨h.row.setOther (ne_blk (by omega)) _, ⟨h.to.lo, fun i hi => (h.to.rk i hi).setOther (ne_blk (by have := h.to.lo i hi; omega)) _, fun i hi => (h.to.ri i hi).setOther (ne_blk (by have := h.to.lo i hi; omega)) _, h.to.mono⟩⟩

/-- The rows of one node in new memory, from block lo on. -/
structure OwnF (w : World) (x : FN) (lo bc : Nat) (KB KI : Nat → Nat) (bk bi : Nat) : Prop where
  lc : lo ≤ bc
  lk : lo ≤ bk
  li : lo ≤ bi
  own : OwnAt w bc x.cst KB KI
  rk : w.rowIs bk 9 x.names.length (fun j => .string (keyAt x.names j))
  ri : w.rowIs bi 2 x.kids.length (fun j => .int .i64 (intAt x.kids j))

theorem OwnF.below {w w' : World} {x : FN} {lo bc : Nat} {KB KI : Nat → Nat} {bk bi : Nat} (h : OwnF w x lo bc KB KI bk bi) (hb : Below w.heap.size w w') : OwnF w' x lo bc KB KI bk bi :=
  ⟨h.lc, h.lk, h.li, h.own.below hb, rowIs_below h.rk hb h.rk.lt, rowIs_below h.ri hb h.ri.lt⟩

theorem OwnF.other {w : World} {x : FN} {lo bc : Nat} {KB KI : Nat → Nat} {bk bi c o : Nat} (h : OwnF w x lo bc KB KI bk bi) (hc : c < lo) (v : Value) : OwnF (w.setCell ⟨c, o, none⟩ v) x lo bc KB KI bk bi :=
  ⟨h.lc, h.lk, h.li, h.own.other (by have := h.lc; omega) v, h.rk.setOther (ne_blk (by have := h.lk; omega)) _, h.ri.setOther (ne_blk (by have := h.li; omega)) _⟩

theorem OwnF.lower {w : World} {x : FN} {lo lo' bc : Nat} {KB KI : Nat → Nat} {bk bi : Nat} (h : OwnF w x lo bc KB KI bk bi) (hl : lo' ≤ lo) : OwnF w x lo' bc KB KI bk bi :=
  ⟨by have := h.lc; omega, by have := h.lk; omega, by have := h.li; omega, h.own, h.rk, h.ri⟩

def sl (b n : Nat) : Value := .slice (some ⟨b, 0, none⟩) n n

theorem OwnF.inn {w : World} {x : FN} {lo bc : Nat} {KB KI : Nat → Nat} {bk bi : Nat} (h : OwnF w x lo bc KB KI bk bi) {B0 : Nat} {w0 : World} {kc kn ki : Value} (h0 : FNodeIn B0 w0 x kc kn ki) : FNodeIn w.heap.size w x (sl bc x.cst.length) (sl bk x.names.length) (sl bi x.kids.length) :=
  ⟨h.own.nodes h0.cst.1 h0.cst.fits, rowStrs h.rk h0.names.1 h0.names.2.1 _ h.rk.lt, rowInts h.ri h0.kids.1 h0.kids.2.1 _ h.ri.lt, h0.size, h0.klo, h0.khi, h0.nlo, h0.nhi⟩

set_option maxRecDepth 100000 in
set_option maxHeartbeats 3200000 in
theorem toFNode_any (B : Nat) (x : FN) (kc kn ki : Value) (w : World) (h : FNodeIn B w x kc kn ki) (hB : B ≤ w.heap.size) :
    Calls Try.prog 68 #[.agg #[.int .i64 x.kind, .string x.name, .int .i64 x.place, kc, kn, ki]] w fun e w' => ∃ (bc : Nat) (KB KI : Nat → Nat) (bk bi : Nat),
      e = .returned (.agg #[.int .i64 x.kind, .string x.name, .int .i64 x.place, .slice (some ⟨bc, 0, none⟩) x.cst.length x.cst.length, .slice (some ⟨bk, 0, none⟩) x.names.length x.names.length, .slice (some ⟨bi, 0, none⟩) x.kids.length x.kids.length]) ∧
      OwnF w' x w.heap.size bc KB KI bk bi ∧ Below w.heap.size w w' := by
  have H := hideIt h
  obtain ⟨_, a0, c0, e0, _⟩ := h.cst
  obtain ⟨_, _, a1, c1, e1, _⟩ := h.names
  obtain ⟨_, _, a2, c2, e2, _⟩ := h.kids
  subst e0 e1 e2
  clear h
  have hbA : ∀ o1 o2 o3 : Obj, Below w.heap.size w (((w.alloc o1).alloc o2).alloc o3) := fun o1 o2 o3 => (((Below.refl _ _).alloc (Nat.le_refl _) _).alloc (by simp) _).alloc (by simp; omega) _
  go_enter Try.func68, Try.ntmps68
  go_wp2_with fail
  refine (toVNodeS_any B _ x.cst _ (H.out.cst.below ((hbA _ _ _).mono hB)) (by simp; omega)).mono ?_
  rintro e w1 ⟨KB, KI, rfl, ho1, hb1⟩
  obtain ⟨hc1, hf1⟩ := bcell hb1
  have hz1 := hb1.size
  have hB1 : Below w.heap.size w w1 := (hbA _ _ _).trans (hb1.mono (by simp; omega))
  simp only [World.size_alloc] at hc1 hf1 hz1 ho1
  have hlt1 := ho1.row.lt
  have HO1 := hideIt ho1
  have HB1 := hideIt hB1
  clear ho1 hB1 hb1
  have y0 : w.heap.size < w.heap.size + 1 + 1 + 1 := by omega
  have y1 : w.heap.size + 1 < w.heap.size + 1 + 1 + 1 := by omega
  have y2 : w.heap.size + 1 + 1 < w.heap.size + 1 + 1 + 1 := by omega
  go_wp2_with fail
  refine (toStringS_any B _ x.names _ (H.out.names.below ((HB1.out.setCell (by simp; omega) _).mono hB)) (by simp; omega)).mono ?_
  rintro e w2 ⟨rfl, hrow2, hb2⟩
  obtain ⟨hc2, hf2⟩ := bcell hb2
  have hz2 := hb2.size
  have hB2 : Below w.heap.size w w2 := (HB1.out.setCell (by simp; omega) _).trans (hb2.mono (by simp; omega))
  have hO2 := (HO1.out.other (c := w.heap.size + 1 + 1) (by omega) _).below hb2
  simp only [World.size_setCell] at hc2 hf2 hz2 hrow2
  have hlt2 := hrow2.lt
  have HO2 := hideIt hO2
  have HB2 := hideIt hB2
  have HR2 := hideIt hrow2
  clear hO2 hB2 hb2 hrow2
  have y3 : w.heap.size < w1.heap.size := by omega
  have y4 : w.heap.size + 1 < w1.heap.size := by omega
  have y5 : w.heap.size + 1 + 1 < w1.heap.size := by omega
  go_wp2_with fail
  refine (toInt64S_any B _ x.kids _ (H.out.kids.below ((HB2.out.setCell (by simp; omega) _).mono hB)) (by simp; omega)).mono ?_
  rintro e w3 ⟨rfl, hrow3, hb3⟩
  obtain ⟨hc3, hf3⟩ := bcell hb3
  have hz3 := hb3.size
  have hB3 : Below w.heap.size w w3 := (HB2.out.setCell (by simp; omega) _).trans (hb3.mono (by simp; omega))
  have hO3 := (HO2.out.other (c := w.heap.size + 1 + 1) (by omega) _).below hb3
  have hR2 := rowIs_below (HR2.out.setOther (ne_blk (show w1.heap.size ≠ w.heap.size + 1 + 1 by omega)) _) hb3 (by simp; omega)
  simp only [World.size_setCell] at hc3 hf3 hz3 hrow3
  have hlt3 := hrow3.lt
  have HOF : Hid (OwnF w3 x (w.heap.size + 1 + 1 + 1) (w.heap.size + 1 + 1 + 1) KB KI w1.heap.size w2.heap.size) := ⟨by omega, by omega, by omega, hO3, hR2, hrow3⟩
  have HB3 := hideIt hB3
  clear hO3 hB3 hb3 hR2 hrow3
  have y6 : w.heap.size < w2.heap.size := by omega
  have y7 : w.heap.size + 1 < w2.heap.size := by omega
  have y8 : w.heap.size + 1 + 1 < w2.heap.size := by omega
  go_wp2_with fail
  refine bodyPost_ret (v := .agg #[.int .i64 x.kind, .string x.name, .int .i64 x.place, .slice (some ⟨w.heap.size + 1 + 1 + 1, 0, none⟩) x.cst.length x.cst.length, .slice (some ⟨w1.heap.size, 0, none⟩) x.names.length x.names.length, .slice (some ⟨w2.heap.size, 0, none⟩) x.kids.length x.kids.length]) (by simp [results, Try.results68, go_sem, hc3, hc2, hc1, y1, y4, y7]) rfl ⟨w.heap.size + 1 + 1 + 1, KB, KI, w1.heap.size, w2.heap.size, rfl, ?_, ?_⟩
  · refine OwnF.lower (lo := w.heap.size + 1 + 1 + 1) ?_ (by omega)
    refine OwnF.other ?_ (by omega) _
    refine OwnF.other ?_ (by omega) _
    refine OwnF.other ?_ (by omega) _
    refine OwnF.other ?_ (by omega) _
    refine OwnF.other ?_ (by omega) _
    refine OwnF.other ?_ (by omega) _
    refine OwnF.other ?_ (by omega) _
    exact HOF.out
  · refine Below.setCell (Below.setCell (Below.setCell (Below.setCell (Below.setCell (Below.setCell (Below.setCell HB3.out ?_ _) ?_ _) ?_ _) ?_ _) ?_ _) ?_ _) ?_ _ <;> simp <;> omega
end Go.Proofs.Ytbclgogolimbgaa
