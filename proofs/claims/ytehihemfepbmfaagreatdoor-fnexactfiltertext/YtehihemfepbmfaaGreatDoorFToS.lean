/-
  The copies of nodes of filters that the law makes: they lie in new memory and hold what came in.
-/
import Derived.Test.YtehihemfepbmfaaGreatDoorFP
namespace Go.Proofs.YtehihemfepbmfaaGreatDoor
open Go.RowKit
set_option linter.unusedSimpArgs false
set_option linter.unusedVariables false

theorem OwnAt.other {w : World} {b : Nat} {vs : List VN} {KB KI : Nat → Nat} (h : OwnAt w b vs KB KI) {c o : Nat} (hc : c < b) (v : Value) : OwnAt (w.setCell ⟨c, o, none⟩ v) b vs KB KI :=
  ⟨h.row.setOther (ne_blk (by omega)) _, ⟨h.to.lo, fun i hi => (h.to.rk i hi).setOther (ne_blk (by have := h.to.lo i hi; omega)) _, fun i hi => (h.to.ri i hi).setOther (ne_blk (by have := h.to.lo i hi; omega)) _, h.to.mono⟩⟩

/-- The rows of one node in new memory, from block lo on. -/
structure OwnF (w : World) (x : FN) (lo bc : Nat) (KB KI : Nat → Nat) (bk bi : Nat) : Prop where
  lc : lo ≤ bc
  lk : lo ≤ bk
  li : lo ≤ bi
  own : OwnAt w bc x.cst KB KI
  rk : w.rowIs bk 9 x.names.length (fun j => .string (keyAt x.names j))
  ri : w.rowIs bi 2 x.kids.length (fun j => .int .i64 (intAt x.kids j))

theorem OwnF.below {w w' : World} {x : FN} {lo bc : Nat} {KB KI : Nat → Nat} {bk bi : Nat} (h : OwnF w x lo bc KB KI bk bi) (hb : Below w.heap.size w w') : OwnF w' x lo bc KB KI bk bi :=
  ⟨h.lc, h.lk, h.li, h.own.below hb, rowIs_below h.rk hb h.rk.lt, rowIs_below h.ri hb h.ri.lt⟩

theorem OwnF.other {w : World} {x : FN} {lo bc : Nat} {KB KI : Nat → Nat} {bk bi c o : Nat} (h : OwnF w x lo bc KB KI bk bi) (hc : c < lo) (v : Value) : OwnF (w.setCell ⟨c, o, none⟩ v) x lo bc KB KI bk bi :=
  ⟨h.lc, h.lk, h.li, h.own.other (by have := h.lc; omega) v, h.rk.setOther (ne_blk (by have := h.lk; omega)) _, h.ri.setOther (ne_blk (by have := h.li; omega)) _⟩

theorem OwnF.lower {w : World} {x : FN} {lo lo' bc : Nat} {KB KI : Nat → Nat} {bk bi : Nat} (h : OwnF w x lo bc KB KI bk bi) (hl : lo' ≤ lo) : OwnF w x lo' bc KB KI bk bi :=
  ⟨by have := h.lc; omega, by have := h.lk; omega, by have := h.li; omega, h.own, h.rk, h.ri⟩

def sl (b n : Nat) : Value := .slice (some ⟨b, 0, none⟩) n n

theorem OwnF.inn {w : World} {x : FN} {lo bc : Nat} {KB KI : Nat → Nat} {bk bi : Nat} (h : OwnF w x lo bc KB KI bk bi) {B0 : Nat} {w0 : World} {kc kn ki : Value} (h0 : FNodeIn B0 w0 x kc kn ki) : FNodeIn w.heap.size w x (sl bc x.cst.length) (sl bk x.names.length) (sl bi x.kids.length) :=
  ⟨h.own.nodes h0.cst.1 h0.cst.fits, rowStrs h.rk h0.names.1 h0.names.2.1 _ h.rk.lt, rowInts h.ri h0.kids.1 h0.kids.2.1 _ h.ri.lt, h0.size, h0.klo, h0.khi, h0.nlo, h0.nhi⟩

set_option maxRecDepth 100000 in
set_option maxHeartbeats 3200000 in
theorem toFNode_any (B : Nat) (x : FN) (kc kn ki : Value) (w : World) (h : FNodeIn B w x kc kn ki) (hB : B ≤ w.heap.size) :
    Calls Tryz.prog 46 #[.agg #[.int .i64 x.kind, .string x.name, .int .i64 x.place, kc, kn, ki]] w fun e w' => ∃ (bc : Nat) (KB KI : Nat → Nat) (bk bi : Nat),
      e = .returned (.agg #[.int .i64 x.kind, .string x.name, .int .i64 x.place, .slice (some ⟨bc, 0, none⟩) x.cst.length x.cst.length, .slice (some ⟨bk, 0, none⟩) x.names.length x.names.length, .slice (some ⟨bi, 0, none⟩) x.kids.length x.kids.length]) ∧
      OwnF w' x w.heap.size bc KB KI bk bi ∧ Below w.heap.size w w' := by
  have H := hideIt h
  obtain ⟨_, a0, c0, e0, _⟩ := h.cst
  obtain ⟨_, _, a1, c1, e1, _⟩ := h.names
  obtain ⟨_, _, a2, c2, e2, _⟩ := h.kids
  subst e0 e1 e2
  clear h
  have hbA : ∀ o1 o2 o3 : Obj, Below w.heap.size w (((w.alloc o1).alloc o2).alloc o3) := fun o1 o2 o3 => (((Below.refl _ _).alloc (Nat.le_refl _) _).alloc (by simp) _).alloc (by simp; omega) _
  go_enter Tryz.func46, Tryz.ntmps46
  go_wp2_with fail
  refine (toVNodeS_any B _ x.cst _ (H.out.cst.below ((hbA _ _ _).mono hB)) (by simp; omega)).mono ?_
  rintro e w1 ⟨KB, KI, rfl, ho1, hb1⟩
  obtain ⟨hc1, hf1⟩ := bcell hb1
  have hz1 := hb1.size
  have hB1 : Below w.heap.size w w1 := (hbA _ _ _).trans (hb1.mono (by simp; omega))
  simp only [World.size_alloc] at hc1 hf1 hz1 ho1
  have hlt1 := ho1.row.lt
  have HO1 := hideIt ho1
  have HB1 := hideIt hB1
  clear ho1 hB1 hb1
  have y0 : w.heap.size < w.heap.size + 1 + 1 + 1 := by omega
  have y1 : w.heap.size + 1 < w.heap.size + 1 + 1 + 1 := by omega
  have y2 : w.heap.size + 1 + 1 < w.heap.size + 1 + 1 + 1 := by omega
  go_wp2_with fail
  refine (toStringS_any B _ x.names _ (H.out.names.below ((HB1.out.setCell (by simp; omega) _).mono hB)) (by simp; omega)).mono ?_
  rintro e w2 ⟨rfl, hrow2, hb2⟩
  obtain ⟨hc2, hf2⟩ := bcell hb2
  have hz2 := hb2.size
  have hB2 : Below w.heap.size w w2 := (HB1.out.setCell (by simp; omega) _).trans (hb2.mono (by simp; omega))
  have hO2 := (HO1.out.other (c := w.heap.size + 1 + 1) (by omega) _).below hb2
  simp only [World.size_setCell] at hc2 hf2 hz2 hrow2
  have hlt2 := hrow2.lt
  have HO2 := hideIt hO2
  have HB2 := hideIt hB2
  have HR2 := hideIt hrow2
  clear hO2 hB2 hb2 hrow2
  have y3 : w.heap.size < w1.heap.size := by omega
  have y4 : w.heap.size + 1 < w1.heap.size := by omega
  have y5 : w.heap.size + 1 + 1 < w1.heap.size := by omega
  go_wp2_with fail
  refine (toInt64S_any B _ x.kids _ (H.out.kids.below ((HB2.out.setCell (by simp; omega) _).mono hB)) (by simp; omega)).mono ?_
  rintro e w3 ⟨rfl, hrow3, hb3⟩
  obtain ⟨hc3, hf3⟩ := bcell hb3
  have hz3 := hb3.size
  have hB3 : Below w.heap.size w w3 := (HB2.out.setCell (by simp; omega) _).trans (hb3.mono (by simp; omega))
  have hO3 := (HO2.out.other (c := w.heap.size + 1 + 1) (by omega) _).below hb3
  have hR2 := rowIs_below (HR2.out.setOther (ne_blk (show w1.heap.size ≠ w.heap.size + 1 + 1 by omega)) _) hb3 (by simp; omega)
  simp only [World.size_setCell] at hc3 hf3 hz3 hrow3
  have hlt3 := hrow3.lt
  have HOF : Hid (OwnF w3 x (w.heap.size + 1 + 1 + 1) (w.heap.size + 1 + 1 + 1) KB KI w1.heap.size w2.heap.size) := ⟨by omega, by omega, by omega, hO3, hR2, hrow3⟩
  have HB3 := hideIt hB3
  clear hO3 hB3 hb3 hR2 hrow3
  have y6 : w.heap.size < w2.heap.size := by omega
  have y7 : w.heap.size + 1 < w2.heap.size := by omega
  have y8 : w.heap.size + 1 + 1 < w2.heap.size := by omega
  go_wp2_with fail
  refine bodyPost_ret (v := .agg #[.int .i64 x.kind, .string x.name, .int .i64 x.place, .slice (some ⟨w.heap.size + 1 + 1 + 1, 0, none⟩) x.cst.length x.cst.length, .slice (some ⟨w1.heap.size, 0, none⟩) x.names.length x.names.length, .slice (some ⟨w2.heap.size, 0, none⟩) x.kids.length x.kids.length]) (by simp [results, Tryz.results46, go_sem, hc3, hc2, hc1, y1, y4, y7]) rfl ⟨w.heap.size + 1 + 1 + 1, KB, KI, w1.heap.size, w2.heap.size, rfl, ?_, ?_⟩
  · refine OwnF.lower (lo := w.heap.size + 1 + 1 + 1) ?_ (by omega)
    refine OwnF.other ?_ (by omega) _
    refine OwnF.other ?_ (by omega) _
    refine OwnF.other ?_ (by omega) _
    refine OwnF.other ?_ (by omega) _
    refine OwnF.other ?_ (by omega) _
    refine OwnF.other ?_ (by omega) _
    refine OwnF.other ?_ (by omega) _
    exact HOF.out
  · refine Below.setCell (Below.setCell (Below.setCell (Below.setCell (Below.setCell (Below.setCell (Below.setCell HB3.out ?_ _) ?_ _) ?_ _) ?_ _) ?_ _) ?_ _) ?_ _ <;> simp <;> omega
end Go.Proofs.YtehihemfepbmfaaGreatDoor

/-
  The copy of all nodes of a filter: it lies in new memory and holds what came in.
-/
namespace Go.Proofs.YtehihemfepbmfaaGreatDoor
open Go.RowKit
set_option linter.unusedSimpArgs false
set_option linter.unusedVariables false

def zeroFNode : Value := .agg #[.int .i64 0, .string ByteArray.empty, .int .i64 0, .slice none 0 0, .slice none 0 0, .slice none 0 0]
theorem infoFNode : (Tryz.prog.info? 51).map (fun i => (i.zero, i.size, i.bytes)) = some (some zeroFNode, 6, 104) := by kernel_rfl

def madeFNodes (n : Nat) : Array Value := madeCells zeroFNode.cells (n * 6)
theorem size_madeFNodes (n : Nat) : (madeFNodes n).size = n * 6 := size_madeCells _ _

theorem run_make_fnodes (n : Nat) (hb : 104 * n ≤ 281474976710656) (w : World) :
    (Instr.makeSlice 24 (.int .i64 (n : Int)) (.int .i64 (n : Int))).run Tryz.prog w = .ok (.slice (some ⟨w.heap.size, 0, none⟩) n n) (w.alloc (.cells (madeFNodes n) 51)) := by
  obtain ⟨i, hi, hzz⟩ := Option.map_eq_some_iff.1 infoFNode
  simp only [Prod.mk.injEq] at hzz
  obtain ⟨hz, hs, hby⟩ := hzz
  have hr := run_make (P := Tryz.prog) w 24 51 i zeroFNode Tryz.underlying24 hi hz .i64 .i64 n n (by omega) (Int.le_refl _) (by rw [hby]; omega) (by omega)
  simp only [Int.toNat_natCast, hs] at hr
  exact hr

/-- Where the rows of a node lie. -/
structure FBq where
  bc : Nat
  kb : Nat → Nat
  ki : Nat → Nat
  bk : Nat
  bi : Nat

def fCell (fs : List FN) (Q : Nat → FBq) (j : Nat) : Value :=
  if j % 6 = 0 then .int .i64 (fnAt fs (j / 6)).kind
  else if j % 6 = 1 then .string (fnAt fs (j / 6)).name
  else if j % 6 = 2 then .int .i64 (fnAt fs (j / 6)).place
  else if j % 6 = 3 then .slice (some ⟨(Q (j / 6)).bc, 0, none⟩) (fnAt fs (j / 6)).cst.length (fnAt fs (j / 6)).cst.length
  else if j % 6 = 4 then .slice (some ⟨(Q (j / 6)).bk, 0, none⟩) (fnAt fs (j / 6)).names.length (fnAt fs (j / 6)).names.length
  else .slice (some ⟨(Q (j / 6)).bi, 0, none⟩) (fnAt fs (j / 6)).kids.length (fnAt fs (j / 6)).kids.length

theorem fCell0 (fs : List FN) (Q : Nat → FBq) (i : Nat) : fCell fs Q (i * 6) = .int .i64 (fnAt fs i).kind := by
  unfold fCell
  rw [if_pos (by omega), show i * 6 / 6 = i by omega]
theorem fCell1 (fs : List FN) (Q : Nat → FBq) (i : Nat) : fCell fs Q (i * 6 + 1) = .string (fnAt fs i).name := by
  unfold fCell
  rw [if_neg (by omega), if_pos (by omega), show (i * 6 + 1) / 6 = i by omega]
theorem fCell2 (fs : List FN) (Q : Nat → FBq) (i : Nat) : fCell fs Q (i * 6 + 2) = .int .i64 (fnAt fs i).place := by
  unfold fCell
  rw [if_neg (by omega), if_neg (by omega), if_pos (by omega), show (i * 6 + 2) / 6 = i by omega]
theorem fCell3 (fs : List FN) (Q : Nat → FBq) (i : Nat) : fCell fs Q (i * 6 + 3) = .slice (some ⟨(Q i).bc, 0, none⟩) (fnAt fs i).cst.length (fnAt fs i).cst.length := by
  unfold fCell
  rw [if_neg (by omega), if_neg (by omega), if_neg (by omega), if_pos (by omega), show (i * 6 + 3) / 6 = i by omega]
theorem fCell4 (fs : List FN) (Q : Nat → FBq) (i : Nat) : fCell fs Q (i * 6 + 4) = .slice (some ⟨(Q i).bk, 0, none⟩) (fnAt fs i).names.length (fnAt fs i).names.length := by
  unfold fCell
  rw [if_neg (by omega), if_neg (by omega), if_neg (by omega), if_neg (by omega), if_pos (by omega), show (i * 6 + 4) / 6 = i by omega]
theorem fCell5 (fs : List FN) (Q : Nat → FBq) (i : Nat) : fCell fs Q (i * 6 + 5) = .slice (some ⟨(Q i).bi, 0, none⟩) (fnAt fs i).kids.length (fnAt fs i).kids.length := by
  unfold fCell
  rw [if_neg (by omega), if_neg (by omega), if_neg (by omega), if_neg (by omega), if_neg (by omega), show (i * 6 + 5) / 6 = i by omega]

def fillF (fs : List FN) (Q : Nat → FBq) (z : Nat → Value) (k j : Nat) : Value := if j < k * 6 then fCell fs Q j else z j
def updB (Q : Nat → FBq) (k : Nat) (q : FBq) (i : Nat) : FBq := if i = k then q else Q i
theorem updB_same (Q : Nat → FBq) (k : Nat) (q : FBq) : updB Q k q k = q := if_pos rfl
theorem updB_other (Q : Nat → FBq) {k i : Nat} (q : FBq) (h : i ≠ k) : updB Q k q i = Q i := if_neg h

theorem fCell_upd {fs : List FN} {Q : Nat → FBq} {k j : Nat} {q : FBq} (h : j < k * 6) : fCell fs (updB Q k q) j = fCell fs Q j := by
  unfold fCell
  simp only [updB_other Q q (show j / 6 ≠ k by omega)]

theorem fillF_step {w : World} {b t m k : Nat} {fs : List FN} {Q : Nat → FBq} {z : Nat → Value} (q : FBq) (h : w.rowIs b t m (fillF fs Q z k)) :
    ((((((w.setCell ⟨b, k * 6, none⟩ (.int .i64 (fnAt fs k).kind)).setCell ⟨b, k * 6 + 1, none⟩ (.string (fnAt fs k).name)).setCell ⟨b, k * 6 + 2, none⟩ (.int .i64 (fnAt fs k).place)).setCell ⟨b, k * 6 + 3, none⟩
      (.slice (some ⟨q.bc, 0, none⟩) (fnAt fs k).cst.length (fnAt fs k).cst.length)).setCell ⟨b, k * 6 + 4, none⟩ (.slice (some ⟨q.bk, 0, none⟩) (fnAt fs k).names.length (fnAt fs k).names.length)).setCell ⟨b, k * 6 + 5, none⟩ (.slice (some ⟨q.bi, 0, none⟩) (fnAt fs k).kids.length (fnAt fs k).kids.length)).rowIs b t m
      (fillF fs (updB Q k q) z (k + 1)) := by
  refine ((((((h.set (k * 6) _).set (k * 6 + 1) _).set (k * 6 + 2) _).set (k * 6 + 3) _).set (k * 6 + 4) _).set (k * 6 + 5) _).congr fun j _ => ?_
  by_cases e5 : j = k * 6 + 5
  · subst e5
    rw [if_pos rfl, fillF, if_pos (by omega), fCell5, updB_same]
  rw [if_neg e5]
  by_cases e4 : j = k * 6 + 4
  · subst e4
    rw [if_pos rfl, fillF, if_pos (by omega), fCell4, updB_same]
  rw [if_neg e4]
  by_cases e3 : j = k * 6 + 3
  · subst e3
    rw [if_pos rfl, fillF, if_pos (by omega), fCell3, updB_same]
  rw [if_neg e3]
  by_cases e2 : j = k * 6 + 2
  · subst e2
    rw [if_pos rfl, fillF, if_pos (by omega), fCell2]
  rw [if_neg e2]
  by_cases e1 : j = k * 6 + 1
  · subst e1
    rw [if_pos rfl, fillF, if_pos (by omega), fCell1]
  rw [if_neg e1]
  by_cases e0 : j = k * 6
  · subst e0
    rw [if_pos rfl, fillF, if_pos (by omega), fCell0]
  rw [if_neg e0]
  unfold fillF
  by_cases hj : j < k * 6
  · rw [if_pos hj, if_pos (by omega), fCell_upd hj]
  · rw [if_neg hj, if_neg (by omega)]

/-- The rows of the first k nodes lie in new memory from block lo on. -/
def OwnsF (w : World) (fs : List FN) (lo : Nat) (Q : Nat → FBq) (k : Nat) : Prop := ∀ i, i < k → OwnF w (fnAt fs i) lo (Q i).bc (Q i).kb (Q i).ki (Q i).bk (Q i).bi

theorem OwnsF.below {w w' : World} {fs : List FN} {lo k : Nat} {Q : Nat → FBq} (h : OwnsF w fs lo Q k) (hb : Below w.heap.size w w') : OwnsF w' fs lo Q k := fun i hi => (h i hi).below hb
theorem OwnsF.other {w : World} {fs : List FN} {lo k c o : Nat} {Q : Nat → FBq} (h : OwnsF w fs lo Q k) (hc : c < lo) (v : Value) : OwnsF (w.setCell ⟨c, o, none⟩ v) fs lo Q k := fun i hi => (h i hi).other hc v
theorem OwnsF.step {w : World} {fs : List FN} {lo k : Nat} {Q : Nat → FBq} (h : OwnsF w fs lo Q k) (q : FBq) (hq : OwnF w (fnAt fs k) lo q.bc q.kb q.ki q.bk q.bi) : OwnsF w fs lo (updB Q k q) (k + 1) := by
  intro i hi
  by_cases e : i = k
  · subst e; rw [updB_same]; exact hq
  · rw [updB_other Q q e]; exact h i (by omega)

set_option maxHeartbeats 1600000 in
theorem toFNodeS_any (B : Nat) (v : Value) (fs : List FN) (w : World) (h : FNodesAt B w v fs) (hB : B ≤ w.heap.size) :
    Calls Tryz.prog 18 #[v] w fun e w' => e = .returned (.slice (some ⟨w.heap.size, 0, none⟩) fs.length fs.length) ∧
      FNodesAt w'.heap.size w' (.slice (some ⟨w.heap.size, 0, none⟩) fs.length fs.length) fs ∧ Below w.heap.size w w' := by
  obtain ⟨hlen, a, cap, rfl, hcell⟩ := h
  have hmk := run_make_fnodes fs.length (by omega)
  have HC := hideIt hcell
  clear hcell
  go_enter Tryz.func18, Tryz.ntmps18
  go_wp2_with fail
  clear hmk
  obtain ⟨z, hz⟩ : ∃ z : Nat → Value, ∀ i, i < (madeFNodes fs.length).size → (madeFNodes fs.length)[i]? = some (z i) := ⟨fun i => ((madeFNodes fs.length)[i]?).getD undef, fun i hi => by simp [hi]⟩
  have hr0 := World.rowIs_alloc w _ 51 z hz
  rw [size_madeFNodes] at hr0
  have hr1 : (w.alloc (.cells (madeFNodes fs.length) 51)).rowIs w.heap.size 51 (fs.length * 6) (fillF fs (fun _ => ⟨0, fun _ => 0, fun _ => 0, 0, 0⟩) z 0) := hr0.congr fun i _ => by simp [fillF]
  have hb0 : Below w.heap.size w (w.alloc (.cells (madeFNodes fs.length) 51)) := (Below.refl _ _).alloc (Nat.le_refl _) _
  clear hz hr0
  go_loopw [4] (fun i wr => ∃ (k : Nat) (Q : Nat → FBq), k ≤ fs.length ∧ i = .int .i64 k ∧ wr.rowIs w.heap.size 51 (fs.length * 6) (fillF fs Q z k) ∧ OwnsF wr fs (w.heap.size + 1) Q k ∧ Below w.heap.size w wr) (fun i _ => fs.length - (intOf i).toNat)
  case atStart => exact ⟨0, _, Nat.zero_le _, rfl, hr1, fun i hi => by omega, hb0⟩
  case round =>
    obtain ⟨k, Q, hk, rfl, hrow, hown, hbel⟩ := hrel
    clear hr1 hb0
    by_cases hlt : k < fs.length
    · obtain ⟨b, o, rfl, hbB, hc⟩ := HC.out (by omega)
      obtain ⟨kc, kn, ki, hn⟩ := hc k hlt
      have hn' := hn.below (hbel.mono hB) hbB
      have c0 := hn'.c0
      have c1 := hn'.c1
      have c2 := hn'.c2
      have c3 := hn'.c3
      have c4 := hn'.c4
      have c5 := hn'.c5
      have hin := hideIt hn'.inn
      have hsize := hbel.size
      have hlt0 := hrow.lt
      clear hc hn hn'
      go_wp2_with fail
      refine (toFNode_any B (fnAt fs k) kc kn ki _ hin.out (by omega)).mono ?_
      rintro e w1 ⟨bc, KB, KI, bk, bi, rfl, hof, hb1⟩
      have hrow1 := rowIs_below hrow hb1 hlt0
      have hcs0 := hrow1.cell (i := k * 6) (by omega)
      have hcs1 := hrow1.cell (i := k * 6 + 1) (by omega)
      have hcs2 := hrow1.cell (i := k * 6 + 2) (by omega)
      have hcs3 := hrow1.cell (i := k * 6 + 3) (by omega)
      have hcs4 := hrow1.cell (i := k * 6 + 4) (by omega)
      have hcs5 := hrow1.cell (i := k * 6 + 5) (by omega)
      have hfs := hrow1.frozen
      have hnew := hideIt (fillF_step ⟨bc, KB, KI, bk, bi⟩ hrow1)
      have hst := hideIt ((hown.below hb1).step ⟨bc, KB, KI, bk, bi⟩ (hof.lower (by omega)))
      have hbel1 : Below w.heap.size w w1 := hbel.trans (hb1.mono hsize)
      clear hof hown hrow hrow1
      go_wp2_with fail
      go_roundw
      case rel =>
        refine ⟨k + 1, _, by omega, by go_num, hnew.out, ?_, ?_⟩
        · refine OwnsF.other ?_ (by omega) _
          refine OwnsF.other ?_ (by omega) _
          refine OwnsF.other ?_ (by omega) _
          refine OwnsF.other ?_ (by omega) _
          refine OwnsF.other ?_ (by omega) _
          refine OwnsF.other ?_ (by omega) _
          exact hst.out
        · refine Below.setCell (Below.setCell (Below.setCell (Below.setCell (Below.setCell (Below.setCell hbel1 ?_ _) ?_ _) ?_ _) ?_ _) ?_ _) ?_ _ <;> simp
      case measure => simp [intOf]; omega
    · obtain rfl : k = fs.length := by omega
      have HR := hideIt hrow
      have HOW := hideIt hown
      clear hrow hown
      go_wp2_with fail
      go_ret
      refine ⟨rfl, ⟨hlen, _, _, rfl, fun hp => ⟨w.heap.size, 0, rfl, HR.out.lt, fun i hi => ?_⟩⟩, hbel⟩
      obtain ⟨b, o, _, hbB, hc⟩ := HC.out hp
      obtain ⟨kc, kn, ki, hn⟩ := hc i hi
      refine ⟨_, _, _, ?_, ?_, ?_, ?_, ?_, ?_, (HOW.out i hi).inn hn.inn⟩
      · rw [Nat.zero_add, HR.out.cell (by omega), fillF, if_pos (by omega), fCell0]
      · rw [Nat.zero_add, HR.out.cell (by omega), fillF, if_pos (by omega), fCell1]
      · rw [Nat.zero_add, HR.out.cell (by omega), fillF, if_pos (by omega), fCell2]
      · rw [Nat.zero_add, HR.out.cell (by omega), fillF, if_pos (by omega), fCell3]; rfl
      · rw [Nat.zero_add, HR.out.cell (by omega), fillF, if_pos (by omega), fCell4]; rfl
      · rw [Nat.zero_add, HR.out.cell (by omega), fillF, if_pos (by omega), fCell5]; rfl
end Go.Proofs.YtehihemfepbmfaaGreatDoor
