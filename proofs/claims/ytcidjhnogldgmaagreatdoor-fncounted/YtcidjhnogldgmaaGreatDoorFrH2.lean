import Derived.Test.YtcidjhnogldgmaaGreatDoorFrM
import Derived.Test.YtcidjhnogldgmaaGreatDoorFrK
import Derived.Test.YtcidjhnogldgmaaGreatDoorFgW
import Derived.Test.YtcidjhnogldgmaaGreatDoorFrFt
import Derived.Test.YtcidjhnogldgmaaGreatDoorIFj
import Derived.Test.YtcidjhnogldgmaaGreatDoorVarsJ
import Derived.Test.YtcidjhnogldgmaaGreatDoorGupN
import Derived.Deep.AppendLies
import Derived.Deep.RegionLaw
import Derived.Test.YtcidjhnogldgmaaGreatDoorFImp2
import Derived.Handy
import Derived.Laws.StructEq
namespace Go.Proofs.YtcidjhnogldgmaaGreatDoor
open Go.RowKit
set_option linter.unusedSimpArgs false
set_option linter.unusedVariables false
def signL : List (Nat × Nat × Int) := [(124, 0, 6), (44, 0, 7), (47, 47, 21), (61, 61, 17), (33, 61, 18), (60, 0, 19), (60, 61, 20), (43, 0, 15), (45, 0, 16), (63, 0, 23)]
def signI (i : Nat) (x : Nat × Nat × Int) : MapEntry := ⟨.agg #[.int .u8 (x.1 : Int), .int .u8 (x.2.1 : Int)], .agg (jointL x.2.2).toArray, i⟩
def signEs : Nat → List (Nat × Nat × Int) → List MapEntry
  | _, [] => []
  | i, x :: l => signI i x :: signEs (i + 1) l
def signM (m : Nat) : Array MapEntry := (signEs 0 (signL.take m)).toArray
def ErrF (B : Nat) (w : World) : Prop := ∀ w', Below B w w' → (∃ ev, w'.cell? ⟨12, 0, none⟩ = some ev ∧ (ev = .nilIface ∨ ∃ te pe, ev = .iface te pe)) ∧ ∃ ev, w'.cell? ⟨13, 0, none⟩ = some ev ∧ (ev = .nilIface ∨ ∃ te pe, ev = .iface te pe)
theorem ErrF.next {B : Nat} {w w' : World} (h : ErrF B w) (hb : Below B w w') : ErrF B w' := fun w2 h2 => h w2 (hb.trans h2)
theorem ErrF.wide {B C : Nat} {w : World} (h : ErrF B w) (hBC : B ≤ C) : ErrF C w := fun w2 h2 => h w2 (h2.mono hBC)
theorem WdB.wideF {B C : Nat} {w : World} (h : WdB B w) (hBC : B ≤ C) : WdB C w := fun w2 h2 => h w2 (h2.mono hBC)
structure Tabs (B : Nat) (w : World) : Prop where
  wd : WdB B w
  tab : TabB B w
  er : ErrF B w
theorem Tabs.next {B : Nat} {w w' : World} (h : Tabs B w) (hb : Below B w w') : Tabs B w' := ⟨h.wd.next hb, h.tab.next hb, h.er.next hb⟩
theorem Tabs.wide {B C : Nat} {w : World} (h : Tabs B w) (hBC : B ≤ C) : Tabs C w := ⟨h.wd.wideF hBC, h.tab.wide hBC, h.er.wide hBC⟩
def XF (s : ByteArray) (mb : Nat) (v : Value) : Nat → Option Value
  | 0 => some (.string s)
  | 2 => some (.string ⟨#[10, 32]⟩)
  | 3 => some (.map (some mb))
  | 4 => some v
  | _ => none
theorem XF2 {s : ByteArray} {mb : Nat} {v : Value} : XF s mb v 2 = some (.string ⟨#[10, 32]⟩) := rfl
structure FrBox (w : World) (rb mb base : Nat) : Prop where
  mp : w.heap[mb]? = some (.map (signM 10) 10)
  tb : Tabs rb w
  rb_lt : rb < base
  mb_lt : mb < base
  ne : mb ≠ rb
  sz : base ≤ w.heap.size
structure FrAt (w : World) (rb mb base : Nat) (Z : Nat → Prop) (s : ByteArray) (p : Nat) (fs : List FN) : Prop where
  box : FrBox w rb mb base
  ex : ∃ v, SfAt (XF s mb v) w rb s p ∧ FRow base Z w v fs
theorem ltHF {w : World} {b : Nat} {o : Obj} (h : w.heap[b]? = some o) : b < w.heap.size := by
  rcases Nat.lt_or_ge b w.heap.size with h' | h'
  · exact h'
  · rw [Array.getElem?_eq_none h'] at h; cases h
theorem FrBox.but {w w' : World} {rb mb base : Nat} (h : FrBox w rb mb base) (hb : ButF rb base w w') : FrBox w' rb mb base :=
  ⟨(hb.low (ltHF h.mp) h.ne h.mb_lt).trans h.mp, h.tb.next ((hb.below h.sz).mono (by have := h.rb_lt; omega)), h.rb_lt, h.mb_lt, h.ne, Nat.le_trans h.sz hb.size⟩
theorem FrAt.go {w w' : World} {rb mb base : Nat} {Z : Nat → Prop} {s : ByteArray} {q : Nat} {fs : List FN} {v : Value} (h : FrBox w rb mb base) (hr : FRow base Z w v fs) (hs : SfAt (XF s mb v) w' rb s q) (hb : But rb w w') : FrAt w' rb mb base Z s q fs :=
  ⟨h.but (.of_but hb), v, hs, hr.but hb h.rb_lt⟩
theorem FrAt.below {w w' : World} {rb mb base : Nat} {Z : Nat → Prop} {s : ByteArray} {p : Nat} {fs : List FN} (h : FrAt w rb mb base Z s p fs) (hb : Below w.heap.size w w') : FrAt w' rb mb base Z s p fs := by
  obtain ⟨v, h1, h2⟩ := h.ex
  exact FrAt.go h.box h2 (h1.below hb) (But.of_below hb)
theorem FrAt.more {w : World} {rb mb base : Nat} {Z Z' : Nat → Prop} {s : ByteArray} {p : Nat} {fs : List FN} (h : FrAt w rb mb base Z s p fs) (hz : ∀ x, Z' x → Z x ∨ w.heap.size ≤ x ∨ x < base) : FrAt w rb mb base Z' s p fs := by
  obtain ⟨v, h1, h2⟩ := h.ex
  exact ⟨h.box, v, h1, h2.more hz⟩
theorem FrAt.fresh {w w' : World} {rb mb base : Nat} {Z Z' : Nat → Prop} {s : ByteArray} {p : Nat} {fs : List FN} (h : FrAt w rb mb base Z s p fs) (hb : Below w.heap.size w w') (hz : ∀ x, Z' x → Z x ∨ w.heap.size ≤ x ∨ x < base) : FrAt w' rb mb base Z' s p fs := (h.more hz).below hb
theorem FrAt.le {w : World} {rb mb base : Nat} {Z : Nat → Prop} {s : ByteArray} {p : Nat} {fs : List FN} (h : FrAt w rb mb base Z s p fs) : p ≤ s.size := by
  obtain ⟨v, h1, _⟩ := h.ex; exact h1.br.le
theorem FrAt.place {w : World} {rb mb base : Nat} {Z : Nat → Prop} {s : ByteArray} {p : Nat} {fs : List FN} (h : FrAt w rb mb base Z s p fs) : placeOf w rb = p := by
  obtain ⟨v, h1, _⟩ := h.ex; exact h1.placeOf
theorem FrAt.cells {w : World} {rb mb base : Nat} {Z : Nat → Prop} {s : ByteArray} {p : Nat} {fs : List FN} (h : FrAt w rb mb base Z s p fs) : w.cell? ⟨rb, 0, none⟩ = some (.string s) ∧ w.cell? ⟨rb, 1, none⟩ = some (.int .i64 p) ∧ w.frozen? ⟨rb, 1, none⟩ = false ∧ rb < w.heap.size := by
  obtain ⟨v, h1, _⟩ := h.ex; exact ⟨h1.br.src, h1.br.place, h1.br.free, h1.br.lt⟩
theorem FrAt.to {w : World} {rb mb base : Nat} {Z : Nat → Prop} {s : ByteArray} {p q : Nat} {fs : List FN} (h : FrAt w rb mb base Z s p fs) (hq : q ≤ s.size) : FrAt (w.setCell ⟨rb, 1, none⟩ (.int .i64 (q : Int))) rb mb base Z s q fs := by
  obtain ⟨v, h1, h2⟩ := h.ex
  exact FrAt.go h.box h2 (h1.to hq) (But.of_set _ _)
def FrOr (r : RF) (rb mb base : Nat) (Z : Nat → Prop) (s : ByteArray) (w : World) (e : Ending) (w' : World) : Prop :=
  ButF rb base w w' ∧ ((∃ n fs' q, r = some (n, fs', q) ∧ e = .returned (.int .i64 n) ∧ FrAt w' rb mb base Z s q fs') ∨ (r = none ∧ e = gup))
set_option maxRecDepth 100000 in
set_option maxHeartbeats 1600000 in
theorem fSkip_any {rb mb base p : Nat} {Z : Nat → Prop} {s : ByteArray} {fs : List FN} {w : World} (h : FrAt w rb mb base Z s p fs) (hs : s.size ≤ 4000) :
    Calls Tryz.prog 56 #[.pointer (some ⟨rb, 0, none⟩)] w fun e w' => e = .returned (.tuple #[]) ∧ FrAt w' rb mb base Z s (skF s.data.toList p) fs ∧ ButF rb base w w' := by
  obtain ⟨v, h1, h2⟩ := h.ex
  refine (skipF_any h1 XF2 (by omega)).mono ?_
  rintro e w1 ⟨rfl, h3, h4⟩
  exact ⟨rfl, FrAt.go h.box h2 h3 h4, .of_but h4⟩
theorem fPeek_any {rb mb base p : Nat} {Z : Nat → Prop} {s : ByteArray} {fs : List FN} {w : World} (h : FrAt w rb mb base Z s p fs) (hs : s.size ≤ 4000) :
    Calls Tryz.prog 103 #[.pointer (some ⟨rb, 0, none⟩)] w fun e w' => e = .returned (.int .u8 (byAt s.data.toList p : Int)) ∧ FrAt w' rb mb base Z s p fs ∧ ButF rb base w w' := by
  obtain ⟨v, h1, h2⟩ := h.ex
  refine (peek_any h1.br (by omega)).mono ?_
  rintro e w1 ⟨rfl, h4⟩
  exact ⟨rfl, h.below h4, .of_below h4⟩
theorem fTook_any {rb mb base p c : Nat} {Z : Nat → Prop} {s : ByteArray} {fs : List FN} {w : World} (h : FrAt w rb mb base Z s p fs) (hs : s.size ≤ 4000) (hc : 0 < c) :
    Calls Tryz.prog 139 #[.pointer (some ⟨rb, 0, none⟩), .int .u8 (c : Int)] w fun e w' => e = .returned (.bool (isAt s.data.toList p c)) ∧ FrAt w' rb mb base Z s (if isAt s.data.toList p c = true then skF s.data.toList (p + 1) else p) fs ∧ ButF rb base w w' := by
  obtain ⟨v, h1, h2⟩ := h.ex
  cases hi : isAt s.data.toList p c
  · refine (tookF_no h1 XF2 (by omega) hc hi).mono ?_
    rintro e w1 ⟨rfl, h3, h4⟩
    exact ⟨rfl, FrAt.go h.box h2 h3 h4, .of_but h4⟩
  · refine (tookF_yes h1 XF2 (by omega) hi).mono ?_
    rintro e w1 ⟨rfl, h3, h4⟩
    exact ⟨rfl, FrAt.go h.box h2 h3 h4, .of_but h4⟩
theorem fMust_any {rb mb base p c : Nat} {Z : Nat → Prop} {s : ByteArray} {fs : List FN} {w : World} (h : FrAt w rb mb base Z s p fs) (hs : s.size ≤ 4000) (hc : 0 < c) :
    Calls Tryz.prog 141 #[.pointer (some ⟨rb, 0, none⟩), .int .u8 (c : Int)] w fun e w' => ButF rb base w w' ∧ ((isAt s.data.toList p c = true ∧ e = .returned (.tuple #[]) ∧ FrAt w' rb mb base Z s (skF s.data.toList (p + 1)) fs) ∨ (isAt s.data.toList p c = false ∧ e = gup)) := by
  obtain ⟨v, h1, h2⟩ := h.ex
  cases hi : isAt s.data.toList p c
  · refine (mustF_no h1 XF2 (by omega) hc hi).mono ?_
    rintro e w1 ⟨rfl, h4⟩
    exact ⟨.of_but h4, .inr ⟨rfl, rfl⟩⟩
  · refine (mustF_yes h1 XF2 (by omega) hi).mono ?_
    rintro e w1 ⟨rfl, h3, h4⟩
    exact ⟨.of_but h4, .inl ⟨rfl, rfl, FrAt.go h.box h2 h3 h4⟩⟩
theorem fText_at {rb mb base p : Nat} {Z : Nat → Prop} {s : ByteArray} {fs : List FN} {w : World} (h : FrAt w rb mb base Z s p fs) (hs : s.size ≤ 4000) (hq : isAt s.data.toList p 34 = true) :
    Calls Tryz.prog 109 #[.pointer (some ⟨rb, 0, none⟩)] w fun e w' => ButF rb base w w' ∧ ((∃ l q, txJ s.data.toList (p + 1) = some (l, q) ∧ e = .returned (.string (txt l)) ∧ FrAt w' rb mb base Z s q fs) ∨ (txJ s.data.toList (p + 1) = none ∧ e = gup)) := by
  obtain ⟨v, h1, h2⟩ := h.ex
  refine (fText_any h1 hs).mono ?_
  rintro e w1 ⟨⟨l, q, _, h4, rfl, h5⟩ | ⟨h4, rfl⟩, h6⟩
  · exact ⟨.of_but h6, .inl ⟨l, q, h4, rfl, FrAt.go h.box h2 h5 h6⟩⟩
  · refine ⟨.of_but h6, .inr ⟨?_, rfl⟩⟩
    rcases h4 with h4 | h4
    · rw [hq] at h4; cases h4
    · exact h4
end Go.Proofs.YtcidjhnogldgmaaGreatDoor

namespace Go.Proofs.YtcidjhnogldgmaaGreatDoor
open Go.RowKit
set_option linter.unusedSimpArgs false
set_option linter.unusedVariables false
theorem infoFN : (Tryz.prog.info? 125).map (fun i => (i.zero, i.size, i.bytes)) = some (some (.agg #[.int .i64 0, .string ByteArray.empty, .int .i64 0, .slice none 0 0, .slice none 0 0, .slice none 0 0]), 6, 104) := by kernel_rfl
theorem SfAt.setF {mb : Nat} {v v' : Value} {w : World} {rb p : Nat} {s : ByteArray} (h : SfAt (XF s mb v) w rb s p) : SfAt (XF s mb v') (w.setCell ⟨rb, 4, none⟩ v') rb s p := by
  refine ⟨⟨by simpa using h.br.lt, by rw [World.cell?_setCell_other (h := by simp)]; exact h.br.src, by rw [World.cell?_setCell_other (h := by simp)]; exact h.br.place, by rw [World.frozen?_setCell]; exact h.br.free, h.br.le⟩, fun j hj => ?_, fun j => by rw [World.frozen?_setCell]; exact h.fz j⟩
  have hb := h.bl j hj
  by_cases e : j = 4
  · subst e
    exact World.cell?_setCell_same _ _ _ hb
  · rw [World.cell?_setCell_other (h := by simp; try omega), hb]
    match j, hj, e with
    | 0, _, _ => rfl
    | 2, _, _ => rfl
    | 3, _, _ => rfl
    | (k + 5), _, _ => rfl
theorem own_sl {w : World} {base e s n : Nat} {v : Value} {xs : List Value} (h : w.ownsRow base e s v n xs) : ∃ a c, v = .slice a n c := by
  rcases h.2 with ⟨rfl, e⟩ | ⟨g, cap, cur, rfl, _⟩
  · exact ⟨none, 0, by rw [e]⟩
  · exact ⟨_, _, rfl⟩
theorem cell_moreF {w : World} {b o : Nat} {v : Value} (h : w.cell? ⟨b, o, none⟩ = some v) (hl : b < w.heap.size) (ob : Obj) : (w.drew.alloc ob).cell? ⟨b, o, none⟩ = some v := by
  rw [World.cell?_of_block (w := w) (a := ⟨b, o, none⟩) (((Below.refl w.heap.size w).drew.alloc (Nat.le_refl _) ob).block b hl)]; exact h
set_option maxRecDepth 100000 in
set_option maxHeartbeats 6400000 in
theorem frAdd_any {rb mb base p : Nat} {Z Z' : Nat → Prop} {s : ByteArray} {fs : List FN} {w : World} {x : FN} {kc kn ki k0 : Value} (h : FrAt w rb mb base Z s p fs)
    (hc : Nest base w kc x.cst nilV nilV) (hn : w.ownsRow base 9 1 kn x.names.length (x.names.map .string)) (hi : w.ownsRow base 2 1 ki x.kids.length (x.kids.map (.int .i64)))
    (hfr : ∀ y, kc.ownBlock = some y ∨ kn.ownBlock = some y ∨ ki.ownBlock = some y → Z y) (hz : ∀ y, Z' y → Z y ∧ ¬ (kc.ownBlock = some y ∨ kn.ownBlock = some y ∨ ki.ownBlock = some y)) (hl : fs.length ≤ 4000) :
    Calls Tryz.prog 78 #[.pointer (some ⟨rb, 0, none⟩), .agg #[.int .i64 x.kind, .string x.name, .int .i64 x.place, kc, kn, k0], ki] w fun e w' => e = .returned (.int .i64 (fs.length : Int)) ∧ FrAt w' rb mb base Z' s p (fs ++ [x]) ∧ ButF rb base w w' := by
  obtain ⟨i0, hi0, hz0, hs0, hy0⟩ := info_parts infoFN
  obtain ⟨ac, cc, ekc⟩ := own_sl hc.row
  obtain ⟨an, cn, ekn⟩ := own_sl hn
  obtain ⟨ai, ci, eki⟩ := own_sl hi
  obtain ⟨lc, hlc⟩ : ∃ l, x.cst.length = l := ⟨_, rfl⟩
  obtain ⟨ln, hln⟩ : ∃ l, x.names.length = l := ⟨_, rfl⟩
  obtain ⟨li, hli⟩ : ∃ l, x.kids.length = l := ⟨_, rfl⟩
  have HLC := hideIt hlc
  have HLI := hideIt hli
  have HLNN := hideIt hln
  rw [hlc] at ekc
  rw [hln] at ekn
  rw [hli] at eki
  clear hlc hln hli
  subst ekc ekn eki
  obtain ⟨bx, v, hsf, C, N, I, hN, hZ⟩ := h
  have hrl := hsf.br.lt
  have hsz := bx.sz
  have hrb := bx.rb_lt
  obtain ⟨av, cv, rfl⟩ : ∃ a c, v = .slice a fs.length c := FRow.slice (Z := Z) ⟨C, N, I, hN, hZ⟩
  obtain ⟨L, hL⟩ : ∃ L, fs.length = L := ⟨_, rfl⟩
  have HL := hideIt hL
  have HC := hideIt hc
  have HN := hideIt hn
  have HI := hideIt hi
  have HFR := hideIt hfr
  have HZP := hideIt hz
  have HSF := hideIt hsf
  have HNE := hideIt hN
  have HZ := hideIt hZ
  have HBX := hideIt bx
  rw [hL] at HSF HNE hl ⊢
  clear hc hn hi hfr hz hsf hN hZ bx hL
  obtain ⟨W1, hW1⟩ : ∃ W1, w.alloc (.cells #[.int .i64 x.kind, .string x.name, .int .i64 x.place, .slice ac lc cc, .slice an ln cn, k0] 125) = W1 := ⟨_, rfl⟩
  have hb1 : W1.heap[w.heap.size]? = some (.cells #[.int .i64 x.kind, .string x.name, .int .i64 x.place, .slice ac lc cc, .slice an ln cn, k0] 125 (0, 0)) := by rw [← hW1]; exact heap_alloc_new w _
  have c5 : W1.cell? ⟨w.heap.size, 5, none⟩ = some k0 := cellAt hb1 rfl
  have f5 : W1.frozen? ⟨w.heap.size, 5, none⟩ = false := Lib.frozen_of_heap hb1 5
  have HBL1 : Hid (Below w.heap.size w W1) := by rw [Hid, ← hW1]; exact (Below.refl _ _).alloc (Nat.le_refl _) _
  have HB1 := hideIt hb1
  clear hb1
  go_enter Tryz.func78, Tryz.ntmps78
  go_wp2_with fail
  obtain ⟨W2, hW2⟩ : ∃ W2, W1.setCell ⟨w.heap.size, 5, none⟩ (.slice ai li ci) = W2 := ⟨_, rfl⟩
  rw [hW2]
  have hb2 : W2.heap[w.heap.size]? = some (.cells #[.int .i64 x.kind, .string x.name, .int .i64 x.place, .slice ac lc cc, .slice an ln cn, .slice ai li ci] 125 (0, 0)) := by rw [← hW2]; exact setH HB1.out (.slice ai li ci)
  have HBL2 : Hid (Below w.heap.size w W2) := by rw [Hid, ← hW2]; exact HBL1.out.setCell (p := ⟨w.heap.size, 5, none⟩) (Nat.le_refl _) _
  have hz2 : W2.heap.size = w.heap.size + 1 := by rw [← hW2, ← hW1]; simp
  clear c5 f5 HB1 HBL1 hW2 hW1
  have d0 : W2.cell? ⟨w.heap.size, 0, none⟩ = some (.int .i64 x.kind) := cellAt hb2 rfl
  have d1 : W2.cell? ⟨w.heap.size, 1, none⟩ = some (.string x.name) := cellAt hb2 rfl
  have d2 : W2.cell? ⟨w.heap.size, 2, none⟩ = some (.int .i64 x.place) := cellAt hb2 rfl
  have d3 : W2.cell? ⟨w.heap.size, 3, none⟩ = some (.slice ac lc cc) := cellAt hb2 rfl
  have d4 : W2.cell? ⟨w.heap.size, 4, none⟩ = some (.slice an ln cn) := cellAt hb2 rfl
  have d5 : W2.cell? ⟨w.heap.size, 5, none⟩ = some (.slice ai li ci) := cellAt hb2 rfl
  have HSF2 := hideIt (HSF.out.below HBL2.out)
  have HNE2 : Hid (FNest base W2 (.slice av L cv) fs C N I) := HNE.out.keep (fun y hy => HBL2.out.block y (HNE.out.row.lt y hy).2) (fun y hy => HBL2.out.block y (HNE.out.sub hy).2)
  have q4 : W2.cell? ⟨rb, 4, none⟩ = some (.slice av L cv) := HSF2.out.bl 4 (by decide)
  have g4 : W2.frozen? ⟨rb, 4, none⟩ = false := HSF2.out.fz 4
  have hql : rb < W2.heap.size := by omega
  have HROW : Hid (W2.ownsRow base 125 6 (.slice av L cv) L (fCells fs C N I)) := by have := HNE2.out.row; rw [HL.out] at this; exact this
  obtain ⟨WA, hWA⟩ : ∃ WA, W2.drew.alloc (.cells #[.int .i64 x.kind, .string x.name, .int .i64 x.place, .slice ac lc cc, .slice an ln cn, .slice ai li ci] 125) = WA := ⟨_, rfl⟩
  have HWA := hideIt hWA
  have HBLA : Hid (Below W2.heap.size W2 WA) := by rw [Hid, ← hWA]; exact (Below.refl _ _).drew.alloc (Nat.le_refl _) _
  have HRK : Hid ((W2.drew.alloc (.cells #[.int .i64 x.kind, .string x.name, .int .i64 x.place, .slice ac lc cc, .slice an ln cn, .slice ai li ci] 125)).ownsRow base 125 6 (.slice av L cv) L (fCells fs C N I)) := by rw [Hid, hWA]; exact ownK HROW.out fun y hy => HBLA.out.block y (HROW.out.lt y hy).2
  have HNW : Hid (∀ j u, [Value.int .i64 x.kind, .string x.name, .int .i64 x.place, .slice ac lc cc, .slice an ln cn, .slice ai li ci][j]? = some u → (W2.drew.alloc (.cells #[.int .i64 x.kind, .string x.name, .int .i64 x.place, .slice ac lc cc, .slice an ln cn, .slice ai li ci] 125)).cell? ((⟨W2.heap.size, 0, none⟩ : Addr).add j) = some u) := World.news_of_block (cs := #[.int .i64 x.kind, .string x.name, .int .i64 x.place, .slice ac lc cc, .slice an ln cn, .slice ai li ci]) (t := 125) (fr := (0, 0)) (heap_alloc_new W2.drew _)
  have hone : ∀ u ∈ [Value.int .i64 x.kind, .string x.name, .int .i64 x.place, .slice ac lc cc, .slice an ln cn, .slice ai li ci], u.oneCell' = true := fun u hu => by
    simp at hu
    rcases hu with rfl | rfl | rfl | rfl | rfl | rfl
    · rfl
    · rfl
    · rfl
    · rfl
    · rfl
    · rfl
  have hbs : base ≤ (W2.drew.alloc (.cells #[.int .i64 x.kind, .string x.name, .int .i64 x.place, .slice ac lc cc, .slice an ln cn, .slice ai li ci] 125)).heap.size := by simp; omega
  have htop : (W2.drew.alloc (.cells #[.int .i64 x.kind, .string x.name, .int .i64 x.place, .slice ac lc cc, .slice an ln cn, .slice ai li ci] 125)).heap.size = W2.heap.size + 1 := by simp
  have HQK : Hid ((Value.slice av L cv).ownBlock ≠ some rb) := fun e => by have := (HROW.out.lt _ e).1; omega
  have HX0 : Hid ((W2.drew.alloc (.cells #[.int .i64 x.kind, .string x.name, .int .i64 x.place, .slice ac lc cc, .slice an ln cn, .slice ai li ci] 125)).cell? ⟨rb, 4, none⟩ = some (.slice av L cv)) := cell_moreF q4 hql _
  have HF0 : Hid ((W2.drew.alloc (.cells #[.int .i64 x.kind, .string x.name, .int .i64 x.place, .slice ac lc cc, .slice an ln cn, .slice ai li ci] 125)).frozen? ⟨rb, 4, none⟩ = false) := (((Below.refl W2.heap.size W2).drew.alloc (Nat.le_refl _) _).frozen (p := ⟨rb, 4, none⟩) hql).trans g4
  have hml : L + 1 ≤ maxLen := by unfold maxLen; omega
  have hby : (L + 1) * 104 ≤ 140737488355328 := by omega
  have HB2 := hideIt hb2
  have HZ2 := hideIt hz2
  have hz2' : w.heap.size < W2.heap.size := by omega
  clear hWA hb2 hz2
  go_region_law
    (refine step_append_lies _ (by rfl) _ _ _ (by rfl) base 125 i0 _ 6 104 Tryz.underlying51 hi0 hz0 hs0 hy0 rfl (by omega) (.slice av L cv) L (fCells fs C N I) (by rfl) HRK.out ⟨W2.heap.size, 0, none⟩ 1 1 [.int .i64 x.kind, .string x.name, .int .i64 x.place, .slice ac lc cc, .slice an ln cn, .slice ai li ci] (by rfl) (by rfl) HNW.out hone (by omega) hml hby hbs (W2.heap.size + 1) htop ?_; intro g5 cap5 w5 hown hgrow hat hlt5; have hS3 : w5.cell? ⟨rb, 4, none⟩ = some (.slice av L cv) := (World.grownBy.cell_far hgrow ⟨rb, 4, none⟩ (by simp; omega) (Ne.symm HQK.out)).trans HX0.out; have hf3 : w5.frozen? ⟨rb, 4, none⟩ = false := (World.grownBy.frozen_far hgrow ⟨rb, 4, none⟩ (by simp; omega) (Ne.symm HQK.out)).trans HF0.out)
  all_goals
    have HOWN := hideIt hown
    have hgA : W2.grownBy w5 (Value.slice av L cv).ownBlock := by
      refine World.grownBy.trans ?_ hgrow
      exact ⟨rfl, rfl, rfl, by simp, fun k hk _ => heap_alloc_old W2.drew _ hk⟩
    have HGA := hideIt hgA
    have HSF5 : Hid (SfAt (XF s mb (.slice av L cv)) w5 rb s p) := HSF2.out.keep (hgA.block rb hql (Ne.symm HQK.out)) hgA.size
    have hq5 : rb < w5.heap.size := Nat.lt_of_lt_of_le hql hgA.size
    have HNE5 : Hid (FNest base w5 (.slice (some ⟨g5, 0, none⟩) (L + 1) cap5) (fs ++ [x]) (upd C fs.length (.slice ac lc cc)) (upd N fs.length (.slice an ln cn)) (upd I fs.length (.slice ai li ci))) := by
      refine HNE2.out.snoc (nestK HC.out fun y hy => HBL2.out.block y (HC.out.row.lt y hy).2) (ownK HN.out fun y hy => HBL2.out.block y (HN.out.lt y hy).2) (ownK HI.out fun y hy => HBL2.out.block y (HI.out.lt y hy).2) (fun y hy hsub => HZ.out y hsub (HFR.out y hy)) (by rw [HL.out]; exact hown) hgA
    clear hown hgrow hgA hat hlt5 d0 d1 d2 d3 d4 d5 q4 g4 HRK HNW hone hbs htop HX0 HF0
    have HSF6 := hideIt (HSF5.out.setF (v' := .slice (some ⟨g5, 0, none⟩) (L + 1) cap5))
    have HB6 : Hid (ButF rb base w (w5.setCell ⟨rb, 4, none⟩ (.slice (some ⟨g5, 0, none⟩) (L + 1) cap5))) := ((ButF.of_below HBL2.out).trans (ButF.of_grown HROW.out HGA.out)).trans (ButF.of_set _ _)
    have q6 : (w5.setCell ⟨rb, 4, none⟩ (.slice (some ⟨g5, 0, none⟩) (L + 1) cap5)).cell? ⟨rb, 4, none⟩ = some (.slice (some ⟨g5, 0, none⟩) (L + 1) cap5) := HSF6.out.bl 4 (by decide)
    have HROW6 : Hid (FRow base Z' (w5.setCell ⟨rb, 4, none⟩ (.slice (some ⟨g5, 0, none⟩) (L + 1) cap5)) (.slice (some ⟨g5, 0, none⟩) (L + 1) cap5) (fs ++ [x])) := by
      refine FRow.butF ⟨_, _, _, HNE5.out, fun y hy hzy => ?_⟩ 4 _ hrb
      obtain ⟨h1, h2⟩ := HZP.out y hzy
      obtain ⟨j, hj, hy⟩ := hy
      rw [List.length_append, List.length_singleton] at hj
      by_cases e : j = fs.length
      · subst e
        rw [upd_same, upd_same, upd_same] at hy
        exact h2 hy
      · rw [upd_lt (by omega), upd_lt (by omega), upd_lt (by omega)] at hy
        exact HZ.out y ⟨j, by omega, hy⟩ h1
    go_wp2_with fail
    go_ret
    exact ⟨rfl, ⟨HBX.out.but HB6.out, _, HSF6.out, HROW6.out⟩, HB6.out⟩
end Go.Proofs.YtcidjhnogldgmaaGreatDoor

namespace Go.Proofs.YtcidjhnogldgmaaGreatDoor
open Go.RowKit
set_option linter.unusedSimpArgs false
set_option linter.unusedVariables false
set_option maxRecDepth 100000 in
set_option maxHeartbeats 3200000 in
theorem readName_any {rb mb base p : Nat} {Z : Nat → Prop} {s : ByteArray} {fs : List FN} {w : World} (h : FrAt w rb mb base Z s p fs) (hs : s.size ≤ 4000) :
    Calls Tryz.prog 138 #[.pointer (some ⟨rb, 0, none⟩)] w fun e w' => e = .returned (.string (txt (nameF s.data.toList p))) ∧ FrAt w' rb mb base Z s (skF s.data.toList (nmJ s.data.toList p)) fs ∧ ButF rb base w w' := by
  have H := hideB h
  have HLN := hideB (len_is s)
  have hp := h.le
  obtain ⟨c0, c1, f1, lt0⟩ := h.cells
  clear h
  go_enter Tryz.func138, Tryz.ntmps138
  go_wp2_with fail
  go_loopw [15, 16] (fun _ _ wr => ∃ q, FrAt wr rb mb base Z s q fs ∧ Hid (nmJ s.data.toList q = nmJ s.data.toList p) ∧ ButF rb base w wr ∧ p ≤ q) (fun _ _ wr => s.size - placeOf wr rb)
  case atStart => exact ⟨p, H.out, rfl, ButF.refl _ _ _, Nat.le_refl _⟩
  case round =>
    obtain ⟨q, hsr, HK, hbt, hpq⟩ := hrel
    have HS := hideB hsr
    have HBT := hideB hbt
    have hqs := hsr.le
    have HPK := hideB (fPeek_any hsr hs)
    have hc256 := byAt_lt s.data.toList q
    obtain ⟨c, hc⟩ : ∃ c, byAt s.data.toList q = c := ⟨_, rfl⟩
    have HC := hideB hc
    rw [hc] at HPK hc256
    clear c0 c1 f1 lt0
    obtain ⟨c0, c1, f1, lt0⟩ := hsr.cells
    clear hsr hbt hc
    go_wp2_with fail
    refine HPK.out.mono ?_
    rintro e w1 ⟨rfl, hr1, hb1⟩
    have HR1 := hideB hr1
    have HB1 := hideB hb1
    clear c0 c1 f1 lt0
    obtain ⟨c0, c1, f1, lt0⟩ := hr1.cells
    clear hr1 hb1
    go_wp2_with fail
    refine (inName_any c w1 hc256).mono ?_
    rintro e w2 ⟨rfl, rfl⟩
    cases hn : nmC c
    · have hn' : (letN c || digN c) = false := hn
      have HEND : Hid (nmJ s.data.toList q = q) := runJ_no (fun e => by rw [HC.out, hn] at e; cases e.2)
      have HZ : Hid (nmJ s.data.toList p = q) := by rw [Hid, ← HK.out]; exact HEND.out
      have hcut : ∀ w, (Instr.slice 9 (.string s) (some (.int .i64 (p : Int))) (some (.int .i64 (q : Int))) none).run Tryz.prog w = .ok (.string (txt (nameF s.data.toList p))) w := fun w => by
        have := run_cut (P := Tryz.prog) (t := 9) s p q Tryz.underlying9 hpq hqs w
        rw [this]; unfold nameF; rw [HZ.out]
      rw [hn']
      clear hn hn'
      go_wp2_with fail
      go_quiet (fail)
      have HD := hideB (below_drewB (w := w2) nq)
      have HR2 := hideB (HR1.out.below HD.out)
      have HSK := hideB (fSkip_any HR2.out hs)
      generalize w2.drewN nq = W2 at HR2 HD HSK ⊢
      clear nq c0 c1 f1
      go_wp2_with fail
      refine HSK.out.mono ?_
      rintro e w3 ⟨rfl, hr3, hb3⟩
      have HR3 := hideB hr3
      have HB3 := hideB (((HBT.out.trans HB1.out).trans (ButF.of_below HD.out)).trans hb3)
      clear hr3 hb3
      go_wp2_with fail
      go_ret
      exact ⟨rfl, by rw [HZ.out]; exact HR3.out, HB3.out⟩
    · have hn' : (letN c || digN c) = true := hn
      have hq : q < s.size := by
        rcases Nat.lt_or_ge q s.size with h | h
        · exact h
        · exfalso
          have : byAt s.data.toList q = 0 := byAt_past (by rw [HLN.out]; omega)
          rw [HC.out] at this
          subst this
          revert hn; decide
      have HNX : Hid (nmJ s.data.toList q = nmJ s.data.toList (q + 1)) := runJ_yes (by rw [HLN.out]; exact hq) (by rw [HC.out]; exact hn)
      rw [hn']
      clear hn hn'
      have e1 : ((q + 1 : Nat) : Int) = (q : Int) + 1 := by omega
      have HR2 := hideB (HR1.out.to (q := q + 1) hq)
      rw [e1] at HR2
      have HB2 := hideB ((HBT.out.trans HB1.out).trans (ButF.of_set 1 (.int .i64 ((q : Int) + 1))))
      clear e1
      go_wp2_with fail
      go_roundw
      case rel => exact ⟨q + 1, HR2.out, by rw [Hid, ← HNX.out]; exact HK.out, HB2.out, by omega⟩
      case measure => rw [HS.out.place, HR2.out.place]; omega
set_option maxRecDepth 100000 in
set_option maxHeartbeats 1600000 in
theorem mustWord_any {rb mb base p : Nat} {Z : Nat → Prop} {s u : ByteArray} {fs : List FN} {w : World} (h : FrAt w rb mb base Z s p fs) (hs : s.size ≤ 4000) :
    Calls Tryz.prog 164 #[.pointer (some ⟨rb, 0, none⟩), .string u] w fun e w' => ButF rb base w w' ∧ ((nameF s.data.toList p = u.data.toList ∧ e = .returned (.tuple #[]) ∧ FrAt w' rb mb base Z s (skF s.data.toList (nmJ s.data.toList p)) fs) ∨ (nameF s.data.toList p ≠ u.data.toList ∧ e = gup)) := by
  have HN := hideB (readName_any h hs)
  obtain ⟨t, ht⟩ : ∃ t, txt (nameF s.data.toList p) = t := ⟨_, rfl⟩
  have HT : Hid (nameF s.data.toList p = t.data.toList) := by rw [Hid, ← ht, bytes_txt]
  rw [ht] at HN
  clear h ht
  by_cases he : t = u
  · subst he
    have q1 : (t.toList == t.toList) = true := by simp
    have q2 : (t.toList != t.toList) = false := by simp
    go_enter Tryz.func164, Tryz.ntmps164
    go_wp2_with fail
    refine HN.out.mono ?_
    rintro e w1 ⟨rfl, h1, h2⟩
    have H1 := hideB h1
    have H2 := hideB h2
    clear h1 h2
    go_wp2_with fail
    go_end0
    exact ⟨H2.out, .inl ⟨HT.out, rfl, H1.out⟩⟩
  · have hne : t.data.toList ≠ u.data.toList := fun e => he (by rw [← txt_bytes t, e, txt_bytes])
    have HNE : Hid (nameF s.data.toList p ≠ u.data.toList) := by rw [Hid, HT.out]; exact hne
    have q0 : ¬ t.toList = u.toList := fun e => he (str_eq (by rw [e]; simp))
    have q1 : (t.toList == u.toList) = false := by simpa using q0
    have q2 : (t.toList != u.toList) = true := by simpa using q0
    clear he hne
    go_enter Tryz.func164, Tryz.ntmps164
    go_wp2_with fail
    refine HN.out.mono ?_
    rintro e w1 ⟨rfl, h1, h2⟩
    have H2 := hideB h2
    clear h1 h2
    go_wp2_with fail
    exact ⟨rfl, H2.out, .inr ⟨HNE.out, rfl⟩⟩
end Go.Proofs.YtcidjhnogldgmaaGreatDoor

namespace Go.Proofs.YtcidjhnogldgmaaGreatDoor
open Go.RowKit
set_option linter.unusedSimpArgs false
set_option linter.unusedVariables false
theorem sign_fields : (Tryz.prog.fieldsOf 120).toList.map (fun f => (f.name, f.type, f.offset)) = [("first", 5, 0), ("second", 5, 1)] := by kernel_rfl
theorem two_of {α β : Type} {l : List α} {f : α → β} {a b : β} (h : l.map f = [a, b]) : ∃ x y, l = [x, y] ∧ f x = a ∧ f y = b := by
  match l, h with
  | [x, y], h => simp at h; exact ⟨x, y, rfl, h.1, h.2⟩
theorem part_u8 (xs : Array Value) (o : Nat) (v : Value) (h : xs[o]? = some v) (w : World) : (part 5 xs o).run Tryz.prog w = .ok v w := by
  simp [part, go_sem, h]
theorem eq_sign (a b c d : Int) (w : World) : (Op.equal 120 (.agg #[.int .u8 a, .int .u8 b]) (.agg #[.int .u8 c, .int .u8 d])).run Tryz.prog w = .ok (decide (a = c) && decide (b = d)) w := by
  obtain ⟨f, g, hl, hf, hg⟩ := two_of sign_fields
  simp only [Prod.mk.injEq] at hf hg
  rw [Op.equal, show Op.maxDepth = 9999 + 1 from rfl, run_equalIn_struct w 9999 120 _ _ (by kernel_rfl) (by kernel_rfl), hl]
  have n1 : f.name ≠ "_" := by rw [hf.1]; decide
  have n2 : g.name ≠ "_" := by rw [hg.1]; decide
  have p0 := fun w => part_u8 #[.int .u8 a, .int .u8 b] 0 (.int .u8 a) rfl w
  have p1 := fun w => part_u8 #[.int .u8 a, .int .u8 b] 1 (.int .u8 b) rfl w
  have p2 := fun w => part_u8 #[.int .u8 c, .int .u8 d] 0 (.int .u8 c) rfl w
  have p3 := fun w => part_u8 #[.int .u8 c, .int .u8 d] 1 (.int .u8 d) rfl w
  have q : ∀ (x y : Int) (w : World), (Op.equalIn 9999 5 (.int .u8 x) (.int .u8 y)).run Tryz.prog w = .ok (x == y) w := fun x y w => run_equalIn_int w 9998 5 .u8 .u8 x y Tryz.underlying5
  simp only [Op.eqFields, if_pos n1, if_pos n2, hf.2.1, hf.2.2, hg.2.1, hg.2.2, Sem.run_bind, p0, p2, q, Result.andThen_ok]
  by_cases h1 : a = c
  · by_cases h2 : b = d
    · simp [h1, h2, p1, p3, q]
      try simp [h1, h2] at p1
      try simp [p1, q]
    · simp [h1, p1, p3, q, h2]
      try simp [h1] at p1
      try simp [p1, q, h2]
  · simp [h1]
def findS (a b : Nat) : Nat → List (Nat × Nat × Int) → Option (Nat × Value)
  | _, [] => none
  | i, x :: l => if a = x.1 ∧ b = x.2.1 then some (i, .agg (jointL x.2.2).toArray) else findS a b (i + 1) l
theorem find_run (a b : Nat) (w : World) : ∀ (l : List (Nat × Nat × Int)) (i j : Nat), (Instr.findAsking 120 (.agg #[.int .u8 (a : Int), .int .u8 (b : Int)]) (signEs j l) i).run Tryz.prog w = .ok (findS a b i l) w := by
  intro l
  induction l with
  | nil => intro i j; rfl
  | cons x l ih =>
    intro i j
    rw [signEs, Instr.findAsking, Sem.run_bind]
    rw [show (signI j x).key = .agg #[.int .u8 (x.1 : Int), .int .u8 (x.2.1 : Int)] from rfl, eq_sign, Result.andThen_ok]
    by_cases h : a = x.1 ∧ b = x.2.1
    · have e : (decide ((a : Int) = (x.1 : Int)) && decide ((b : Int) = (x.2.1 : Int))) = true := by simp; omega
      rw [e, findS, if_pos h]; rfl
    · have e : (decide ((a : Int) = (x.1 : Int)) && decide ((b : Int) = (x.2.1 : Int))) = false := by
        rw [Bool.and_eq_false_iff]; simp only [decide_eq_false_iff_not]; omega
      rw [e, findS, if_neg h]; exact ih _ _
def jointZ : Value := .agg #[.int .i64 0, .string ByteArray.empty, .int .i64 0, .int .i64 0, .int .i64 0]
def lookV (a b : Nat) : Value := match findS a b 0 signL with
  | some (_, v) => .tuple #[v, .bool true]
  | none => .tuple #[jointZ, .bool false]
theorem look_run {w : World} {mb : Nat} (h : w.heap[mb]? = some (.map (signM 10) 10)) (a b : Nat) : (Instr.lookup 83 (.map (some mb)) (.agg #[.int .u8 (a : Int), .int .u8 (b : Int)]) true).run Tryz.prog w = .ok (lookV a b) w := by
  have hu := Tryz.underlying83
  have hg : (getObj mb).run Tryz.prog w = .ok (.map (signM 10) 10) w := by
    have hlt : mb < w.heap.size := ltHF h
    rw [Array.getElem?_eq_getElem hlt] at h
    simp [getObj, Sem.run, h, hlt]
  have hc : (Instr.checkKey (signM 10).isEmpty 10000 120 (.agg #[.int .u8 (a : Int), .int .u8 (b : Int)])).run Tryz.prog w = .ok () w := by kernel_rfl
  have hk : (Instr.findKey 120 (.agg #[.int .u8 (a : Int), .int .u8 (b : Int)]) (signM 10).toList).run Tryz.prog w = .ok (findS a b 0 signL) w := by
    have hn : Instr.findNow (.struct (Tryz.prog.fieldsOf 120)) (.agg #[.int .u8 (a : Int), .int .u8 (b : Int)]) (signM 10).toList 0 = none := by kernel_rfl
    have hf := find_run a b w signL 0 0
    have hs : Tryz.prog.underlying 120 = some (.struct (Tryz.prog.fieldsOf 120)) := by kernel_rfl
    unfold Instr.findKey
    simp only [Sem.run_bind, run_underlying hs, Result.andThen_ok, hn]
    exact hf
  have hz : (zeroValue 116).run Tryz.prog w = .ok jointZ w := by kernel_rfl
  unfold Instr.lookup
  simp only [Sem.run_bind, run_underlying hu, Result.andThen_ok, hg, Sem.run_pure, hc, hk]
  unfold lookV
  cases hfs : findS a b 0 signL with
  | none => simp [hz]
  | some r => obtain ⟨i, v⟩ := r; simp
def lookK (a b : Nat) : Option Int := (signL.find? (fun x => decide (a = x.1) && decide (b = x.2.1))).map (fun x => x.2.2)
theorem findS_K (a b : Nat) : ∀ (l : List (Nat × Nat × Int)) (i : Nat), (findS a b i l).map (·.2) = (l.find? (fun x => decide (a = x.1) && decide (b = x.2.1))).map (fun x => Value.agg (jointL x.2.2).toArray) := by
  intro l
  induction l with
  | nil => intro i; rfl
  | cons x l ih =>
    intro i
    rw [findS, List.find?_cons]
    by_cases h : a = x.1 ∧ b = x.2.1
    · rw [if_pos h, show (decide (a = x.1) && decide (b = x.2.1)) = true by simp [h.1, h.2]]; rfl
    · rw [if_neg h, show (decide (a = x.1) && decide (b = x.2.1)) = false by rw [Bool.and_eq_false_iff]; simp only [decide_eq_false_iff_not]; omega]; exact ih _
theorem lookV_is (a b : Nat) : lookV a b = match lookK a b with
    | some k => .tuple #[.agg (jointL k).toArray, .bool true]
    | none => .tuple #[jointZ, .bool false] := by
  have h := findS_K a b signL 0
  unfold lookV lookK
  cases h1 : findS a b 0 signL with
  | none =>
    rw [h1] at h
    cases h2 : signL.find? (fun x => decide (a = x.1) && decide (b = x.2.1)) with
    | none => rfl
    | some x => rw [h2] at h; cases h
  | some r =>
    rw [h1] at h
    cases h2 : signL.find? (fun x => decide (a = x.1) && decide (b = x.2.1)) with
    | none => rw [h2] at h; cases h
    | some x =>
      rw [h2] at h
      obtain ⟨i, v⟩ := r
      simp only [Option.map_some, Option.some.injEq] at h
      simp only [Option.map_some]
      rw [← h]
def jnt2 (c d : Nat) : Option (Int × Nat) :=
  if c = 124 then some (6, 1) else if c = 44 then some (7, 1) else if c = 47 ∧ d = 47 then some (21, 2) else if c = 61 ∧ d = 61 then some (17, 2) else if c = 33 ∧ d = 61 then some (18, 2)
  else if c = 60 ∧ d = 61 then some (20, 2) else if c = 60 then some (19, 1) else if c = 43 then some (15, 1) else if c = 45 then some (16, 1) else if c = 63 then some (23, 1) else none
theorem isAt_by {L : List UInt8} {p c : Nat} (hc : c ≠ 0) : isAt L p c = true ↔ byAt L p = c := by
  rw [isAt_yes]
  refine ⟨fun h => h.2, fun h => ⟨?_, h⟩⟩
  rcases Nat.lt_or_ge p L.length with h' | h'
  · exact h'
  · have := byAt_past h'; omega
theorem jnt_is (L : List UInt8) (p : Nat) : jntF L p = jnt2 (byAt L p) (byAt L (p + 1)) := by
  unfold jntF jnt2
  simp only [isAt_by (L := L) (p := p) (show (124 : Nat) ≠ 0 by decide), isAt_by (L := L) (p := p) (show (44 : Nat) ≠ 0 by decide), isAt_by (L := L) (p := p) (show (47 : Nat) ≠ 0 by decide), isAt_by (L := L) (p := p) (show (61 : Nat) ≠ 0 by decide), isAt_by (L := L) (p := p) (show (33 : Nat) ≠ 0 by decide), isAt_by (L := L) (p := p) (show (60 : Nat) ≠ 0 by decide), isAt_by (L := L) (p := p) (show (43 : Nat) ≠ 0 by decide), isAt_by (L := L) (p := p) (show (45 : Nat) ≠ 0 by decide), isAt_by (L := L) (p := p) (show (63 : Nat) ≠ 0 by decide), isAt_by (L := L) (p := p + 1) (show (47 : Nat) ≠ 0 by decide), isAt_by (L := L) (p := p + 1) (show (61 : Nat) ≠ 0 by decide)]
def jntK (c d : Nat) : Option (Int × Nat) := match (if d = 0 then none else lookK c d) with
  | some k => some (k, 2)
  | none => (lookK c 0).map (fun k => (k, 1))
theorem lookK_is (a b : Nat) : lookK a b = if a = 124 ∧ b = 0 then some 6 else if a = 44 ∧ b = 0 then some 7 else if a = 47 ∧ b = 47 then some 21 else if a = 61 ∧ b = 61 then some 17 else if a = 33 ∧ b = 61 then some 18 else if a = 60 ∧ b = 0 then some 19 else if a = 60 ∧ b = 61 then some 20 else if a = 43 ∧ b = 0 then some 15 else if a = 45 ∧ b = 0 then some 16 else if a = 63 ∧ b = 0 then some 23 else none := by
  have key : ∀ (l : List (Nat × Nat × Int)) (x : Nat × Nat × Int), ((x :: l).find? (fun x => decide (a = x.1) && decide (b = x.2.1))).map (fun x => x.2.2) = if a = x.1 ∧ b = x.2.1 then some x.2.2 else (l.find? (fun x => decide (a = x.1) && decide (b = x.2.1))).map (fun x => x.2.2) := fun l x => by
    rw [List.find?_cons]
    by_cases h : a = x.1 ∧ b = x.2.1
    · rw [if_pos h, show (decide (a = x.1) && decide (b = x.2.1)) = true by simp [h.1, h.2]]; rfl
    · rw [if_neg h, show (decide (a = x.1) && decide (b = x.2.1)) = false by rw [Bool.and_eq_false_iff]; simp only [decide_eq_false_iff_not]; omega]
  unfold lookK signL
  simp only [key]
  rfl
theorem jnt_K (c d : Nat) : jnt2 c d = jntK c d := by
  unfold jntK
  by_cases hd : d = 0
  · subst hd
    rw [if_pos rfl, lookK_is]
    unfold jnt2
    simp
    repeat' split
    all_goals first | rfl | omega
  · rw [if_neg hd, lookK_is, lookK_is]
    unfold jnt2
    by_cases h1 : c = 124
    · subst h1; simp [hd]
    by_cases h2 : c = 44
    · subst h2; simp [hd]
    by_cases h3 : c = 43
    · subst h3; simp [hd]
    by_cases h4 : c = 45
    · subst h4; simp [hd]
    by_cases h5 : c = 63
    · subst h5; simp [hd]
    by_cases h6 : c = 60
    · subst h6
      by_cases h7 : d = 61
      · subst h7; simp
      · simp [hd, h7]
    by_cases h8 : c = 47 ∧ d = 47
    · simp [h8.1, h8.2]
    by_cases h9 : c = 61 ∧ d = 61
    · simp [h9.1, h9.2]
    by_cases h10 : c = 33 ∧ d = 61
    · simp [h10.1, h10.2]
    · rw [if_neg h1, if_neg h2, if_neg h8, if_neg h9, if_neg h10, if_neg (fun e => h6 e.1), if_neg h6, if_neg h3, if_neg h4, if_neg h5]
      simp [h1, h2, h3, h4, h5, h6, h8, h9, h10]
end Go.Proofs.YtcidjhnogldgmaaGreatDoor

namespace Go.Proofs.YtcidjhnogldgmaaGreatDoor
open Go.RowKit
set_option linter.unusedSimpArgs false
set_option linter.unusedVariables false
theorem ret_jh {R : Ending → World → Prop} {a : Act} {W : World} {b : Nat} {c0 c1 c2 c3 c4 v : Value} {T : TypeId} {z : Nat × Nat} (hh : W.heap[b]? = some (.cells #[c0, c1, c2, c3, c4] T z)) (h2 : a.tmps.getD 2 undef = .pointer (some ⟨b, 0, none⟩)) (h3 : a.tmps.getD 3 undef = v) (hd : a.defers = []) (hR : R (.returned (.tuple #[.agg #[c0, c1, c2, c3, c4], v])) W) : bodyPost Tryz.prog Tryz.f77 R .ret a W := by
  have x0 : W.cell? ⟨b, 0, none⟩ = some c0 := cellAt hh (i := 0) rfl
  have x1 : W.cell? ⟨b, 1, none⟩ = some c1 := cellAt hh (i := 1) rfl
  have x2 : W.cell? ⟨b, 2, none⟩ = some c2 := cellAt hh (i := 2) rfl
  have x3 : W.cell? ⟨b, 3, none⟩ = some c3 := cellAt hh (i := 3) rfl
  have x4 : W.cell? ⟨b, 4, none⟩ = some c4 := cellAt hh (i := 4) rfl
  have h2' : a.tmps[2]?.getD undef = .pointer (some ⟨b, 0, none⟩) := by simpa using h2
  have h3' : a.tmps[3]?.getD undef = v := by simpa using h3
  refine bodyPost_ret ?_ hd hR
  simp [results, Tryz.results77, go_sem, h2', h3', x0, x1, x2, x3, x4]
theorem look_any (mb a b : Nat) : ∃ k t l f r ok, (∀ w : World, w.heap[mb]? = some (.map (signM 10) 10) → (Instr.lookup 83 (.map (some mb)) (.agg #[.int .u8 (a : Int), .int .u8 (b : Int)]) true).run Tryz.prog w = .ok (.tuple #[.agg #[.int .i64 k, .string t, .int .i64 l, .int .i64 f, .int .i64 r], .bool ok]) w) ∧ ((ok = true ∧ lookK a b = some k ∧ t = txt (sgnJ k) ∧ l = levF k ∧ f = lftJ k ∧ r = rgtJ k) ∨ (ok = false ∧ lookK a b = none)) := by
  cases hk : lookK a b with
  | none => exact ⟨0, ByteArray.empty, 0, 0, 0, false, fun w h => by rw [look_run h, lookV_is, hk]; rfl, .inr ⟨rfl, rfl⟩⟩
  | some k => exact ⟨k, txt (sgnJ k), levF k, lftJ k, rgtJ k, true, fun w h => by rw [look_run h, lookV_is, hk]; rfl, .inl ⟨rfl, rfl, rfl, rfl, rfl, rfl⟩⟩
theorem look_zero (mb a : Nat) : ∃ k t l f r ok, (∀ w : World, w.heap[mb]? = some (.map (signM 10) 10) → (Instr.lookup 83 (.map (some mb)) (.agg #[.int .u8 (a : Int), .int .u8 0]) true).run Tryz.prog w = .ok (.tuple #[.agg #[.int .i64 k, .string t, .int .i64 l, .int .i64 f, .int .i64 r], .bool ok]) w) ∧ ((ok = true ∧ lookK a 0 = some k ∧ t = txt (sgnJ k) ∧ l = levF k ∧ f = lftJ k ∧ r = rgtJ k) ∨ (ok = false ∧ lookK a 0 = none)) := look_any mb a 0
def jhV (o : Option (Int × Nat)) : Value := match o with
  | some (k, n) => .tuple #[.agg #[.int .i64 k, .string (txt (sgnJ k)), .int .i64 (levF k), .int .i64 (lftJ k), .int .i64 (rgtJ k)], .int .i64 (n : Int)]
  | none => .tuple #[.agg #[.int .i64 0, .string ⟨#[]⟩, .int .i64 0, .int .i64 0, .int .i64 0], .int .i64 0]
end Go.Proofs.YtcidjhnogldgmaaGreatDoor

namespace Go.Proofs.YtcidjhnogldgmaaGreatDoor
open Go.RowKit
set_option linter.unusedSimpArgs false
set_option linter.unusedVariables false
set_option maxRecDepth 100000 in
set_option maxHeartbeats 12800000 in
theorem jointHere_two {rb mb base p : Nat} {Z : Nat → Prop} {s : ByteArray} {fs : List FN} {w : World} (h : FrAt w rb mb base Z s p fs) (hs : s.size ≤ 4000) (hq : p + 1 < s.size) :
    Calls Tryz.prog 77 #[.pointer (some ⟨rb, 0, none⟩)] w fun e w' => e = .returned (jhV (jntF s.data.toList p)) ∧ Below w.heap.size w w' := by
  obtain ⟨W1, hW1⟩ : ∃ W1, w.alloc (.cells #[.int .i64 0, .string ⟨#[]⟩, .int .i64 0, .int .i64 0, .int .i64 0] 116) = W1 := ⟨_, rfl⟩
  have hb1 : Below w.heap.size w W1 := by rw [← hW1]; exact (Below.refl _ _).alloc (Nat.le_refl _) _
  have hx1 : W1.heap[w.heap.size]? = some (.cells #[.int .i64 0, .string ⟨#[]⟩, .int .i64 0, .int .i64 0, .int .i64 0] 116 (0, 0)) := by rw [← hW1]; exact heap_alloc_new w _
  have hz1 : w.heap.size < W1.heap.size := by rw [← hW1]; simp
  have HLN := hideB (len_is s)
  have hp := h.le
  have HJ : Hid (jntF s.data.toList p = jntK (byAt s.data.toList p) (byAt s.data.toList (p + 1))) := by rw [Hid, jnt_is, jnt_K]
  obtain ⟨c, hc⟩ : ∃ c, byAt s.data.toList p = c := ⟨_, rfl⟩
  obtain ⟨d, hd⟩ : ∃ d, byAt s.data.toList (p + 1) = d := ⟨_, rfl⟩
  have hc256 : c < 256 := by rw [← hc]; exact byAt_lt _ _
  have hd256 : d < 256 := by rw [← hd]; exact byAt_lt _ _
  rw [hc, hd] at HJ
  have HD := hideB hd
  have HX1 := hideB hx1
  have HB1 := hideB hb1
  have HF1 := hideB (h.below hb1)
  have HPK := hideB (peek_any (let ⟨v, h1, _⟩ := HF1.out.ex; h1.br) (by omega))
  rw [hc] at HPK
  clear h hb1 hx1 hc hd
  go_enter Tryz.func77, Tryz.ntmps77
  go_wp2_with fail
  (try rw [hW1])
  refine HPK.out.mono ?_
  rintro e w1 ⟨rfl, hb2⟩
  have HB2 := hideB hb2
  have HF2 := hideB (HF1.out.below hb2)
  have hz2 : w.heap.size < w1.heap.size := Nat.lt_of_lt_of_le hz1 hb2.size
  have HX2 : Hid (w1.heap[w.heap.size]? = _) := (hb2.block _ hz1).trans HX1.out
  obtain ⟨W2, hW2⟩ : ∃ W2, w1.alloc (.cells #[.int .u8 (c : Int), .int .u8 0] 120) = W2 := ⟨_, rfl⟩
  have hb3 : Below w1.heap.size w1 W2 := by rw [← hW2]; exact (Below.refl _ _).alloc (Nat.le_refl _) _
  have HB3 := hideB hb3
  have HF3 := hideB (HF2.out.below hb3)
  have HX3 : Hid (W2.heap[w.heap.size]? = _) := (hb3.block _ hz2).trans HX2.out
  have HY3 : Hid (W2.heap[w1.heap.size]? = some (.cells #[.int .u8 (c : Int), .int .u8 0] 120 (0, 0))) := by rw [Hid, ← hW2]; exact heap_alloc_new w1 _
  have hz3 : w1.heap.size < W2.heap.size := by rw [← hW2]; simp
  have HW2 := hideB hW2
  clear hb2 hb3 hW2
  go_wp2_with fail
  rw [HW2.out]
  obtain ⟨c0, c1, f1, lt0⟩ := HF3.out.cells
  have y0 : W2.cell? ⟨w1.heap.size, 0, none⟩ = some (.int .u8 (c : Int)) := cellAt HY3.out rfl
  have y1 : W2.cell? ⟨w1.heap.size, 1, none⟩ = some (.int .u8 0) := cellAt HY3.out rfl
  have g1 : W2.frozen? ⟨w1.heap.size, 1, none⟩ = false := Lib.frozen_of_heap HY3.out 1
  have hq' : (p : Int) + 1 < (s.size : Int) := by omega
  have hqd : decide ((p : Int) + 1 < (s.size : Int)) = true := by simpa using hq'
  have hby : s[p + 1].toNat = d := by rw [byS hq]; exact HD.out
  have hte : ((p : Int) + 1).toNat = p + 1 := by omega
  go_quiet (fail)
  have HD4 := hideB (below_drewB (w := W2) nq)
  obtain ⟨W3, hW3⟩ : ∃ W3, W2.drewN nq = W3 := ⟨_, rfl⟩
  rw [hW3] at HD4 ⊢
  have HF4 := hideB (HF3.out.below HD4.out)
  have HX4 : Hid (W3.heap[w.heap.size]? = _) := (HD4.out.block _ (by omega)).trans HX3.out
  have hy4 : W3.heap[w1.heap.size]? = some (.cells #[.int .u8 (c : Int), .int .u8 0] 120 (0, 0)) := (HD4.out.block _ (by omega)).trans HY3.out
  have hz4 : w1.heap.size < W3.heap.size := Nat.lt_of_lt_of_le hz3 HD4.out.size
  clear c0 c1 f1 lt0 y0 y1 g1 hW3 nq
  obtain ⟨c0, c1, f1, lt0⟩ := HF4.out.cells
  have y1 : W3.cell? ⟨w1.heap.size, 1, none⟩ = some (.int .u8 0) := cellAt hy4 rfl
  have g1 : W3.frozen? ⟨w1.heap.size, 1, none⟩ = false := Lib.frozen_of_heap hy4 1
  have HY4 := hideB hy4
  clear hy4
  go_wp2_with fail
  go_region
  obtain ⟨WA, hWA⟩ : ∃ WA, (W3.setCell ⟨w1.heap.size, 1, none⟩ (.int .u8 (d : Int))).drew = WA := ⟨_, rfl⟩
  rw [hWA]
  have hbA : Below w1.heap.size W3 WA := by rw [← hWA]; exact ((Below.refl _ _).setCell (p := ⟨w1.heap.size, 1, none⟩) (Nat.le_refl _) _).drew
  have HYA : Hid (WA.heap[w1.heap.size]? = some (.cells #[.int .u8 (c : Int), .int .u8 (d : Int)] 120 (0, 0))) := by rw [Hid, ← hWA]; exact setH HY4.out _
  have HXA : Hid (WA.heap[w.heap.size]? = _) := (hbA.block _ (by omega)).trans HX4.out
  have hzA : w1.heap.size < WA.heap.size := Nat.lt_of_lt_of_le hz4 hbA.size
  have HBA : Hid (Below w.heap.size w WA) := (((HB1.out.trans (HB2.out.mono (by omega))).trans (HB3.out.mono (by omega))).trans (HD4.out.mono (by omega))).trans (hbA.mono (by omega))
  have m3 : WA.cell? ⟨rb, 3, none⟩ = some (.map (some mb)) := by
    obtain ⟨v, h1, _⟩ := HF4.out.ex
    rw [← hWA]
    simp only [World.cell?_drew]
    rw [World.cell?_setCell_other (h := by have := (HF2.out.cells).2.2.2; simp; try omega)]
    exact h1.bl 3 (by decide)
  have mmp : WA.heap[mb]? = some (.map (signM 10) 10) := (hbA.block mb (by have := HF2.out.box.mb_lt; have := HF2.out.box.sz; omega)).trans HF4.out.box.mp
  clear hWA hbA c0 c1 f1 y1 g1 hq hq' hqd hby hte HD4 HF4 HX4 HY4 hz4
  all_goals
    obtain ⟨k1, t1, l1, fl1, r1, ok1, hlk, hor1⟩ := look_any mb c d
    have hlk1 := hlk WA.drew mmp
    have hmb : mb < WA.heap.size := ltHF mmp
    have hlk2 := hlk ((WA.alloc (.cells #[.int .i64 0, .string ⟨#[]⟩, .int .i64 0, .int .i64 0, .int .i64 0] 116)).drew) ((heap_alloc_old WA _ hmb).trans mmp)
    have HOR1 := hideB hor1
    have HMP := hideB mmp
    have hrl : rb < WA.heap.size := by have := HF2.out.cells.2.2.2; omega
    clear hor1 mmp hlk
    have y0 : WA.cell? ⟨w1.heap.size, 0, none⟩ = some (.int .u8 (c : Int)) := cellAt HYA.out rfl
    have y1 : WA.cell? ⟨w1.heap.size, 1, none⟩ = some (.int .u8 (d : Int)) := cellAt HYA.out rfl
    have HW2' := HW2
    clear HW2
    go_wp2_with fail
    go_region
  all_goals
    obtain ⟨WB, hWB⟩ : ∃ WB, (WA.alloc (.cells #[.int .i64 k1, .string t1, .int .i64 l1, .int .i64 fl1, .int .i64 r1] 116)).drew = WB := ⟨_, rfl⟩
    rw [hWB]
    have hbB : Below WA.heap.size WA WB := by rw [← hWB]; exact ((Below.refl _ _).alloc (Nat.le_refl _) _).drew
    have hjB : WB.heap[WA.heap.size]? = some (.cells #[.int .i64 k1, .string t1, .int .i64 l1, .int .i64 fl1, .int .i64 r1] 116 (0, 0)) := by rw [← hWB]; exact heap_alloc_new WA _
    have HXB : Hid (WB.heap[w.heap.size]? = _) := (hbB.block _ (by omega)).trans HXA.out
    have HYB : Hid (WB.heap[w1.heap.size]? = _) := (hbB.block _ (by omega)).trans HYA.out
    have HMPB : Hid (WB.heap[mb]? = _) := (hbB.block _ hmb).trans HMP.out
    have HBB := hideB (HBA.out.trans (hbB.mono (by omega)))
    have hzB : WA.heap.size < WB.heap.size := by rw [← hWB]; simp
    have hmbB : mb < WB.heap.size := by omega
    have m3' : WB.cell? ⟨rb, 3, none⟩ = some (.map (some mb)) := (cellOf (hbB.block rb hrl)).trans m3
    clear hWB hbB hlk1 hlk2 m3 y0 y1
    have m3 := m3'
    clear m3'
    have y0 : WB.cell? ⟨w1.heap.size, 0, none⟩ = some (.int .u8 (c : Int)) := cellAt HYB.out rfl
    have y1 : WB.cell? ⟨w1.heap.size, 1, none⟩ = some (.int .u8 (d : Int)) := cellAt HYB.out rfl
    have j0 := cellAt hjB (i := 0) rfl
    have j1 := cellAt hjB (i := 1) rfl
    have j2 := cellAt hjB (i := 2) rfl
    have j3 := cellAt hjB (i := 3) rfl
    have j4 := cellAt hjB (i := 4) rfl
    have u0 := cellAt HXB.out (i := 0) rfl
    have u1 := cellAt HXB.out (i := 1) rfl
    have u2 := cellAt HXB.out (i := 2) rfl
    have u3 := cellAt HXB.out (i := 3) rfl
    have u4 := cellAt HXB.out (i := 4) rfl
    have v0 : WB.frozen? ⟨w.heap.size, 0, none⟩ = false := Lib.frozen_of_heap HXB.out 0
    have v1 : WB.frozen? ⟨w.heap.size, 1, none⟩ = false := Lib.frozen_of_heap HXB.out 1
    have v2 : WB.frozen? ⟨w.heap.size, 2, none⟩ = false := Lib.frozen_of_heap HXB.out 2
    have v3 : WB.frozen? ⟨w.heap.size, 3, none⟩ = false := Lib.frozen_of_heap HXB.out 3
    have v4 : WB.frozen? ⟨w.heap.size, 4, none⟩ = false := Lib.frozen_of_heap HXB.out 4
    have hne2 : ¬ w.heap.size = WA.heap.size := by omega
    have hne3 : ¬ WA.heap.size = w.heap.size := by omega
    have hrlB : rb < WB.heap.size := by omega
    have hw1B : w1.heap.size < WB.heap.size := by omega
    clear hjB HXA HYA HMP hrl hmb
    by_cases hA : ok1 = true ∧ d ≠ 0
    · obtain ⟨hok, hd0⟩ := hA
      subst hok
      have dne : ((d : Int) != 0) = true := by simp; omega
      have dne2 : ¬ (d : Int) = 0 := by omega
      have HR : Hid (jhV (jntF s.data.toList p) = .tuple #[.agg #[.int .i64 k1, .string t1, .int .i64 l1, .int .i64 fl1, .int .i64 r1], .int .i64 2]) := by
        rcases HOR1.out with ⟨_, hk, e1, e2, e3, e4⟩ | ⟨e, _⟩
        · rw [Hid, HJ.out]; unfold jntK; rw [if_neg hd0, hk, e1, e2, e3, e4]; rfl
        · cases e
      clear HOR1
      go_wp2_with fail
      refine ret_jh (set5 HXB.out) rfl rfl rfl ?_
      exact ⟨by rw [HR.out]; rfl, ((((HBB.out.setCell (p := ⟨w.heap.size, 0, none⟩) (Nat.le_refl _) _).setCell (p := ⟨w.heap.size, 1, none⟩) (Nat.le_refl _) _).setCell (p := ⟨w.heap.size, 2, none⟩) (Nat.le_refl _) _).setCell (p := ⟨w.heap.size, 3, none⟩) (Nat.le_refl _) _).setCell (p := ⟨w.heap.size, 4, none⟩) (Nat.le_refl _) _⟩
    have HFST : Hid ((if d = 0 then none else lookK c d) = none) := by
      rw [Hid]
      split
      · rfl
      · rename_i hd0
        rcases HOR1.out with ⟨e, _⟩ | ⟨_, hk⟩
        · exact absurd ⟨e, hd0⟩ hA
        · exact hk
    have hB : ok1 = false ∨ (ok1 = true ∧ (d : Int) = 0) := by
      cases ok1
      · exact .inl rfl
      · refine .inr ⟨rfl, ?_⟩
        by_cases h : d = 0
        · omega
        · exact absurd ⟨rfl, h⟩ hA
    clear HOR1 hA
    rcases hB with hB | ⟨hB, hd0⟩
    · subst hB
      obtain ⟨k2, t2, l2, fl2, r2, ok2, hlk, hor2⟩ := look_zero mb c
      have hlk1 := hlk WB.drew HMPB.out
      have hlk2 := hlk ((WB.alloc (.cells #[.int .i64 0, .string ⟨#[]⟩, .int .i64 0, .int .i64 0, .int .i64 0] 116)).drew) ((heap_alloc_old WB _ hmbB).trans HMPB.out)
      clear hlk
      have HOR2 := hideB hor2
      clear hor2
      go_wp2_with fail
      go_region
      all_goals
        obtain ⟨WC, hWC⟩ : ∃ WC, (WB.alloc (.cells #[.int .i64 k2, .string t2, .int .i64 l2, .int .i64 fl2, .int .i64 r2] 116)).drew = WC := ⟨_, rfl⟩
        rw [hWC]
        have hbC : Below WB.heap.size WB WC := by rw [← hWC]; exact ((Below.refl _ _).alloc (Nat.le_refl _) _).drew
        have hjC : WC.heap[WB.heap.size]? = some (.cells #[.int .i64 k2, .string t2, .int .i64 l2, .int .i64 fl2, .int .i64 r2] 116 (0, 0)) := by rw [← hWC]; exact heap_alloc_new WB _
        have HXC : Hid (WC.heap[w.heap.size]? = _) := (hbC.block _ (by omega)).trans HXB.out
        have HBC := hideB (HBB.out.trans (hbC.mono (by omega)))
        have hzC : WB.heap.size < WC.heap.size := by rw [← hWC]; simp
        clear hWC hbC hlk1 hlk2 m3 y0 y1 u0 u1 u2 u3 u4 v0 v1 v2 v3 v4 j0 j1 j2 j3 j4
        have j0 := cellAt hjC (i := 0) rfl
        have j1 := cellAt hjC (i := 1) rfl
        have j2 := cellAt hjC (i := 2) rfl
        have j3 := cellAt hjC (i := 3) rfl
        have j4 := cellAt hjC (i := 4) rfl
        have u0 := cellAt HXC.out (i := 0) rfl
        have u1 := cellAt HXC.out (i := 1) rfl
        have u2 := cellAt HXC.out (i := 2) rfl
        have u3 := cellAt HXC.out (i := 3) rfl
        have u4 := cellAt HXC.out (i := 4) rfl
        have v0 : WC.frozen? ⟨w.heap.size, 0, none⟩ = false := Lib.frozen_of_heap HXC.out 0
        have v1 : WC.frozen? ⟨w.heap.size, 1, none⟩ = false := Lib.frozen_of_heap HXC.out 1
        have v2 : WC.frozen? ⟨w.heap.size, 2, none⟩ = false := Lib.frozen_of_heap HXC.out 2
        have v3 : WC.frozen? ⟨w.heap.size, 3, none⟩ = false := Lib.frozen_of_heap HXC.out 3
        have v4 : WC.frozen? ⟨w.heap.size, 4, none⟩ = false := Lib.frozen_of_heap HXC.out 4
        have hne2 : ¬ w.heap.size = WB.heap.size := by omega
        have hne3 : ¬ WB.heap.size = w.heap.size := by omega
        clear hjC
        rcases HOR2.out with ⟨e, hk, e1, e2, e3, e4⟩ | ⟨e, hk⟩
        · subst e
          have HR : Hid (jhV (jntF s.data.toList p) = .tuple #[.agg #[.int .i64 k2, .string t2, .int .i64 l2, .int .i64 fl2, .int .i64 r2], .int .i64 1]) := by rw [Hid, HJ.out]; unfold jntK; rw [HFST.out, hk, e1, e2, e3, e4]; rfl
          clear hk e1 e2 e3 e4 HOR2
          go_wp2_with fail
          refine ret_jh (set5 HXC.out) rfl rfl rfl ?_
          exact ⟨by rw [HR.out]; rfl, ((((HBC.out.setCell (p := ⟨w.heap.size, 0, none⟩) (Nat.le_refl _) _).setCell (p := ⟨w.heap.size, 1, none⟩) (Nat.le_refl _) _).setCell (p := ⟨w.heap.size, 2, none⟩) (Nat.le_refl _) _).setCell (p := ⟨w.heap.size, 3, none⟩) (Nat.le_refl _) _).setCell (p := ⟨w.heap.size, 4, none⟩) (Nat.le_refl _) _⟩
        · subst e
          have HR : Hid (jhV (jntF s.data.toList p) = .tuple #[.agg #[.int .i64 0, .string ⟨#[]⟩, .int .i64 0, .int .i64 0, .int .i64 0], .int .i64 0]) := by rw [Hid, HJ.out]; unfold jntK; rw [HFST.out, hk]; rfl
          clear hk HOR2
          go_wp2_with fail
          refine ret_jh (set5 HXC.out) rfl rfl rfl ?_
          exact ⟨by rw [HR.out]; rfl, ((((HBC.out.setCell (p := ⟨w.heap.size, 0, none⟩) (Nat.le_refl _) _).setCell (p := ⟨w.heap.size, 1, none⟩) (Nat.le_refl _) _).setCell (p := ⟨w.heap.size, 2, none⟩) (Nat.le_refl _) _).setCell (p := ⟨w.heap.size, 3, none⟩) (Nat.le_refl _) _).setCell (p := ⟨w.heap.size, 4, none⟩) (Nat.le_refl _) _⟩
    · subst hB
      rw [hd0] at y1
      clear hd0
      obtain ⟨k2, t2, l2, fl2, r2, ok2, hlk, hor2⟩ := look_zero mb c
      have hlk1 := hlk WB.drew HMPB.out
      have hlk2 := hlk ((WB.alloc (.cells #[.int .i64 0, .string ⟨#[]⟩, .int .i64 0, .int .i64 0, .int .i64 0] 116)).drew) ((heap_alloc_old WB _ hmbB).trans HMPB.out)
      clear hlk
      have HOR2 := hideB hor2
      clear hor2
      go_wp2_with fail
      go_region
      all_goals
        obtain ⟨WC, hWC⟩ : ∃ WC, (WB.alloc (.cells #[.int .i64 k2, .string t2, .int .i64 l2, .int .i64 fl2, .int .i64 r2] 116)).drew = WC := ⟨_, rfl⟩
        rw [hWC]
        have hbC : Below WB.heap.size WB WC := by rw [← hWC]; exact ((Below.refl _ _).alloc (Nat.le_refl _) _).drew
        have hjC : WC.heap[WB.heap.size]? = some (.cells #[.int .i64 k2, .string t2, .int .i64 l2, .int .i64 fl2, .int .i64 r2] 116 (0, 0)) := by rw [← hWC]; exact heap_alloc_new WB _
        have HXC : Hid (WC.heap[w.heap.size]? = _) := (hbC.block _ (by omega)).trans HXB.out
        have HBC := hideB (HBB.out.trans (hbC.mono (by omega)))
        have hzC : WB.heap.size < WC.heap.size := by rw [← hWC]; simp
        clear hWC hbC hlk1 hlk2 m3 y0 y1 u0 u1 u2 u3 u4 v0 v1 v2 v3 v4 j0 j1 j2 j3 j4
        have j0 := cellAt hjC (i := 0) rfl
        have j1 := cellAt hjC (i := 1) rfl
        have j2 := cellAt hjC (i := 2) rfl
        have j3 := cellAt hjC (i := 3) rfl
        have j4 := cellAt hjC (i := 4) rfl
        have u0 := cellAt HXC.out (i := 0) rfl
        have u1 := cellAt HXC.out (i := 1) rfl
        have u2 := cellAt HXC.out (i := 2) rfl
        have u3 := cellAt HXC.out (i := 3) rfl
        have u4 := cellAt HXC.out (i := 4) rfl
        have v0 : WC.frozen? ⟨w.heap.size, 0, none⟩ = false := Lib.frozen_of_heap HXC.out 0
        have v1 : WC.frozen? ⟨w.heap.size, 1, none⟩ = false := Lib.frozen_of_heap HXC.out 1
        have v2 : WC.frozen? ⟨w.heap.size, 2, none⟩ = false := Lib.frozen_of_heap HXC.out 2
        have v3 : WC.frozen? ⟨w.heap.size, 3, none⟩ = false := Lib.frozen_of_heap HXC.out 3
        have v4 : WC.frozen? ⟨w.heap.size, 4, none⟩ = false := Lib.frozen_of_heap HXC.out 4
        have hne2 : ¬ w.heap.size = WB.heap.size := by omega
        have hne3 : ¬ WB.heap.size = w.heap.size := by omega
        clear hjC
        rcases HOR2.out with ⟨e, hk, e1, e2, e3, e4⟩ | ⟨e, hk⟩
        · subst e
          have HR : Hid (jhV (jntF s.data.toList p) = .tuple #[.agg #[.int .i64 k2, .string t2, .int .i64 l2, .int .i64 fl2, .int .i64 r2], .int .i64 1]) := by rw [Hid, HJ.out]; unfold jntK; rw [HFST.out, hk, e1, e2, e3, e4]; rfl
          clear hk e1 e2 e3 e4 HOR2
          go_wp2_with fail
          refine ret_jh (set5 HXC.out) rfl rfl rfl ?_
          exact ⟨by rw [HR.out]; rfl, ((((HBC.out.setCell (p := ⟨w.heap.size, 0, none⟩) (Nat.le_refl _) _).setCell (p := ⟨w.heap.size, 1, none⟩) (Nat.le_refl _) _).setCell (p := ⟨w.heap.size, 2, none⟩) (Nat.le_refl _) _).setCell (p := ⟨w.heap.size, 3, none⟩) (Nat.le_refl _) _).setCell (p := ⟨w.heap.size, 4, none⟩) (Nat.le_refl _) _⟩
        · subst e
          have HR : Hid (jhV (jntF s.data.toList p) = .tuple #[.agg #[.int .i64 0, .string ⟨#[]⟩, .int .i64 0, .int .i64 0, .int .i64 0], .int .i64 0]) := by rw [Hid, HJ.out]; unfold jntK; rw [HFST.out, hk]; rfl
          clear hk HOR2
          go_wp2_with fail
          refine ret_jh (set5 HXC.out) rfl rfl rfl ?_
          exact ⟨by rw [HR.out]; rfl, ((((HBC.out.setCell (p := ⟨w.heap.size, 0, none⟩) (Nat.le_refl _) _).setCell (p := ⟨w.heap.size, 1, none⟩) (Nat.le_refl _) _).setCell (p := ⟨w.heap.size, 2, none⟩) (Nat.le_refl _) _).setCell (p := ⟨w.heap.size, 3, none⟩) (Nat.le_refl _) _).setCell (p := ⟨w.heap.size, 4, none⟩) (Nat.le_refl _) _⟩
end Go.Proofs.YtcidjhnogldgmaaGreatDoor

namespace Go.Proofs.YtcidjhnogldgmaaGreatDoor
open Go.RowKit
set_option linter.unusedSimpArgs false
set_option linter.unusedVariables false
set_option maxRecDepth 100000 in
set_option maxHeartbeats 12800000 in
theorem jointHere_one {rb mb base p : Nat} {Z : Nat → Prop} {s : ByteArray} {fs : List FN} {w : World} (h : FrAt w rb mb base Z s p fs) (hs : s.size ≤ 4000) (hq : ¬ p + 1 < s.size) :
    Calls Tryz.prog 77 #[.pointer (some ⟨rb, 0, none⟩)] w fun e w' => e = .returned (jhV (jntF s.data.toList p)) ∧ Below w.heap.size w w' := by
  obtain ⟨W1, hW1⟩ : ∃ W1, w.alloc (.cells #[.int .i64 0, .string ⟨#[]⟩, .int .i64 0, .int .i64 0, .int .i64 0] 116) = W1 := ⟨_, rfl⟩
  have hb1 : Below w.heap.size w W1 := by rw [← hW1]; exact (Below.refl _ _).alloc (Nat.le_refl _) _
  have hx1 : W1.heap[w.heap.size]? = some (.cells #[.int .i64 0, .string ⟨#[]⟩, .int .i64 0, .int .i64 0, .int .i64 0] 116 (0, 0)) := by rw [← hW1]; exact heap_alloc_new w _
  have hz1 : w.heap.size < W1.heap.size := by rw [← hW1]; simp
  have HLN := hideB (len_is s)
  have hp := h.le
  have HJ : Hid (jntF s.data.toList p = jntK (byAt s.data.toList p) (byAt s.data.toList (p + 1))) := by rw [Hid, jnt_is, jnt_K]
  obtain ⟨c, hc⟩ : ∃ c, byAt s.data.toList p = c := ⟨_, rfl⟩
  obtain ⟨d, hd⟩ : ∃ d, byAt s.data.toList (p + 1) = d := ⟨_, rfl⟩
  have hc256 : c < 256 := by rw [← hc]; exact byAt_lt _ _
  have hd256 : d < 256 := by rw [← hd]; exact byAt_lt _ _
  rw [hc, hd] at HJ
  have HD := hideB hd
  have HX1 := hideB hx1
  have HB1 := hideB hb1
  have HF1 := hideB (h.below hb1)
  have HPK := hideB (peek_any (let ⟨v, h1, _⟩ := HF1.out.ex; h1.br) (by omega))
  rw [hc] at HPK
  clear h hb1 hx1 hc hd
  go_enter Tryz.func77, Tryz.ntmps77
  go_wp2_with fail
  (try rw [hW1])
  refine HPK.out.mono ?_
  rintro e w1 ⟨rfl, hb2⟩
  have HB2 := hideB hb2
  have HF2 := hideB (HF1.out.below hb2)
  have hz2 : w.heap.size < w1.heap.size := Nat.lt_of_lt_of_le hz1 hb2.size
  have HX2 : Hid (w1.heap[w.heap.size]? = _) := (hb2.block _ hz1).trans HX1.out
  obtain ⟨W2, hW2⟩ : ∃ W2, w1.alloc (.cells #[.int .u8 (c : Int), .int .u8 0] 120) = W2 := ⟨_, rfl⟩
  have hb3 : Below w1.heap.size w1 W2 := by rw [← hW2]; exact (Below.refl _ _).alloc (Nat.le_refl _) _
  have HB3 := hideB hb3
  have HF3 := hideB (HF2.out.below hb3)
  have HX3 : Hid (W2.heap[w.heap.size]? = _) := (hb3.block _ hz2).trans HX2.out
  have HY3 : Hid (W2.heap[w1.heap.size]? = some (.cells #[.int .u8 (c : Int), .int .u8 0] 120 (0, 0))) := by rw [Hid, ← hW2]; exact heap_alloc_new w1 _
  have hz3 : w1.heap.size < W2.heap.size := by rw [← hW2]; simp
  have HW2 := hideB hW2
  clear hb2 hb3 hW2
  go_wp2_with fail
  rw [HW2.out]
  obtain ⟨c0, c1, f1, lt0⟩ := HF3.out.cells
  have y0 : W2.cell? ⟨w1.heap.size, 0, none⟩ = some (.int .u8 (c : Int)) := cellAt HY3.out rfl
  have y1 : W2.cell? ⟨w1.heap.size, 1, none⟩ = some (.int .u8 0) := cellAt HY3.out rfl
  have g1 : W2.frozen? ⟨w1.heap.size, 1, none⟩ = false := Lib.frozen_of_heap HY3.out 1
  have hd0 : (d : Int) = 0 := by
    have := byAt_past (L := s.data.toList) (p := p + 1) (by rw [HLN.out]; omega)
    rw [HD.out] at this; omega
  have hq' : ¬ (p : Int) + 1 < (s.size : Int) := by omega
  have hqd : decide ((p : Int) + 1 < (s.size : Int)) = false := by simpa using hq'
  have HD0 := hideB hd0
  clear hd0
  go_quiet (fail)
  have HD4 := hideB (below_drewB (w := W2) nq)
  obtain ⟨WA, hWA⟩ : ∃ WA, W2.drewN nq = WA := ⟨_, rfl⟩
  rw [hWA] at HD4 ⊢
  have HFA := hideB (HF3.out.below HD4.out)
  have HXA : Hid (WA.heap[w.heap.size]? = _) := (HD4.out.block _ (by omega)).trans HX3.out
  have HYA : Hid (WA.heap[w1.heap.size]? = some (.cells #[.int .u8 (c : Int), .int .u8 (d : Int)] 120 (0, 0))) := by rw [Hid, HD0.out]; exact (HD4.out.block _ (by omega)).trans HY3.out
  have hzA : w1.heap.size < WA.heap.size := Nat.lt_of_lt_of_le hz3 HD4.out.size
  have HBA : Hid (Below w.heap.size w WA) := ((HB1.out.trans (HB2.out.mono (by omega))).trans (HB3.out.mono (by omega))).trans (HD4.out.mono (by omega))
  have m3 : WA.cell? ⟨rb, 3, none⟩ = some (.map (some mb)) := by
    obtain ⟨v, h1, _⟩ := HFA.out.ex
    exact h1.bl 3 (by decide)
  have mmp : WA.heap[mb]? = some (.map (signM 10) 10) := HFA.out.box.mp
  clear hWA c0 c1 f1 y0 y1 g1 hq hq' hqd HD4 HFA nq
  all_goals
    obtain ⟨k1, t1, l1, fl1, r1, ok1, hlk, hor1⟩ := look_any mb c d
    have hlk1 := hlk WA.drew mmp
    have hmb : mb < WA.heap.size := ltHF mmp
    have hlk2 := hlk ((WA.alloc (.cells #[.int .i64 0, .string ⟨#[]⟩, .int .i64 0, .int .i64 0, .int .i64 0] 116)).drew) ((heap_alloc_old WA _ hmb).trans mmp)
    have HOR1 := hideB hor1
    have HMP := hideB mmp
    have hrl : rb < WA.heap.size := by have := HF2.out.cells.2.2.2; omega
    clear hor1 mmp hlk
    have y0 : WA.cell? ⟨w1.heap.size, 0, none⟩ = some (.int .u8 (c : Int)) := cellAt HYA.out rfl
    have y1 : WA.cell? ⟨w1.heap.size, 1, none⟩ = some (.int .u8 (d : Int)) := cellAt HYA.out rfl
    have HW2' := HW2
    clear HW2
    go_wp2_with fail
    go_region
  all_goals
    obtain ⟨WB, hWB⟩ : ∃ WB, (WA.alloc (.cells #[.int .i64 k1, .string t1, .int .i64 l1, .int .i64 fl1, .int .i64 r1] 116)).drew = WB := ⟨_, rfl⟩
    rw [hWB]
    have hbB : Below WA.heap.size WA WB := by rw [← hWB]; exact ((Below.refl _ _).alloc (Nat.le_refl _) _).drew
    have hjB : WB.heap[WA.heap.size]? = some (.cells #[.int .i64 k1, .string t1, .int .i64 l1, .int .i64 fl1, .int .i64 r1] 116 (0, 0)) := by rw [← hWB]; exact heap_alloc_new WA _
    have HXB : Hid (WB.heap[w.heap.size]? = _) := (hbB.block _ (by omega)).trans HXA.out
    have HYB : Hid (WB.heap[w1.heap.size]? = _) := (hbB.block _ (by omega)).trans HYA.out
    have HMPB : Hid (WB.heap[mb]? = _) := (hbB.block _ hmb).trans HMP.out
    have HBB := hideB (HBA.out.trans (hbB.mono (by omega)))
    have hzB : WA.heap.size < WB.heap.size := by rw [← hWB]; simp
    have hmbB : mb < WB.heap.size := by omega
    have m3' : WB.cell? ⟨rb, 3, none⟩ = some (.map (some mb)) := (cellOf (hbB.block rb hrl)).trans m3
    clear hWB hbB hlk1 hlk2 m3 y0 y1
    have m3 := m3'
    clear m3'
    have y0 : WB.cell? ⟨w1.heap.size, 0, none⟩ = some (.int .u8 (c : Int)) := cellAt HYB.out rfl
    have y1 : WB.cell? ⟨w1.heap.size, 1, none⟩ = some (.int .u8 (d : Int)) := cellAt HYB.out rfl
    have j0 := cellAt hjB (i := 0) rfl
    have j1 := cellAt hjB (i := 1) rfl
    have j2 := cellAt hjB (i := 2) rfl
    have j3 := cellAt hjB (i := 3) rfl
    have j4 := cellAt hjB (i := 4) rfl
    have u0 := cellAt HXB.out (i := 0) rfl
    have u1 := cellAt HXB.out (i := 1) rfl
    have u2 := cellAt HXB.out (i := 2) rfl
    have u3 := cellAt HXB.out (i := 3) rfl
    have u4 := cellAt HXB.out (i := 4) rfl
    have v0 : WB.frozen? ⟨w.heap.size, 0, none⟩ = false := Lib.frozen_of_heap HXB.out 0
    have v1 : WB.frozen? ⟨w.heap.size, 1, none⟩ = false := Lib.frozen_of_heap HXB.out 1
    have v2 : WB.frozen? ⟨w.heap.size, 2, none⟩ = false := Lib.frozen_of_heap HXB.out 2
    have v3 : WB.frozen? ⟨w.heap.size, 3, none⟩ = false := Lib.frozen_of_heap HXB.out 3
    have v4 : WB.frozen? ⟨w.heap.size, 4, none⟩ = false := Lib.frozen_of_heap HXB.out 4
    have hne2 : ¬ w.heap.size = WA.heap.size := by omega
    have hne3 : ¬ WA.heap.size = w.heap.size := by omega
    have hrlB : rb < WB.heap.size := by omega
    have hw1B : w1.heap.size < WB.heap.size := by omega
    clear hjB HXA HYA HMP hrl hmb
    by_cases hA : ok1 = true ∧ d ≠ 0
    · obtain ⟨hok, hd0⟩ := hA
      subst hok
      have dne : ((d : Int) != 0) = true := by simp; omega
      have dne2 : ¬ (d : Int) = 0 := by omega
      have HR : Hid (jhV (jntF s.data.toList p) = .tuple #[.agg #[.int .i64 k1, .string t1, .int .i64 l1, .int .i64 fl1, .int .i64 r1], .int .i64 2]) := by
        rcases HOR1.out with ⟨_, hk, e1, e2, e3, e4⟩ | ⟨e, _⟩
        · rw [Hid, HJ.out]; unfold jntK; rw [if_neg hd0, hk, e1, e2, e3, e4]; rfl
        · cases e
      clear HOR1
      go_wp2_with fail
      refine ret_jh (set5 HXB.out) rfl rfl rfl ?_
      exact ⟨by rw [HR.out]; rfl, ((((HBB.out.setCell (p := ⟨w.heap.size, 0, none⟩) (Nat.le_refl _) _).setCell (p := ⟨w.heap.size, 1, none⟩) (Nat.le_refl _) _).setCell (p := ⟨w.heap.size, 2, none⟩) (Nat.le_refl _) _).setCell (p := ⟨w.heap.size, 3, none⟩) (Nat.le_refl _) _).setCell (p := ⟨w.heap.size, 4, none⟩) (Nat.le_refl _) _⟩
    have HFST : Hid ((if d = 0 then none else lookK c d) = none) := by
      rw [Hid]
      split
      · rfl
      · rename_i hd0
        rcases HOR1.out with ⟨e, _⟩ | ⟨_, hk⟩
        · exact absurd ⟨e, hd0⟩ hA
        · exact hk
    have hB : ok1 = false ∨ (ok1 = true ∧ (d : Int) = 0) := by
      cases ok1
      · exact .inl rfl
      · refine .inr ⟨rfl, ?_⟩
        by_cases h : d = 0
        · omega
        · exact absurd ⟨rfl, h⟩ hA
    clear HOR1 hA
    rcases hB with hB | ⟨hB, hd0⟩
    · subst hB
      obtain ⟨k2, t2, l2, fl2, r2, ok2, hlk, hor2⟩ := look_zero mb c
      have hlk1 := hlk WB.drew HMPB.out
      have hlk2 := hlk ((WB.alloc (.cells #[.int .i64 0, .string ⟨#[]⟩, .int .i64 0, .int .i64 0, .int .i64 0] 116)).drew) ((heap_alloc_old WB _ hmbB).trans HMPB.out)
      clear hlk
      have HOR2 := hideB hor2
      clear hor2
      go_wp2_with fail
      go_region
      all_goals
        obtain ⟨WC, hWC⟩ : ∃ WC, (WB.alloc (.cells #[.int .i64 k2, .string t2, .int .i64 l2, .int .i64 fl2, .int .i64 r2] 116)).drew = WC := ⟨_, rfl⟩
        rw [hWC]
        have hbC : Below WB.heap.size WB WC := by rw [← hWC]; exact ((Below.refl _ _).alloc (Nat.le_refl _) _).drew
        have hjC : WC.heap[WB.heap.size]? = some (.cells #[.int .i64 k2, .string t2, .int .i64 l2, .int .i64 fl2, .int .i64 r2] 116 (0, 0)) := by rw [← hWC]; exact heap_alloc_new WB _
        have HXC : Hid (WC.heap[w.heap.size]? = _) := (hbC.block _ (by omega)).trans HXB.out
        have HBC := hideB (HBB.out.trans (hbC.mono (by omega)))
        have hzC : WB.heap.size < WC.heap.size := by rw [← hWC]; simp
        clear hWC hbC hlk1 hlk2 m3 y0 y1 u0 u1 u2 u3 u4 v0 v1 v2 v3 v4 j0 j1 j2 j3 j4
        have j0 := cellAt hjC (i := 0) rfl
        have j1 := cellAt hjC (i := 1) rfl
        have j2 := cellAt hjC (i := 2) rfl
        have j3 := cellAt hjC (i := 3) rfl
        have j4 := cellAt hjC (i := 4) rfl
        have u0 := cellAt HXC.out (i := 0) rfl
        have u1 := cellAt HXC.out (i := 1) rfl
        have u2 := cellAt HXC.out (i := 2) rfl
        have u3 := cellAt HXC.out (i := 3) rfl
        have u4 := cellAt HXC.out (i := 4) rfl
        have v0 : WC.frozen? ⟨w.heap.size, 0, none⟩ = false := Lib.frozen_of_heap HXC.out 0
        have v1 : WC.frozen? ⟨w.heap.size, 1, none⟩ = false := Lib.frozen_of_heap HXC.out 1
        have v2 : WC.frozen? ⟨w.heap.size, 2, none⟩ = false := Lib.frozen_of_heap HXC.out 2
        have v3 : WC.frozen? ⟨w.heap.size, 3, none⟩ = false := Lib.frozen_of_heap HXC.out 3
        have v4 : WC.frozen? ⟨w.heap.size, 4, none⟩ = false := Lib.frozen_of_heap HXC.out 4
        have hne2 : ¬ w.heap.size = WB.heap.size := by omega
        have hne3 : ¬ WB.heap.size = w.heap.size := by omega
        clear hjC
        rcases HOR2.out with ⟨e, hk, e1, e2, e3, e4⟩ | ⟨e, hk⟩
        · subst e
          have HR : Hid (jhV (jntF s.data.toList p) = .tuple #[.agg #[.int .i64 k2, .string t2, .int .i64 l2, .int .i64 fl2, .int .i64 r2], .int .i64 1]) := by rw [Hid, HJ.out]; unfold jntK; rw [HFST.out, hk, e1, e2, e3, e4]; rfl
          clear hk e1 e2 e3 e4 HOR2
          go_wp2_with fail
          refine ret_jh (set5 HXC.out) rfl rfl rfl ?_
          exact ⟨by rw [HR.out]; rfl, ((((HBC.out.setCell (p := ⟨w.heap.size, 0, none⟩) (Nat.le_refl _) _).setCell (p := ⟨w.heap.size, 1, none⟩) (Nat.le_refl _) _).setCell (p := ⟨w.heap.size, 2, none⟩) (Nat.le_refl _) _).setCell (p := ⟨w.heap.size, 3, none⟩) (Nat.le_refl _) _).setCell (p := ⟨w.heap.size, 4, none⟩) (Nat.le_refl _) _⟩
        · subst e
          have HR : Hid (jhV (jntF s.data.toList p) = .tuple #[.agg #[.int .i64 0, .string ⟨#[]⟩, .int .i64 0, .int .i64 0, .int .i64 0], .int .i64 0]) := by rw [Hid, HJ.out]; unfold jntK; rw [HFST.out, hk]; rfl
          clear hk HOR2
          go_wp2_with fail
          refine ret_jh (set5 HXC.out) rfl rfl rfl ?_
          exact ⟨by rw [HR.out]; rfl, ((((HBC.out.setCell (p := ⟨w.heap.size, 0, none⟩) (Nat.le_refl _) _).setCell (p := ⟨w.heap.size, 1, none⟩) (Nat.le_refl _) _).setCell (p := ⟨w.heap.size, 2, none⟩) (Nat.le_refl _) _).setCell (p := ⟨w.heap.size, 3, none⟩) (Nat.le_refl _) _).setCell (p := ⟨w.heap.size, 4, none⟩) (Nat.le_refl _) _⟩
    · subst hB
      rw [hd0] at y1
      clear hd0
      obtain ⟨k2, t2, l2, fl2, r2, ok2, hlk, hor2⟩ := look_zero mb c
      have hlk1 := hlk WB.drew HMPB.out
      have hlk2 := hlk ((WB.alloc (.cells #[.int .i64 0, .string ⟨#[]⟩, .int .i64 0, .int .i64 0, .int .i64 0] 116)).drew) ((heap_alloc_old WB _ hmbB).trans HMPB.out)
      clear hlk
      have HOR2 := hideB hor2
      clear hor2
      go_wp2_with fail
      go_region
      all_goals
        obtain ⟨WC, hWC⟩ : ∃ WC, (WB.alloc (.cells #[.int .i64 k2, .string t2, .int .i64 l2, .int .i64 fl2, .int .i64 r2] 116)).drew = WC := ⟨_, rfl⟩
        rw [hWC]
        have hbC : Below WB.heap.size WB WC := by rw [← hWC]; exact ((Below.refl _ _).alloc (Nat.le_refl _) _).drew
        have hjC : WC.heap[WB.heap.size]? = some (.cells #[.int .i64 k2, .string t2, .int .i64 l2, .int .i64 fl2, .int .i64 r2] 116 (0, 0)) := by rw [← hWC]; exact heap_alloc_new WB _
        have HXC : Hid (WC.heap[w.heap.size]? = _) := (hbC.block _ (by omega)).trans HXB.out
        have HBC := hideB (HBB.out.trans (hbC.mono (by omega)))
        have hzC : WB.heap.size < WC.heap.size := by rw [← hWC]; simp
        clear hWC hbC hlk1 hlk2 m3 y0 y1 u0 u1 u2 u3 u4 v0 v1 v2 v3 v4 j0 j1 j2 j3 j4
        have j0 := cellAt hjC (i := 0) rfl
        have j1 := cellAt hjC (i := 1) rfl
        have j2 := cellAt hjC (i := 2) rfl
        have j3 := cellAt hjC (i := 3) rfl
        have j4 := cellAt hjC (i := 4) rfl
        have u0 := cellAt HXC.out (i := 0) rfl
        have u1 := cellAt HXC.out (i := 1) rfl
        have u2 := cellAt HXC.out (i := 2) rfl
        have u3 := cellAt HXC.out (i := 3) rfl
        have u4 := cellAt HXC.out (i := 4) rfl
        have v0 : WC.frozen? ⟨w.heap.size, 0, none⟩ = false := Lib.frozen_of_heap HXC.out 0
        have v1 : WC.frozen? ⟨w.heap.size, 1, none⟩ = false := Lib.frozen_of_heap HXC.out 1
        have v2 : WC.frozen? ⟨w.heap.size, 2, none⟩ = false := Lib.frozen_of_heap HXC.out 2
        have v3 : WC.frozen? ⟨w.heap.size, 3, none⟩ = false := Lib.frozen_of_heap HXC.out 3
        have v4 : WC.frozen? ⟨w.heap.size, 4, none⟩ = false := Lib.frozen_of_heap HXC.out 4
        have hne2 : ¬ w.heap.size = WB.heap.size := by omega
        have hne3 : ¬ WB.heap.size = w.heap.size := by omega
        clear hjC
        rcases HOR2.out with ⟨e, hk, e1, e2, e3, e4⟩ | ⟨e, hk⟩
        · subst e
          have HR : Hid (jhV (jntF s.data.toList p) = .tuple #[.agg #[.int .i64 k2, .string t2, .int .i64 l2, .int .i64 fl2, .int .i64 r2], .int .i64 1]) := by rw [Hid, HJ.out]; unfold jntK; rw [HFST.out, hk, e1, e2, e3, e4]; rfl
          clear hk e1 e2 e3 e4 HOR2
          go_wp2_with fail
          refine ret_jh (set5 HXC.out) rfl rfl rfl ?_
          exact ⟨by rw [HR.out]; rfl, ((((HBC.out.setCell (p := ⟨w.heap.size, 0, none⟩) (Nat.le_refl _) _).setCell (p := ⟨w.heap.size, 1, none⟩) (Nat.le_refl _) _).setCell (p := ⟨w.heap.size, 2, none⟩) (Nat.le_refl _) _).setCell (p := ⟨w.heap.size, 3, none⟩) (Nat.le_refl _) _).setCell (p := ⟨w.heap.size, 4, none⟩) (Nat.le_refl _) _⟩
        · subst e
          have HR : Hid (jhV (jntF s.data.toList p) = .tuple #[.agg #[.int .i64 0, .string ⟨#[]⟩, .int .i64 0, .int .i64 0, .int .i64 0], .int .i64 0]) := by rw [Hid, HJ.out]; unfold jntK; rw [HFST.out, hk]; rfl
          clear hk HOR2
          go_wp2_with fail
          refine ret_jh (set5 HXC.out) rfl rfl rfl ?_
          exact ⟨by rw [HR.out]; rfl, ((((HBC.out.setCell (p := ⟨w.heap.size, 0, none⟩) (Nat.le_refl _) _).setCell (p := ⟨w.heap.size, 1, none⟩) (Nat.le_refl _) _).setCell (p := ⟨w.heap.size, 2, none⟩) (Nat.le_refl _) _).setCell (p := ⟨w.heap.size, 3, none⟩) (Nat.le_refl _) _).setCell (p := ⟨w.heap.size, 4, none⟩) (Nat.le_refl _) _⟩
end Go.Proofs.YtcidjhnogldgmaaGreatDoor
