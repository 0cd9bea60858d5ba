/-
  spec.l6Paths: the paths of a node and of all below it.
-/
import Derived.Test.YtbclgogolimbgaaWPaths
import Derived.Test.YtbclgogolimbgaaSpc3
import Derived.Deep.RegionHeld3
import Derived.Deep.DrawnRows
namespace Go.Proofs.Ytbclgogolimbgaa
open Go.RowKit
set_option linter.unusedSimpArgs false
set_option linter.unusedVariables false
attribute [local go_sem ↓] Go.wp_at_zero Go.wp_at_succ

/-- An append, by what it runs to, as a step of a statement whose order is open. -/
theorem step_append_of {P : Program} {w : World} {ops : Array Oper} {o : Oper} {a : Act} {K : Act → World → Prop} {Q : Exit → Act → World → Prop} {E : Prop} (hgd : o.guard = none) (s x : Operand) (t : TypeId)
    (ho : o.op = .call { callee := .builtin .append, args := #[s, x], argTypes := #[t, t] }) (hty : o.type = t) (v u : Value) (hs : a.eval s = v) (hx : a.eval x = u) (h : ∃ v' w', (Builtin.append_ #[t, t] t #[v, u]).run P w = .ok v' w' ∧ K (a.put o.dst v') w') :
    if Region.wanted o (yielded ops a.tmps) = true then Oper.wp P o a w K Q else E := by
  obtain ⟨v', w', hrun, h⟩ := h
  have hw : Region.wanted o (yielded ops a.tmps) = true := by simp [Region.wanted, hgd]
  rw [if_pos hw]
  unfold Oper.wp execOp
  simp [ho, resolve, invoke, builtin, hs, hx, hty, hrun, Result.andThen, Oper.upon]
  exact h

/-- A row of steps that is appended to an empty one. -/
theorem head_app {base S g cw : Nat} {Y : World} {aw : Option Addr} {nH : Nat} {head : List PS} (hnH : head.length = nH) (hY : Y.ownsRow S 82 3 (.slice (some ⟨g, 0, none⟩) 0 0) 0 []) (hS : S ≤ Y.heap.size) (hW : Y.ownsRow base 82 3 (.slice aw nH cw) nH (stepCells head)) (hl : nH ≤ 1000) :
    ∃ v1 Y1, (Builtin.append_ #[31, 31] 31 #[.slice (some ⟨g, 0, none⟩) 0 0, .slice aw nH cw]).run Try.prog Y = .ok v1 Y1 ∧ Y1.ownsRow S 82 3 v1 nH (stepCells head) ∧ Y.grownBy Y1 (some g) := by
  obtain ⟨i1, hi1, hz1, hs1, hy1⟩ := info_parts infoStep
  have hlen : (stepCells head).length = nH * 3 := by rw [stepCells_len, hnH]
  rcases hW.2 with ⟨e, h0⟩ | ⟨g2, cap2, cur, e, _⟩
  · injection e with e1 e2 e3
    subst e1 e2 e3
    have hr := run_append_none_any (P := Try.prog) (w := Y) S 31 31 82 i1 3 0 Try.underlying31 hi1 _ 0 [] hY
    obtain rfl : head = [] := List.eq_nil_of_length_eq_zero hnH
    exact ⟨_, Y, hr, hY, ⟨rfl, rfl, rfl, Nat.le_refl _, fun _ _ _ => rfl⟩⟩
  · injection e with e1 e2 e3
    subst e1 e3
    obtain ⟨v', w', hr, h2, h3, _, _⟩ := run_append_own_at (P := Try.prog) Y S 31 31 82 i1 zeroStep 3 32 Try.underlying31 hi1 hz1 hs1 hy1 rfl (by decide) _ 0 [] hY ⟨g2, 0, none⟩ nH cw (stepCells head) hlen (fun j u hj => by
      have hj' : j < nH * 3 := by rw [← hlen]; exact (List.getElem?_eq_some_iff.1 hj).1
      have ea : (⟨g2, 0, none⟩ : Addr).add j = ⟨g2, j, none⟩ := by unfold Addr.add; split <;> simp_all
      rw [ea, hW.cellAt j hj']; exact hj) (stepCells_one head) (by unfold maxLen; omega) (by omega) hS
    refine ⟨v', w', hr, ?_, h3⟩
    simpa using h2

theorem step_app {S b n : Nat} {Y : World} {v : Value} {xs : List Value} {x : PS} (hY : Y.ownsRow S 82 3 v n xs) (hS : S ≤ Y.heap.size) (hl : n ≤ 1000) (hn : ∀ j u, [Value.bool x.named, .string x.key, .int .i64 x.pl][j]? = some u → Y.cell? ((⟨b, 0, none⟩ : Addr).add j) = some u) :
    ∃ r2 Y2, (Builtin.append_ #[31, 31] 31 #[v, .slice (some ⟨b, 0, none⟩) 1 1]).run Try.prog Y = .ok r2 Y2 ∧ Y2.ownsRow S 82 3 r2 (n + 1) (xs ++ [.bool x.named, .string x.key, .int .i64 x.pl]) ∧ Y.grownBy Y2 v.ownBlock := by
  obtain ⟨i1, hi1, hz1, hs1, hy1⟩ := info_parts infoStep
  obtain ⟨v', w', hr, h2, h3, _, _⟩ := run_append_own_at (P := Try.prog) Y S 31 31 82 i1 zeroStep 3 32 Try.underlying31 hi1 hz1 hs1 hy1 rfl (by decide) v n xs hY ⟨b, 0, none⟩ 1 1 _ rfl hn (by intro u hu; simp at hu; rcases hu with rfl | rfl | rfl <;> rfl) (by unfold maxLen; omega) (by omega) hS
  exact ⟨v', w', hr, h2, h3⟩

theorem RowsP.one {base : Nat} {w : World} {v r : Value} {ps : List PS} (h : w.ownsRow base 31 1 v 1 [r]) (hr : w.ownsRow base 82 3 r ps.length (stepCells ps)) (hb : base ≤ w.heap.size) : RowsP base w v [ps] (fun _ => r) (fun i => if i = 0 then base else w.heap.size) := by
  refine ⟨h, fun i hi => ?_, fun i hi => ?_, fun i j hij hj => ?_, ?_, fun i hi x hx => ?_⟩
  · have e : i = 0 := by simp at hi; exact hi
    subst e; exact hr
  · by_cases e : i = 0
    · simp only [if_pos e]; exact Nat.le_refl _
    · simp only [if_neg e]; exact hb
  · by_cases e : j = 0
    · simp only [if_pos e, if_pos (show i = 0 by omega)]; exact Nat.le_refl _
    · by_cases e2 : i = 0
      · simp only [if_pos e2, if_neg e]; exact hb
      · simp only [if_neg e2, if_neg e]; exact Nat.le_refl _
  · simp
  · have := (hr.lt x hx).2
    simpa using this

theorem below_ge {S g : Nat} {W Y Y1 : World} (h : Below S W Y) (hg : Y.grownBy Y1 (some g)) (hS : S ≤ Y.heap.size) (hge : S ≤ g) : Below S W Y1 := h.grown hg hS (fun r hr => by cases hr; exact hge)

def stepObj (x : PS) : Obj := .cells #[.bool x.named, .string x.key, .int .i64 x.pl] 82

/-- What stands at the statement 'next := append(append([]PStep{}, head...), s)', in whatever order. -/
structure Open9 (hb : Nat) (W : World) (hv : Value) (nH : Nat) (head : List PS) (x : PS) : Prop where
  d : Below W.heap.size W W.drew
  a : Below W.heap.size W ((W.alloc (.cells #[] 82)).drew)
  b : Below W.heap.size W (((W.alloc (.cells #[] 82)).alloc (.cells #[.bool x.named, .string x.key, .int .i64 x.pl] 82)).drew)
  c1 : Below W.heap.size W ((W.alloc (.cells #[.bool x.named, .string x.key, .int .i64 x.pl] 82)).drew)
  c : Below W.heap.size W (((W.alloc (.cells #[.bool x.named, .string x.key, .int .i64 x.pl] 82)).alloc (.cells #[] 82)).drew)
  za : W.heap.size ≤ ((W.alloc (.cells #[] 82)).drew).heap.size
  zb : W.heap.size ≤ (((W.alloc (.cells #[] 82)).alloc (.cells #[.bool x.named, .string x.key, .int .i64 x.pl] 82)).drew).heap.size
  zc : W.heap.size ≤ (((W.alloc (.cells #[.bool x.named, .string x.key, .int .i64 x.pl] 82)).alloc (.cells #[] 82)).drew).heap.size
  ea : ((W.alloc (.cells #[] 82)).drew).ownsRow W.heap.size 82 3 (.slice (some ⟨W.heap.size, 0, none⟩) 0 0) 0 []
  eb : (((W.alloc (.cells #[] 82)).alloc (.cells #[.bool x.named, .string x.key, .int .i64 x.pl] 82)).drew).ownsRow W.heap.size 82 3 (.slice (some ⟨W.heap.size, 0, none⟩) 0 0) 0 []
  ec : (((W.alloc (.cells #[.bool x.named, .string x.key, .int .i64 x.pl] 82)).alloc (.cells #[] 82)).drew).ownsRow W.heap.size 82 3 (.slice (some ⟨W.heap.size + 1, 0, none⟩) 0 0) 0 []
  ha : ((W.alloc (.cells #[] 82)).drew).ownsRow hb 82 3 hv nH (stepCells head)
  hb' : (((W.alloc (.cells #[] 82)).alloc (.cells #[.bool x.named, .string x.key, .int .i64 x.pl] 82)).drew).ownsRow hb 82 3 hv nH (stepCells head)
  hc : (((W.alloc (.cells #[.bool x.named, .string x.key, .int .i64 x.pl] 82)).alloc (.cells #[] 82)).drew).ownsRow hb 82 3 hv nH (stepCells head)
  nb : ∀ Y1, (((W.alloc (.cells #[] 82)).alloc (.cells #[.bool x.named, .string x.key, .int .i64 x.pl] 82)).drew).grownBy Y1 (some W.heap.size) → ∀ j u, [Value.bool x.named, .string x.key, .int .i64 x.pl][j]? = some u → Y1.cell? ((⟨W.heap.size + 1, 0, none⟩ : Addr).add j) = some u
  nc : ∀ Y1, (((W.alloc (.cells #[.bool x.named, .string x.key, .int .i64 x.pl] 82)).alloc (.cells #[] 82)).drew).grownBy Y1 (some (W.heap.size + 1)) → ∀ j u, [Value.bool x.named, .string x.key, .int .i64 x.pl][j]? = some u → Y1.cell? ((⟨W.heap.size, 0, none⟩ : Addr).add j) = some u

theorem Open9.of {hb : Nat} {W : World} {hv : Value} {nH : Nat} {head : List PS} (x : PS) (h : W.ownsRow hb 82 3 hv nH (stepCells head)) : Open9 hb W hv nH head x := by
  have hd : Below W.heap.size W W := Below.refl W.heap.size W
  have e1 : (W.alloc (.cells #[] 82)).ownsRow W.heap.size 82 3 (.slice (some ⟨W.heap.size, 0, none⟩) 0 0) 0 [] := by
    have := World.ownsRow_lit (base := W.heap.size) (e := 82) (size := 3) W #[] 0 (Nat.le_refl _) (by simp [maxLen]) rfl
    simpa using this
  have e2 : ((W.alloc (.cells #[.bool x.named, .string x.key, .int .i64 x.pl] 82)).alloc (.cells #[] 82)).ownsRow W.heap.size 82 3 (.slice (some ⟨W.heap.size + 1, 0, none⟩) 0 0) 0 [] := by
    have := World.ownsRow_lit (base := W.heap.size) (e := 82) (size := 3) (W.alloc (.cells #[.bool x.named, .string x.key, .int .i64 x.pl] 82)) #[] 0 (by simp) (by simp [maxLen]) rfl
    simpa using this
  refine ⟨hd.drew, (hd.alloc (Nat.le_refl _) _).drew, ((hd.alloc (Nat.le_refl _) _).alloc (by simp) _).drew, (hd.alloc (Nat.le_refl _) _).drew, ((hd.alloc (Nat.le_refl _) _).alloc (by simp) _).drew, by simp, by simp; omega, by simp; omega, e1.drew, (e1.alloc _).drew, e2.drew, (h.alloc _).drew, ((h.alloc _).alloc _).drew, ((h.alloc _).alloc _).drew, fun Y1 hg => ?_, fun Y1 hg => ?_⟩
  · have hn := heap_alloc_new (W.alloc (.cells #[] 82)) (.cells #[.bool x.named, .string x.key, .int .i64 x.pl] 82)
    rw [World.size_alloc] at hn
    exact World.news_of_block (cs := #[.bool x.named, .string x.key, .int .i64 x.pl]) ((hg.block (W.heap.size + 1) (by simp) (by simp)).trans hn)
  · have hn := heap_alloc_new W (.cells #[.bool x.named, .string x.key, .int .i64 x.pl] 82)
    have hk := Below.block ((Below.refl (W.alloc (.cells #[.bool x.named, .string x.key, .int .i64 x.pl] 82)).heap.size (W.alloc (.cells #[.bool x.named, .string x.key, .int .i64 x.pl] 82))).alloc (Nat.le_refl _) (.cells #[] 82)) W.heap.size (by simp)
    exact World.news_of_block (cs := #[.bool x.named, .string x.key, .int .i64 x.pl]) (((hg.block W.heap.size (by simp; omega) (by simp)).trans hk).trans hn)

/-- What l6Paths answers. -/
def SPathsAll (B : Nat) (vs : List VN) (f : Nat) : Prop :=
  ∀ (n : Nat) (v hv : Value) (head : List PS) (hb : Nat) (w : World), n < f → n < vs.length → NodesAt B w v vs → B ≤ w.heap.size → w.ownsRow hb 82 3 hv head.length (stepCells head) → head.length + f ≤ 1000 →
    Calls Try.prog 41 #[v, .int .i64 n, hv] w fun e w' => ∃ r rs lo, e = .returned r ∧ RowsP w.heap.size w' r (pathsN vs f n head) rs lo ∧ Below w.heap.size w w'

theorem node6p {vs : List VN} (hok : okB vs = true) {i : Nat} (hi : i < vs.length) (h6 : (nodeAt vs i).kind = 6) : (nodeAt vs i).keys.length = (nodeAt vs i).kids.length := by
  have hn := ((okB_parts hok).2.1 i hi).1
  unfold nodeB namedB at hn
  simp [h6] at hn
  exact hn.2.1

set_option maxRecDepth 100000 in
set_option maxHeartbeats 6400000 in
theorem l6Paths_any (B : Nat) (vs : List VN) (hok : okB vs = true) : ∀ f, SPathsAll B vs f := by
  intro f
  induction f with
  | zero => intro n v hv head hb w hn; omega
  | succ f ih =>
    intro n v hv head hb w hnf hn h hB hway hhd
    have HV := hideIt h
    obtain ⟨hl, a, cap, rfl, hcv⟩ := h
    obtain ⟨bv, ov, rfl, hbv, hcv'⟩ := hcv (by omega)
    obtain ⟨ka, ki, hnd⟩ := hcv' n hn
    have HND := hideIt hnd
    have c0 := hnd.c0
    have c1 := hnd.c1
    have c2 := hnd.c2
    have c3 := hnd.c3
    have c4 := hnd.c4
    obtain ⟨_, _, aK, cK, eK, hkc⟩ := hnd.inn.keys
    obtain ⟨_, _, aI, cI, eI, hic⟩ := hnd.inn.kids
    have HKC := hideIt hkc
    have HIC := hideIt hic
    subst eK eI
    have hkf := keys_few hok n hn
    have HOK := hideIt hok
    have HWY := hideIt hway
    obtain ⟨aw, cw, ew⟩ := own_slice hway
    obtain ⟨nH, hnH⟩ : ∃ nH, head.length = nH := ⟨_, rfl⟩
    have HNH := hideIt hnH
    rw [hnH] at ew
    subst ew
    have hnHs : nH ≤ 1000 := by omega
    clear hcv hcv' hnd hkc hic hok hway hnH
    obtain ⟨i1, hi1, hz1, hs1, hy1⟩ := info_parts infoStep
    have HOWN : Hid ((w.alloc (.cells #[] 82)).ownsRow w.heap.size 82 3 (.slice (some ⟨w.heap.size, 0, none⟩) 0 0) 0 []) := by
      have := World.ownsRow_lit (base := w.heap.size) (e := 82) (size := 3) w #[] 0 (Nat.le_refl _) (by simp [maxLen]) rfl
      simpa [Hid] using this
    have HWYn : Hid (w.ownsRow hb 82 3 (.slice aw nH cw) nH (stepCells head)) := by have := HWY.out; rw [HNH.out] at this; exact this
    have HLN : Hid ((stepCells head).length = nH * 3) := by rw [Hid, stepCells_len, HNH.out]
    have HSRC : Hid (0 < nH → ∃ ad', aw = some ad' ∧ ∀ j u, (stepCells head)[j]? = some u → (w.alloc (.cells #[] 82)).cell? (ad'.add j) = some u) := by
      intro hp
      have h2 := HWYn.out
      obtain ⟨g, cap2, e, _, hgl⟩ := h2.form hp
      injection e with e1 e2 e3
      subst e1 e3
      refine ⟨⟨g, 0, none⟩, rfl, fun j u hj => ?_⟩
      have hj' : j < nH * 3 := by rw [← HLN.out]; exact (List.getElem?_eq_some_iff.1 hj).1
      have ea : (⟨g, 0, none⟩ : Addr).add j = ⟨g, j, none⟩ := by unfold Addr.add; split <;> simp_all
      rw [ea, below_cell ((Below.refl w.heap.size w).alloc (Nat.le_refl _) _) hgl, h2.cellAt j hj']
      exact hj
    go_enter Try.func41, Try.ntmps41
    go_wp2_with (at_builtin; refine wpList_append_src rfl _ _ 31 rfl w.heap.size 82 i1 zeroStep 3 32 Try.underlying31 hi1 hz1 hs1 hy1 rfl (by decide) _ 0 [] rfl HOWN.out aw nH cw (stepCells head) rfl HLN.out HSRC.out ?c2 ?c3 ?c4 ?c5 ?_)
    case c2 => exact stepCells_one head
    case c3 => unfold maxLen; omega
    case c4 => omega
    case c5 => simp
    intro r0 w1 hk2 hg2 hat2
    (try simp only [Nat.zero_add, List.nil_append] at hk2)
    have hb1 : Below w.heap.size w w1 := ((Below.refl w.heap.size w).alloc (Nat.le_refl _) _).grown hg2 (by simp) (fun r hr => by simp [Value.ownBlock] at hr; omega)
    obtain ⟨ar, cr, er⟩ := own_slice hk2
    subst er
    have z1 := hb1.size
    have HK2 : Hid (w1.ownsRow w.heap.size 82 3 (.slice ar nH cr) head.length (stepCells head)) := by rw [Hid, HNH.out]; exact hk2
    have d0 := (below_cell (hb1.mono hB) hbv).trans c0
    have d1 := (below_cell (hb1.mono hB) hbv).trans c1
    have d2 := (below_cell (hb1.mono hB) hbv).trans c2
    have d3 := (below_cell (hb1.mono hB) hbv).trans c3
    have d4 := (below_cell (hb1.mono hB) hbv).trans c4
    have hne1 : ¬ (bv = w1.heap.size) := by omega
    have hni : (n : Int) < (vs.length : Int) := by omega
    have hbl1 : bv < w1.heap.size := by omega
    obtain ⟨M, hM⟩ : ∃ M, (nodeAt vs n).kids.length = M := ⟨_, rfl⟩
    have HM := hideIt hM
    rw [hM] at d4 HIC
    have hM80 : M ≤ 80 := by rw [← hM]; exact hkf.2.1
    clear c0 c1 c2 c3 c4 hk2 hg2 hat2 hM
    have HB1 := hideIt hb1
    clear hb1
    go_wp2_with fail
    have hbW : Below w.heap.size w ((w1.alloc (.cells #[.slice ar nH cr] 31)).alloc (.cells #[.int .i64 (nodeAt vs n).kind, .int .i64 (nodeAt vs n).n, .string (nodeAt vs n).s, .slice aK (nodeAt vs n).keys.length cK, .slice aI M cI] 72)) := (HB1.out.alloc z1 _).alloc (by simp; omega) _
    have hro : (w1.alloc (.cells #[.slice ar nH cr] 31)).ownsRow w.heap.size 31 1 (.slice (some ⟨w1.heap.size, 0, none⟩) 1 1) 1 [.slice ar nH cr] := World.ownsRow_lit (base := w.heap.size) (e := 31) (size := 1) w1 #[.slice ar nH cr] 1 z1 (by simp [maxLen]) rfl
    have HR0 := hideIt (RowsP.one (ps := head) (hro.alloc (.cells #[.int .i64 (nodeAt vs n).kind, .int .i64 (nodeAt vs n).n, .string (nodeAt vs n).s, .slice aK (nodeAt vs n).keys.length cK, .slice aI M cI] 72)) ((HK2.out.alloc _).alloc _) (by simp; omega))
    have HX0 : Hid (((w1.alloc (.cells #[.slice ar nH cr] 31)).alloc (.cells #[.int .i64 (nodeAt vs n).kind, .int .i64 (nodeAt vs n).n, .string (nodeAt vs n).s, .slice aK (nodeAt vs n).keys.length cK, .slice aI M cI] 72)).ownsRow w.heap.size 72 5 (.slice (some ⟨w1.heap.size + 1, 0, none⟩) 1 1) 1 [.int .i64 (nodeAt vs n).kind, .int .i64 (nodeAt vs n).n, .string (nodeAt vs n).s, .slice aK (nodeAt vs n).keys.length cK, .slice aI M cI]) := by
      have := World.ownsRow_lit (base := w.heap.size) (e := 72) (size := 5) (w1.alloc (.cells #[.slice ar nH cr] 31)) #[.int .i64 (nodeAt vs n).kind, .int .i64 (nodeAt vs n).n, .string (nodeAt vs n).s, .slice aK (nodeAt vs n).keys.length cK, .slice aI M cI] 1 (by simp; omega) (by simp [maxLen]) rfl
      simpa [Hid] using this
    go_loopw [7, 9] (fun o i wr => ∃ (k : Nat) (rs : Nat → Value) (lo : Nat → Nat), k ≤ M ∧ i = .int .i64 k ∧ RowsP w.heap.size wr o (pathsTo vs f n head k) rs lo ∧ wr.ownsRow w.heap.size 72 5 (.slice (some ⟨w1.heap.size + 1, 0, none⟩) 1 1) 1 [.int .i64 (nodeAt vs n).kind, .int .i64 (nodeAt vs n).n, .string (nodeAt vs n).s, .slice aK (nodeAt vs n).keys.length cK, .slice aI M cI] ∧ Below w.heap.size w wr) (fun _ i _ => M - (intOf i).toNat)
    case atStart => exact ⟨0, _, _, Nat.zero_le _, rfl, by rw [pathsTo_zero]; exact HR0.out, HX0.out, hbW⟩
    case round =>
      obtain ⟨k, rs, lo, hk, rfl, hrw, hxw, hbl⟩ := hrel
      have HR := hideIt hrw
      have HX := hideIt hxw
      have zs := hbl.size
      have xl : w1.heap.size + 1 < wr.heap.size := (hxw.lt (w1.heap.size + 1) rfl).2
      have x0 : wr.cell? ⟨w1.heap.size + 1, 0, none⟩ = some (.int .i64 (nodeAt vs n).kind) := by rw [hxw.cellAt 0 (by omega)]; rfl
      have x3 : wr.cell? ⟨w1.heap.size + 1, 3, none⟩ = some (.slice aK (nodeAt vs n).keys.length cK) := by rw [hxw.cellAt 3 (by omega)]; rfl
      have x4 : wr.cell? ⟨w1.heap.size + 1, 4, none⟩ = some (.slice aI M cI) := by rw [hxw.cellAt 4 (by omega)]; rfl
      obtain ⟨al, cl, el⟩ := own_slice hrw.row
      obtain ⟨nA, hnA⟩ : ∃ nA, (pathsTo vs f n head k).length = nA := ⟨_, rfl⟩
      have HNA := hideIt hnA
      rw [hnA] at el
      subst el
      clear hrw hxw hnA HR0 HX0 hbW hro d0 d1 d2 d3 d4
      have hne2 : ¬ (w1.heap.size + 1 = wr.heap.size) := by omega
      by_cases hlt : k < M
      · by_cases h6 : (nodeAt vs n).kind = 6
        · have hkl : k < (nodeAt vs n).keys.length := by rw [(node6p HOK.out hn h6), HM.out]; exact hlt
          have h6' : ((nodeAt vs n).kind == 6) = true := by simpa using h6
          have H6 := hideIt h6
          clear h6
          obtain ⟨bk, ok, rfl, hbk, hck⟩ := HKC.out (by omega)
          have hkk : wr.cell? ⟨bk, ok + k, none⟩ = some (.string (keyAt (nodeAt vs n).keys k)) := (below_cell hbl (by omega)).trans (hck k hkl)
          have hkk2 : ∀ ob, (wr.alloc ob).cell? ⟨bk, ok + k, none⟩ = some (.string (keyAt (nodeAt vs n).keys k)) := fun ob => (below_cell ((Below.refl wr.heap.size wr).alloc (Nat.le_refl _) ob) (by omega)).trans hkk
          have hkli : (k : Int) < ((nodeAt vs n).keys.length : Int) := by omega
          clear hck
          go_wp2_with fail
          have HWr : Hid (wr.ownsRow hb 82 3 (.slice aw nH cw) nH (stepCells head)) := own_below HWYn.out hbl (fun y hy => (HWYn.out.lt y hy).2)
          obtain ⟨x, hx⟩ : ∃ x : PS, x = ⟨true, keyAt (nodeAt vs n).keys k, 0⟩ := ⟨_, rfl⟩
          have HX9 : Hid (stepOf (nodeAt vs n).kind (nodeAt vs n).keys k = x) := by rw [Hid, hx]; unfold stepOf; rw [if_pos H6.out]
          have hWeq : wr.alloc (.cells #[.bool true, .string (keyAt (nodeAt vs n).keys k), .int .i64 ((0 : Int))] 82) = wr.alloc (.cells #[.bool x.named, .string x.key, .int .i64 x.pl] 82) := by rw [hx]
          rw [hWeq]
          clear hWeq hx
          have g0 : (wr.alloc (.cells #[.bool x.named, .string x.key, .int .i64 x.pl] 82)).cell? ⟨wr.heap.size, 0, none⟩ = some (.bool x.named) := by simp
          have g1 : (wr.alloc (.cells #[.bool x.named, .string x.key, .int .i64 x.pl] 82)).cell? ⟨wr.heap.size, 1, none⟩ = some (.string x.key) := by simp
          have g2 : (wr.alloc (.cells #[.bool x.named, .string x.key, .int .i64 x.pl] 82)).cell? ⟨wr.heap.size, 2, none⟩ = some (.int .i64 x.pl) := by simp
          have gs : (wr.alloc (.cells #[.bool x.named, .string x.key, .int .i64 x.pl] 82)).heap.size = wr.heap.size + 1 := by simp
          have gb : Below wr.heap.size wr (wr.alloc (.cells #[.bool x.named, .string x.key, .int .i64 x.pl] 82)) := (Below.refl _ _).alloc (Nat.le_refl _) _
          have HO9 := hideIt (Open9.of x (HWr.out.alloc (.cells #[.bool x.named, .string x.key, .int .i64 x.pl] 82)))
          generalize (wr.alloc (.cells #[.bool x.named, .string x.key, .int .i64 x.pl] 82)) = W at *
          have hkeep : ∀ Y, Below W.heap.size W Y → (Y.cell? ⟨wr.heap.size, 0, none⟩ = some (.bool x.named) ∧ Y.cell? ⟨wr.heap.size, 1, none⟩ = some (.string x.key) ∧ Y.cell? ⟨wr.heap.size, 2, none⟩ = some (.int .i64 x.pl)) := fun Y hY => ⟨(below_cell hY (by omega)).trans g0, (below_cell hY (by omega)).trans g1, (below_cell hY (by omega)).trans g2⟩
          have HKE := hideIt hkeep
          have HGS := hideIt gs
          have hWgt : wr.heap.size < W.heap.size := by omega
          clear hkeep gs
          go_region_held3 (fun w' => w'.cell? ⟨wr.heap.size, 0, none⟩ = some (.bool x.named) ∧ w'.cell? ⟨wr.heap.size, 1, none⟩ = some (.string x.key) ∧ w'.cell? ⟨wr.heap.size, 2, none⟩ = some (.int .i64 x.pl))
            (first | exact HKE.out _ HO9.out.d | exact HKE.out _ HO9.out.a | exact HKE.out _ HO9.out.b | exact HKE.out _ HO9.out.c1 | exact HKE.out _ HO9.out.c | exact HKE.out _ hbY1 | exact HKE.out _ (hbY1.alloc hzY1 _) | exact HKE.out _ hbY2)
            (first
              | (refine step_append_of (by rfl) _ _ 31 (by rfl) (by rfl) (.slice (some ⟨W.heap.size, 0, none⟩) 0 0) (.slice aw nH cw) (by rfl) (by rfl) ?_; first
                | (obtain ⟨v1, Y1, hrun1, hown1, hgr1⟩ := head_app HNH.out HO9.out.ea HO9.out.za HO9.out.ha hnHs; rw [hrun1]; refine ⟨v1, Y1, rfl, ?_⟩; have hbY1 := below_ge HO9.out.a hgr1 HO9.out.za (Nat.le_refl _); have hzY1 := hbY1.size)
                | (obtain ⟨v1, Y1, hrun1, hown1, hgr1⟩ := head_app HNH.out HO9.out.eb HO9.out.zb HO9.out.hb' hnHs; rw [hrun1]; refine ⟨v1, Y1, rfl, ?_⟩; have hbY1 := below_ge HO9.out.b hgr1 HO9.out.zb (Nat.le_refl _); have hzY1 := hbY1.size; have hnews1 := HO9.out.nb _ hgr1))
              | (refine step_append_of (by rfl) _ _ 31 (by rfl) (by rfl) (.slice (some ⟨W.heap.size + 1, 0, none⟩) 0 0) (.slice aw nH cw) (by rfl) (by rfl) ?_; obtain ⟨v1, Y1, hrun1, hown1, hgr1⟩ := head_app HNH.out HO9.out.ec HO9.out.zc HO9.out.hc hnHs; rw [hrun1]; refine ⟨v1, Y1, rfl, ?_⟩; have hbY1 := below_ge HO9.out.c hgr1 HO9.out.zc (Nat.le_succ _); have hzY1 := hbY1.size; have hnews1 := HO9.out.nc _ hgr1)
              | (refine step_append_of (by rfl) _ _ 31 (by rfl) (by rfl) v1 (.slice (some ⟨Y1.heap.size, 0, none⟩) 1 1) (by rfl) (by rfl) ?_; obtain ⟨r2, Y2, hrun2, hown2, hgr2⟩ := step_app (x := x) (hown1.alloc (.cells #[.bool x.named, .string x.key, .int .i64 x.pl] 82)) (Nat.le_trans hzY1 (Below.size ((Below.refl Y1.heap.size Y1).alloc (Nat.le_refl _) _))) hnHs (World.news_of_block (cs := #[.bool x.named, .string x.key, .int .i64 x.pl]) (heap_alloc_new Y1 _)); rw [hrun2]; refine ⟨r2, Y2, rfl, ?_⟩; have hbY2 := (hbY1.alloc hzY1 (.cells #[.bool x.named, .string x.key, .int .i64 x.pl] 82)).grown hgr2 (Nat.le_trans hzY1 (Below.size ((Below.refl Y1.heap.size Y1).alloc (Nat.le_refl _) _))) (fun y hy => (hown1.lt y hy).1))
              | (refine step_append_of (by rfl) _ _ 31 (by rfl) (by rfl) v1 _ (by rfl) (by rfl) ?_; obtain ⟨r2, Y2, hrun2, hown2, hgr2⟩ := step_app (x := x) hown1 hzY1 hnHs hnews1; refine ⟨r2, Y2, hrun2, ?_⟩; have hbY2 := hbY1.grown hgr2 hzY1 (fun y hy => (hown1.lt y hy).1)))
          all_goals
            have hbR : Below wr.heap.size wr Y2 := gb.trans (hbY2.mono (by omega))
            have zY2 := hbR.size
            have HBR := hideIt hbR
            have HR2 : Hid (Y2.ownsRow W.heap.size 82 3 r2 (head ++ [x]).length (stepCells (head ++ [x]))) := by rw [Hid, stepCells_snoc, List.length_append, List.length_singleton, HNH.out]; exact hown2
            obtain ⟨ar2, cr2, er2⟩ := own_slice hown2
            subst er2
            have y4 : Y2.cell? ⟨w1.heap.size + 1, 4, none⟩ = some (.slice aI M cI) := (below_cell hbR xl).trans x4
            obtain ⟨bI, oI, rfl, hbI, hci⟩ := HIC.out (by omega)
            have hkin := kidsIn_get (keys_few HOK.out n hn).1 (show k < (nodeAt vs n).kids.length by rw [HM.out]; exact hlt)
            obtain ⟨q2, hq2⟩ : ∃ q2 : Nat, intAt (nodeAt vs n).kids k = (q2 : Int) := ⟨(intAt (nodeAt vs n).kids k).toNat, by omega⟩
            have y5 : Y2.cell? ⟨bI, oI + k, none⟩ = some (.int .i64 (q2 : Int)) := by
              rw [← hq2]
              exact (below_cell hbR (by omega)).trans ((below_cell hbl (by omega)).trans (hci k hlt))
            have hq2n : q2 < n := by omega
            have HTO : Hid (pathsTo vs f n head (k + 1) = pathsTo vs f n head k ++ pathsN vs f q2 (head ++ [x])) := by rw [Hid, pathsTo_succ, hq2, Int.toNat_natCast, HX9.out]
            have hTL := pathsTo_le (vs := vs) f n head (k := k + 1) (by rw [HM.out]; exact hlt)
            have hTP := paths_le HOK.out hnf hn head
            rw [HTO.out, List.length_append, HNA.out] at hTL
            have hkmI : (k : Int) < (M : Int) := by omega
            have HV2 := hideIt (HV.out.below ((hbl.trans (hbR.mono zs)).mono hB))
            have HROWA := hideIt (own_below HR.out.row hbR (fun y hy => (HR.out.row.lt y hy).2))
            have HXA := hideIt (own_below HX.out hbR (fun y hy => (HX.out.lt y hy).2))
            have HRA := hideIt (HR.out.below hbR)
            have HBW := hideIt (hbl.trans (hbR.mono zs))
            clear hci hkin hq2 hown2 hbR hrun1 hrun2 hgr1 hgr2 hbY1 hbY2 hown1
            obtain ⟨i0, hi0, hz0, hs0, hy0⟩ := info_parts infoRowP
            go_wp2_with fail
            refine (ih q2 _ _ (head ++ [x]) W.heap.size Y2 (by omega) (by omega) HV2.out (by omega) HR2.out (by rw [List.length_append, List.length_singleton]; omega)).mono ?_
            rintro e w3 ⟨u, ss, mo, rfl, hu, hb3⟩
            have z3 := hb3.size
            have HU := hideIt hu
            have HB3 := hideIt hb3
            obtain ⟨au, cu, eu⟩ := own_slice hu.row
            obtain ⟨m', hm'⟩ : ∃ m', (pathsN vs f q2 (head ++ [x])).length = m' := ⟨_, rfl⟩
            have HM' := hideIt hm'
            rw [hm'] at eu hTL
            subst eu
            have HROW3 : Hid (w3.ownsRow w.heap.size 31 1 (.slice al nA cl) nA ((List.range nA).map rs)) := by
              have := own_below HROWA.out hb3 (fun y hy => (HROWA.out.lt y hy).2)
              rw [HNA.out] at this; exact this
            have HUR : Hid (w3.ownsRow Y2.heap.size 31 1 (.slice au m' cu) m' ((List.range m').map ss)) := by have := hu.row; rw [hm'] at this; exact this
            have HSU : Hid (0 < m' → ∃ ad', au = some ad' ∧ ∀ j y, ((List.range m').map ss)[j]? = some y → w3.cell? (ad'.add j) = some y) := by
              intro hp
              have h2 := HUR.out
              obtain ⟨g, cap2, e, _, hgl⟩ := h2.form hp
              injection e with e1 e2 e3
              subst e1 e3
              refine ⟨⟨g, 0, none⟩, rfl, fun j y hj => ?_⟩
              have hj' : j < m' * 1 := by have := (List.getElem?_eq_some_iff.1 hj).1; simp at this; omega
              have ea : (⟨g, 0, none⟩ : Addr).add j = ⟨g, j, none⟩ := by unfold Addr.add; split <;> simp_all
              rw [ea, h2.cellAt j hj']
              exact hj
            have HSO : Hid (∀ y ∈ (List.range m').map ss, y.oneCell' = true) := by
              intro y hy
              obtain ⟨i, hi, rfl⟩ := List.mem_map.1 hy
              obtain ⟨a', c', e'⟩ := own_slice (HU.out.own i (by rw [HM'.out]; exact List.mem_range.1 hi))
              rw [e']; rfl
            clear hu hm' hb3
            go_wp2_with (at_builtin; refine wpList_append_src rfl _ _ 26 rfl w.heap.size 31 i0 (.slice none 0 0) 1 24 Try.underlying26 hi0 hz0 hs0 hy0 rfl (by decide) _ nA _ rfl HROW3.out au m' cu ((List.range m').map ss) rfl (by simp) HSU.out HSO.out ?c3 ?c4 ?c5 ?_)
            case c3 => unfold maxLen; omega
            case c4 => omega
            case c5 => omega
            intro v' w5 hown5 hg5 _
            obtain ⟨rs5, lo5, hR5⟩ : ∃ rs5 lo5, RowsP w.heap.size w5 v' (pathsTo vs f n head (k + 1)) rs5 lo5 :=
              ⟨_, _, by rw [HTO.out]; exact HRA.out.join HB3.out HU.out (by rw [HNA.out, HM'.out]; exact hown5) hg5⟩
            have HR5 := hideIt hR5
            clear hR5
            have hx3 := own_below HXA.out HB3.out (fun y hy => (HXA.out.lt y hy).2)
            have HX5 := hideIt (hx3.kept hg5 (own_apart hx3 HROW3.out (by decide)))
            have HB5 : Hid (Below w.heap.size w w5) := (HBW.out.trans (HB3.out.mono (by omega))).grown hg5 (by omega) (fun y hy => (HROW3.out.lt y hy).1)
            obtain ⟨a5, c5, e5⟩ := own_slice hown5
            subst e5
            clear hown5 hg5 hx3
            go_wp2_with fail
            go_roundw
            case rel => exact ⟨k + 1, _, _, by omega, by go_num, HR5.out, HX5.out, HB5.out⟩
            case measure => simp [intOf]; omega
        · have h6' : ((nodeAt vs n).kind == 6) = false := by simpa using h6
          go_wp2_with fail
          have HWr : Hid (wr.ownsRow hb 82 3 (.slice aw nH cw) nH (stepCells head)) := own_below HWYn.out hbl (fun y hy => (HWYn.out.lt y hy).2)
          obtain ⟨x, hx⟩ : ∃ x : PS, x = ⟨false, ⟨#[]⟩, (k : Int)⟩ := ⟨_, rfl⟩
          have HX9 : Hid (stepOf (nodeAt vs n).kind (nodeAt vs n).keys k = x) := by rw [Hid, hx]; unfold stepOf; rw [if_neg h6]; rfl
          have hWeq : wr.alloc (.cells #[.bool false, .string ((⟨#[]⟩ : ByteArray)), .int .i64 ((k : Int))] 82) = wr.alloc (.cells #[.bool x.named, .string x.key, .int .i64 x.pl] 82) := by rw [hx]
          rw [hWeq]
          clear hWeq hx
          have g0 : (wr.alloc (.cells #[.bool x.named, .string x.key, .int .i64 x.pl] 82)).cell? ⟨wr.heap.size, 0, none⟩ = some (.bool x.named) := by simp
          have g1 : (wr.alloc (.cells #[.bool x.named, .string x.key, .int .i64 x.pl] 82)).cell? ⟨wr.heap.size, 1, none⟩ = some (.string x.key) := by simp
          have g2 : (wr.alloc (.cells #[.bool x.named, .string x.key, .int .i64 x.pl] 82)).cell? ⟨wr.heap.size, 2, none⟩ = some (.int .i64 x.pl) := by simp
          have gs : (wr.alloc (.cells #[.bool x.named, .string x.key, .int .i64 x.pl] 82)).heap.size = wr.heap.size + 1 := by simp
          have gb : Below wr.heap.size wr (wr.alloc (.cells #[.bool x.named, .string x.key, .int .i64 x.pl] 82)) := (Below.refl _ _).alloc (Nat.le_refl _) _
          have HO9 := hideIt (Open9.of x (HWr.out.alloc (.cells #[.bool x.named, .string x.key, .int .i64 x.pl] 82)))
          generalize (wr.alloc (.cells #[.bool x.named, .string x.key, .int .i64 x.pl] 82)) = W at *
          have hkeep : ∀ Y, Below W.heap.size W Y → (Y.cell? ⟨wr.heap.size, 0, none⟩ = some (.bool x.named) ∧ Y.cell? ⟨wr.heap.size, 1, none⟩ = some (.string x.key) ∧ Y.cell? ⟨wr.heap.size, 2, none⟩ = some (.int .i64 x.pl)) := fun Y hY => ⟨(below_cell hY (by omega)).trans g0, (below_cell hY (by omega)).trans g1, (below_cell hY (by omega)).trans g2⟩
          have HKE := hideIt hkeep
          have HGS := hideIt gs
          have hWgt : wr.heap.size < W.heap.size := by omega
          clear hkeep gs
          go_region_held3 (fun w' => w'.cell? ⟨wr.heap.size, 0, none⟩ = some (.bool x.named) ∧ w'.cell? ⟨wr.heap.size, 1, none⟩ = some (.string x.key) ∧ w'.cell? ⟨wr.heap.size, 2, none⟩ = some (.int .i64 x.pl))
            (first | exact HKE.out _ HO9.out.d | exact HKE.out _ HO9.out.a | exact HKE.out _ HO9.out.b | exact HKE.out _ HO9.out.c1 | exact HKE.out _ HO9.out.c | exact HKE.out _ hbY1 | exact HKE.out _ (hbY1.alloc hzY1 _) | exact HKE.out _ hbY2)
            (first
              | (refine step_append_of (by rfl) _ _ 31 (by rfl) (by rfl) (.slice (some ⟨W.heap.size, 0, none⟩) 0 0) (.slice aw nH cw) (by rfl) (by rfl) ?_; first
                | (obtain ⟨v1, Y1, hrun1, hown1, hgr1⟩ := head_app HNH.out HO9.out.ea HO9.out.za HO9.out.ha hnHs; rw [hrun1]; refine ⟨v1, Y1, rfl, ?_⟩; have hbY1 := below_ge HO9.out.a hgr1 HO9.out.za (Nat.le_refl _); have hzY1 := hbY1.size)
                | (obtain ⟨v1, Y1, hrun1, hown1, hgr1⟩ := head_app HNH.out HO9.out.eb HO9.out.zb HO9.out.hb' hnHs; rw [hrun1]; refine ⟨v1, Y1, rfl, ?_⟩; have hbY1 := below_ge HO9.out.b hgr1 HO9.out.zb (Nat.le_refl _); have hzY1 := hbY1.size; have hnews1 := HO9.out.nb _ hgr1))
              | (refine step_append_of (by rfl) _ _ 31 (by rfl) (by rfl) (.slice (some ⟨W.heap.size + 1, 0, none⟩) 0 0) (.slice aw nH cw) (by rfl) (by rfl) ?_; obtain ⟨v1, Y1, hrun1, hown1, hgr1⟩ := head_app HNH.out HO9.out.ec HO9.out.zc HO9.out.hc hnHs; rw [hrun1]; refine ⟨v1, Y1, rfl, ?_⟩; have hbY1 := below_ge HO9.out.c hgr1 HO9.out.zc (Nat.le_succ _); have hzY1 := hbY1.size; have hnews1 := HO9.out.nc _ hgr1)
              | (refine step_append_of (by rfl) _ _ 31 (by rfl) (by rfl) v1 (.slice (some ⟨Y1.heap.size, 0, none⟩) 1 1) (by rfl) (by rfl) ?_; obtain ⟨r2, Y2, hrun2, hown2, hgr2⟩ := step_app (x := x) (hown1.alloc (.cells #[.bool x.named, .string x.key, .int .i64 x.pl] 82)) (Nat.le_trans hzY1 (Below.size ((Below.refl Y1.heap.size Y1).alloc (Nat.le_refl _) _))) hnHs (World.news_of_block (cs := #[.bool x.named, .string x.key, .int .i64 x.pl]) (heap_alloc_new Y1 _)); rw [hrun2]; refine ⟨r2, Y2, rfl, ?_⟩; have hbY2 := (hbY1.alloc hzY1 (.cells #[.bool x.named, .string x.key, .int .i64 x.pl] 82)).grown hgr2 (Nat.le_trans hzY1 (Below.size ((Below.refl Y1.heap.size Y1).alloc (Nat.le_refl _) _))) (fun y hy => (hown1.lt y hy).1))
              | (refine step_append_of (by rfl) _ _ 31 (by rfl) (by rfl) v1 _ (by rfl) (by rfl) ?_; obtain ⟨r2, Y2, hrun2, hown2, hgr2⟩ := step_app (x := x) hown1 hzY1 hnHs hnews1; refine ⟨r2, Y2, hrun2, ?_⟩; have hbY2 := hbY1.grown hgr2 hzY1 (fun y hy => (hown1.lt y hy).1)))
          all_goals
            have hbR : Below wr.heap.size wr Y2 := gb.trans (hbY2.mono (by omega))
            have zY2 := hbR.size
            have HBR := hideIt hbR
            have HR2 : Hid (Y2.ownsRow W.heap.size 82 3 r2 (head ++ [x]).length (stepCells (head ++ [x]))) := by rw [Hid, stepCells_snoc, List.length_append, List.length_singleton, HNH.out]; exact hown2
            obtain ⟨ar2, cr2, er2⟩ := own_slice hown2
            subst er2
            have y4 : Y2.cell? ⟨w1.heap.size + 1, 4, none⟩ = some (.slice aI M cI) := (below_cell hbR xl).trans x4
            obtain ⟨bI, oI, rfl, hbI, hci⟩ := HIC.out (by omega)
            have hkin := kidsIn_get (keys_few HOK.out n hn).1 (show k < (nodeAt vs n).kids.length by rw [HM.out]; exact hlt)
            obtain ⟨q2, hq2⟩ : ∃ q2 : Nat, intAt (nodeAt vs n).kids k = (q2 : Int) := ⟨(intAt (nodeAt vs n).kids k).toNat, by omega⟩
            have y5 : Y2.cell? ⟨bI, oI + k, none⟩ = some (.int .i64 (q2 : Int)) := by
              rw [← hq2]
              exact (below_cell hbR (by omega)).trans ((below_cell hbl (by omega)).trans (hci k hlt))
            have hq2n : q2 < n := by omega
            have HTO : Hid (pathsTo vs f n head (k + 1) = pathsTo vs f n head k ++ pathsN vs f q2 (head ++ [x])) := by rw [Hid, pathsTo_succ, hq2, Int.toNat_natCast, HX9.out]
            have hTL := pathsTo_le (vs := vs) f n head (k := k + 1) (by rw [HM.out]; exact hlt)
            have hTP := paths_le HOK.out hnf hn head
            rw [HTO.out, List.length_append, HNA.out] at hTL
            have hkmI : (k : Int) < (M : Int) := by omega
            have HV2 := hideIt (HV.out.below ((hbl.trans (hbR.mono zs)).mono hB))
            have HROWA := hideIt (own_below HR.out.row hbR (fun y hy => (HR.out.row.lt y hy).2))
            have HXA := hideIt (own_below HX.out hbR (fun y hy => (HX.out.lt y hy).2))
            have HRA := hideIt (HR.out.below hbR)
            have HBW := hideIt (hbl.trans (hbR.mono zs))
            clear hci hkin hq2 hown2 hbR hrun1 hrun2 hgr1 hgr2 hbY1 hbY2 hown1
            obtain ⟨i0, hi0, hz0, hs0, hy0⟩ := info_parts infoRowP
            go_wp2_with fail
            refine (ih q2 _ _ (head ++ [x]) W.heap.size Y2 (by omega) (by omega) HV2.out (by omega) HR2.out (by rw [List.length_append, List.length_singleton]; omega)).mono ?_
            rintro e w3 ⟨u, ss, mo, rfl, hu, hb3⟩
            have z3 := hb3.size
            have HU := hideIt hu
            have HB3 := hideIt hb3
            obtain ⟨au, cu, eu⟩ := own_slice hu.row
            obtain ⟨m', hm'⟩ : ∃ m', (pathsN vs f q2 (head ++ [x])).length = m' := ⟨_, rfl⟩
            have HM' := hideIt hm'
            rw [hm'] at eu hTL
            subst eu
            have HROW3 : Hid (w3.ownsRow w.heap.size 31 1 (.slice al nA cl) nA ((List.range nA).map rs)) := by
              have := own_below HROWA.out hb3 (fun y hy => (HROWA.out.lt y hy).2)
              rw [HNA.out] at this; exact this
            have HUR : Hid (w3.ownsRow Y2.heap.size 31 1 (.slice au m' cu) m' ((List.range m').map ss)) := by have := hu.row; rw [hm'] at this; exact this
            have HSU : Hid (0 < m' → ∃ ad', au = some ad' ∧ ∀ j y, ((List.range m').map ss)[j]? = some y → w3.cell? (ad'.add j) = some y) := by
              intro hp
              have h2 := HUR.out
              obtain ⟨g, cap2, e, _, hgl⟩ := h2.form hp
              injection e with e1 e2 e3
              subst e1 e3
              refine ⟨⟨g, 0, none⟩, rfl, fun j y hj => ?_⟩
              have hj' : j < m' * 1 := by have := (List.getElem?_eq_some_iff.1 hj).1; simp at this; omega
              have ea : (⟨g, 0, none⟩ : Addr).add j = ⟨g, j, none⟩ := by unfold Addr.add; split <;> simp_all
              rw [ea, h2.cellAt j hj']
              exact hj
            have HSO : Hid (∀ y ∈ (List.range m').map ss, y.oneCell' = true) := by
              intro y hy
              obtain ⟨i, hi, rfl⟩ := List.mem_map.1 hy
              obtain ⟨a', c', e'⟩ := own_slice (HU.out.own i (by rw [HM'.out]; exact List.mem_range.1 hi))
              rw [e']; rfl
            clear hu hm' hb3
            go_wp2_with (at_builtin; refine wpList_append_src rfl _ _ 26 rfl w.heap.size 31 i0 (.slice none 0 0) 1 24 Try.underlying26 hi0 hz0 hs0 hy0 rfl (by decide) _ nA _ rfl HROW3.out au m' cu ((List.range m').map ss) rfl (by simp) HSU.out HSO.out ?c3 ?c4 ?c5 ?_)
            case c3 => unfold maxLen; omega
            case c4 => omega
            case c5 => omega
            intro v' w5 hown5 hg5 _
            obtain ⟨rs5, lo5, hR5⟩ : ∃ rs5 lo5, RowsP w.heap.size w5 v' (pathsTo vs f n head (k + 1)) rs5 lo5 :=
              ⟨_, _, by rw [HTO.out]; exact HRA.out.join HB3.out HU.out (by rw [HNA.out, HM'.out]; exact hown5) hg5⟩
            have HR5 := hideIt hR5
            clear hR5
            have hx3 := own_below HXA.out HB3.out (fun y hy => (HXA.out.lt y hy).2)
            have HX5 := hideIt (hx3.kept hg5 (own_apart hx3 HROW3.out (by decide)))
            have HB5 : Hid (Below w.heap.size w w5) := (HBW.out.trans (HB3.out.mono (by omega))).grown hg5 (by omega) (fun y hy => (HROW3.out.lt y hy).1)
            obtain ⟨a5, c5, e5⟩ := own_slice hown5
            subst e5
            clear hown5 hg5 hx3
            go_wp2_with fail
            go_roundw
            case rel => exact ⟨k + 1, _, _, by omega, by go_num, HR5.out, HX5.out, HB5.out⟩
            case measure => simp [intOf]; omega
      · obtain rfl : k = M := by omega
        go_wp2_with fail
        go_ret
        exact ⟨.slice al nA cl, rs, lo, rfl, by rw [pathsN_eq, HM.out]; exact HR.out, hbl⟩
end Go.Proofs.Ytbclgogolimbgaa
