/-
  The specification's l7Rf: a map's names and filters. (Made by mksgr.py.)
-/
import Derived.Test.YtehihemfepbmfaaGreatDoorSgSb
import Derived.Test.YtehihemfepbmfaaGreatDoorSgQ
namespace Go.Proofs.YtehihemfepbmfaaGreatDoor
open Go.RowKit
set_option linter.unusedSimpArgs false
set_option linter.unusedVariables false
set_option linter.unusedSectionVars false

theorem call_wordR (v : Value) (w : World) : (callFunc 119 #[v]).run Tryz.prog w = .ok (.enter 119 #[v]) w := by
  have h := Tryz.func119
  go_simp
theorem call_levelR (v u : Value) (w : World) : (callFunc 43 #[v, u]).run Tryz.prog w = .ok (.enter 43 #[v, u]) w := by
  have h := Tryz.func43
  go_simp
/-- A call of two arguments, by its contract, as a step of a statement whose order is open. -/
theorem step_call2R {P : Program} {w : World} {ops : Array Oper} {o : Oper} {a : Act} {K : Act → World → Prop} {Q : Exit → Act → World → Prop} {E : Prop} (hgd : o.guard = none) (F : FuncId) (x y : Operand) (T U : TypeId)
    (ho : o.op = .call { callee := .value (.func F), args := #[x, y], argTypes := #[T, U] }) (v u : Value) (hx : a.eval x = v) (hy : a.eval y = u) (hcf : ∀ w, (callFunc F #[v, u]).run P w = .ok (.enter F #[v, u]) w) {R : Ending → World → Prop} (hc : Calls P F #[v, u] w R)
    (h : ∀ e w', R e w' → ∃ u, e = .returned u ∧ K (a.put o.dst u) w') :
    if Region.wanted o (yielded ops a.tmps) = true then Oper.wp P o a w K Q else E := by
  have hw : Region.wanted o (yielded ops a.tmps) = true := by simp [Region.wanted, hgd]
  rw [if_pos hw]
  unfold Oper.wp execOp
  have e1 : a.eval (.func F) = .func (.func F) #[] #[] := rfl
  simp [ho, resolve, invoke, hx, hy, e1, Deferred.ofValue, hcf, Result.andThen, Oper.upon_enter]
  refine hc.mono fun e w' hr => ?_
  obtain ⟨u, rfl, hk⟩ := h e w' hr
  exact hk
/-- The node that is being made. -/
def XB (w : World) (xb : Nat) (kv it : Value) : Prop := w.heap[xb]? = some (.cells #[.int .i64 9, .string ⟨#[]⟩, .int .i64 0, .slice none 0 0, kv, it] 51 (0, 0))
/-- What the nodes' rows avoid. -/
def ZR (Z : Nat → Prop) (xb : Nat) (kv it : Value) (x : Nat) : Prop := Z x ∨ x = xb ∨ kv.ownBlock = some x ∨ it.ownBlock = some x
theorem ownSet {w : World} {b e s n xb o : Nat} {v u : Value} {xs : List Value} (h : w.ownsRow b e s v n xs) (hx : xb < b) : (w.setCell ⟨xb, o, none⟩ u).ownsRow b e s v n xs := ownK h fun x hx' => Below.heap_setCell _ _ _ _ (show x ≠ xb by have := (h.lt x hx').1; omega)
theorem XB.keep {rb base xb : Nat} {Z : Nat → Prop} {w w' : World} {kv it : Value} (h : XB w xb kv it) (hb : LB rb base Z w w') (hz : Z xb) (hne : xb ≠ rb) : XB w' xb kv it := (hb.av xb hz (ltH h) hne).trans h
/-- What a row is that grows behind a call. -/
structure Bhd (lo et : Nat) (w1 : World) (iv u : Value) (k xb : Nat) (xs : List Value) : Prop where
  base : lo ≤ (w1.alloc (.cells #[u] et)).heap.size
  row : (w1.alloc (.cells #[u] et)).ownsRow lo et 1 iv k xs
  top : (w1.alloc (.cells #[u] et)).heap.size = w1.heap.size + 1
  news : ∀ j x, [u][j]? = some x → (w1.alloc (.cells #[u] et)).cell? ((⟨w1.heap.size, 0, none⟩ : Addr).add j) = some x
  lt : xb < (w1.alloc (.cells #[u] et)).heap.size
theorem Bhd.of {lo et : Nat} {w1 : World} {iv u : Value} {k xb : Nat} {xs : List Value} (h : w1.ownsRow lo et 1 iv k xs) (hlo : lo ≤ w1.heap.size) (hx : xb < w1.heap.size) : Bhd lo et w1 iv u k xb xs :=
  ⟨by simp; omega, h.alloc _, by simp, World.news_of_block (cs := #[u]) (t := et) (fr := (0, 0)) (heap_alloc_new w1 _), by simp; omega⟩

section
variable {R : RD} {f rb base : Nat} {s : ByteArray} (HR : RdsS R f rb base s)
include HR
set_option maxRecDepth 100000 in
set_option maxHeartbeats 6400000 in
theorem lfRow_any {p : Nat} {Z : Nat → Prop} {fs : List FN} {w : World} (h : LfAt w rb base Z s p false fs) (hZ : ∀ x, Z x → x < w.heap.size) (hs : s.size ≤ 1000) (hl : fs.length ≤ 40) (hf : s.size < p + f) :
    Calls Tryz.prog 115 #[.pointer (some ⟨rb, 0, none⟩)] w (LfOr (mapF WSp R s.data.toList fs (skF s.data.toList p)) rb base Z s p w) := by
  obtain ⟨i1, hi1, hz1, hs1, hy1⟩ := info_parts infoIR
  obtain ⟨j1, hj1, hzj, hsj, hyj⟩ := info_parts infoSR
  have HLN := hideB (len_is s)
  have HZ : Hid (∀ x, Z x → x < w.heap.size) := hZ
  have HHR := hideB HR
  have hrbb := h.rb_lt
  have hbs := h.sz
  have HF0 := hideB h
  obtain ⟨q, hq⟩ : ∃ q, skF s.data.toList p = q := ⟨_, rfl⟩
  have HPQ := hideB hq
  have hpq : p ≤ q := by rw [← hq]; exact skF_ge _ _
  have HQQ : Hid (skF s.data.toList q = q) := by rw [Hid, ← hq]; exact skF_idem _ _
  rw [hq]
  obtain ⟨xb, hxb⟩ : ∃ xb, w.heap.size = xb := ⟨_, rfl⟩
  obtain ⟨W1, hW1⟩ : ∃ W1, w.alloc (.cells #[.int .i64 9, .string ⟨#[]⟩, .int .i64 0, .slice none 0 0, .slice none 0 0, .slice none 0 0] 51) = W1 := ⟨_, rfl⟩
  have hb1 : Below w.heap.size w W1 := by rw [← hW1]; exact (Below.refl _ _).alloc (Nat.le_refl _) _
  have hz1' : W1.heap.size = xb + 1 := by rw [← hW1, ← hxb]; simp
  have HX1 : Hid (XB W1 xb (.slice none 0 0) (.slice none 0 0)) := by rw [Hid, ← hW1, ← hxb]; exact heap_alloc_new w _
  have hF1 : LfAt W1 rb base (ZR Z xb (.slice none 0 0) (.slice none 0 0)) s p false fs := HF0.out.fresh hb1 (fun x hx => by rcases hx with hx | hx | hx | hx; exact .inl hx; exact .inr (by omega); cases hx; cases hx) (fun x hx => by rcases hx with hx | hx | hx | hx; have := HZ.out x hx; omega; omega; cases hx; cases hx)
  have HB1 : Hid (LB rb base Z w W1) := LB.of_below hb1
  have hi := lfIs1 125 hF1 (by omega)
  rw [HPQ.out, show (125 : UInt8).toNat = 125 from rfl] at hi
  have HW1 := hideIt hW1
  have HZ1 := hideIt hz1'
  have hrx : rb < xb := by omega
  have HXB := hideIt hxb
  have HZX : Hid (∀ x, Z x → x < xb) := fun x hx => by have := HZ.out x hx; omega
  have hbx : base ≤ xb := by omega
  clear h hZ HR hq hb1 hF1 hW1 hz1' hbs
  cases a125 : isAt s.data.toList q 125
  rotate_left
  · have HE : Hid (mapF WSp R s.data.toList fs q = addF WSp (nodeK 9) fs (skF s.data.toList (q + 1))) := by rw [Hid]; unfold mapF; rw [if_pos a125]
    rw [a125] at hi
    have HI := hideB hi
    clear hi a125
    go_enter Tryz.func115, Tryz.ntmps115
    go_wp2_with fail
    rw [HW1.out]
    (try rw [HXB.out])
    refine HI.out.mono ?_
    rintro e w2 ⟨rfl, h, b⟩
    have h9 : LfAt w2 rb base (ZR Z xb (.slice none 0 0) (.slice none 0 0)) s (q + 1) false fs := h
    have h10 : LfAt w2 rb base Z s (q + 1) false fs := h9.fresh (Below.refl _ _) (fun x hx => .inl (.inl hx)) (fun x hx => by have := HZX.out x hx; have := b.size; have := HZ1.out; omega)
    have hx2 := HX1.out.keep b (.inr (.inl rfl)) (by omega)
    have x0 : w2.cell? ⟨xb, 0, none⟩ = some (.int .i64 9) := cellAt hx2 rfl
    have x1 : w2.cell? ⟨xb, 1, none⟩ = some (.string ⟨#[]⟩) := cellAt hx2 rfl
    have x2 : w2.cell? ⟨xb, 2, none⟩ = some (.int .i64 0) := cellAt hx2 rfl
    have x3 : w2.cell? ⟨xb, 3, none⟩ = some (.slice none 0 0) := cellAt hx2 rfl
    have x4 : w2.cell? ⟨xb, 4, none⟩ = some (.slice none 0 0) := cellAt hx2 rfl
    have x5 : w2.cell? ⟨xb, 5, none⟩ = some (.slice none 0 0) := cellAt hx2 rfl
    have HB2 := hideB (HB1.out.trans (b.mono fun x hx => .inl hx))
    have HA := hideB (lfAddK_any h10 (by omega) 9 ByteArray.empty 0)
    clear h h9 h10 b hx2
    go_wp2_with fail
    refine HA.out.mono ?_
    rintro e w9 ⟨rfl, h9, b9⟩
    have HF9 := hideB h9
    have HB9 := hideB (HB2.out.trans b9)
    clear h9 b9
    go_wp2_with fail
    go_ret
    exact LfOr.of HE.out (LfOr.add HF9.out hl (by omega) HB9.out)
  have HE : Hid (mapF WSp R s.data.toList fs q = rowsF WSp R s.data.toList (s.size + 1) [] [] fs q) := by rw [Hid]; unfold mapF; rw [if_neg (by rw [a125]; decide), HLN.out]
  rw [a125] at hi
  have HI := hideB hi
  clear hi a125
  obtain ⟨tg, htg⟩ : ∃ tg, mapF WSp R s.data.toList fs q = tg := ⟨_, rfl⟩
  rw [htg] at HE ⊢
  clear htg
  go_enter Tryz.func115, Tryz.ntmps115
  go_wp2_with fail
  rw [HW1.out]
  (try rw [HXB.out])
  refine HI.out.mono ?_
  rintro e w2 ⟨rfl, h, b⟩
  have h9 : LfAt w2 rb base (ZR Z xb (.slice none 0 0) (.slice none 0 0)) s q false fs := h
  have HF2 := hideB h9
  have HX2 := hideB (HX1.out.keep b (.inr (.inl rfl)) (by omega))
  have HB2 := hideB (HB1.out.trans (b.mono fun x hx => .inl hx))
  clear h h9 b
  go_wp2_with fail
  go_loopw [] (fun wr => ∃ (g y : Nat) (b : Bool) (names : List ByteArray) (kids : List Int) (fs' : List FN) (kv it : Value), names.length + g = s.size + 1 ∧ kids.length = names.length ∧ p ≤ y ∧ fs'.length + p ≤ 42 + y ∧ LfAt wr rb base (ZR Z xb kv it) s y b fs' ∧ LB rb base Z w wr ∧ XB wr xb kv it ∧ wr.ownsRow (xb + 1) 9 1 kv names.length (names.map .string) ∧ wr.ownsRow (xb + 1) 2 1 it kids.length (kids.map (.int .i64)) ∧ Hid ((b = true → tg = none) ∧ (b = false → fs'.length ≤ 40 ∧ names.length + p ≤ y ∧ tg = rowsF WSp R s.data.toList g names kids fs' (skF s.data.toList y)))) (fun wr => measLf wr rb s.size)
  case atStart => exact ⟨s.size + 1, q, false, [], [], fs, _, _, by simp, rfl, hpq, by omega, HF2.out, HB2.out, HX2.out, World.ownsRow_nil _ _ _ _, World.ownsRow_nil _ _ _ _, fun e => (by cases e), fun _ => ⟨hl, by simpa using hpq, by rw [HQQ.out]; exact HE.out⟩⟩
  case round =>
    obtain ⟨g, y, b, names, kids, fs', kv, it, hng, hkl, hpy, hfl, hfr, hbt, hxx, hrn, hrk, HEQ⟩ := hrel
    have hys := hfr.le
    have HS := hideIt hfr
    have HBT := hideIt hbt
    have HXX := hideIt hxx
    have HRN := hideIt hrn
    have HRK := hideIt hrk
    have zr : xb ≤ wr.heap.size := by have := hbt.size; have := HXB.out; omega
    have zx : xb < wr.heap.size := ltH hxx
    obtain ⟨c0, c1, c2⟩ := hfr.cells
    clear HF2 HX2 HB2 HE
    cases b
    rotate_left
    · have h1 : LfAt wr rb base Z s y true fs' := hfr.fresh (Below.refl _ _) (fun x hx => .inl (.inl hx)) (fun x hx => by have := HZX.out x hx; omega)
      have HS1 := hideIt h1
      have HTN := hideIt (HEQ.out.1 rfl)
      clear hfr hbt hxx hrn hrk h1 HEQ
      go_wp2_with fail
      go_ret
      exact LfOr.no HTN.out HS1.out hfl hpy HBT.out
    obtain ⟨hfl40, hny, hTG⟩ := HEQ.out.2 rfl
    have HTG := hideIt hTG
    obtain ⟨g, rfl⟩ : ∃ g', g = g' + 1 := ⟨g - 1, by omega⟩
    obtain ⟨ak, ck, ek⟩ := own_sl hrn
    obtain ⟨ai, ci, ei⟩ := own_sl hrk
    obtain ⟨k, hlen⟩ : ∃ k, names.length = k := ⟨_, rfl⟩
    have HKL : Hid (kids.length = k) := by rw [Hid, hkl, hlen]
    rw [hkl, hlen] at ei
    rw [hlen] at ek hng hny hkl
    have HLEN := hideIt hlen
    subst ek ei
    obtain ⟨q0, hq0⟩ : ∃ q0, skF s.data.toList y = q0 := ⟨_, rfl⟩
    rw [hq0] at HTG
    have HQ0 := hideIt hq0
    have hbd : Below wr.heap.size wr wr.drew := (Below.refl _ _).drew
    have hst0 : LfSt (some (fs', q0)) rb base (ZR Z xb (.slice ak k ck) (.slice ai k ci)) s y wr.drew := by rw [← hq0]; exact LfSt.good (hfr.below hbd) hfl40 (Nat.le_refl _)
    have HWD := hideIt (word_st (by omega) hst0)
    have HXD : Hid (XB wr.drew xb (.slice ak k ck) (.slice ai k ci)) := (hbd.block xb zx).trans hxx
    have HRND : Hid (wr.drew.ownsRow (xb + 1) 9 1 (.slice ak k ck) k (names.map Value.string)) := by rw [hlen] at hrn; exact ownK hrn fun x hx => hbd.block x (hrn.lt x hx).2
    have HRKD : Hid (wr.drew.ownsRow (xb + 1) 2 1 (.slice ai k ci) k (kids.map (Value.int .i64))) := by rw [HKL.out] at hrk; exact ownK hrk fun x hx => hbd.block x (hrk.lt x hx).2
    have HBD : Hid (LB rb base Z w wr.drew) := hbt.trans (LB.of_below hbd)
    have zxd : xb < wr.drew.heap.size := by simpa using zx
    have x4 : wr.cell? ⟨xb, 4, none⟩ = some (.slice ak k ck) := cellAt hxx rfl
    have y4 : wr.frozen? ⟨xb, 4, none⟩ = false := Lib.frozen_of_heap hxx 4
    have hone : ∀ (T : ByteArray), ∀ u ∈ [Value.string T], u.oneCell' = true := fun T u hu => by simp at hu; subst hu; rfl
    have hml : k + 1 ≤ maxLen := by unfold maxLen; omega
    have hby : (k + 1) * 16 ≤ 140737488355328 := by omega
    have hnr : (Value.slice ak k ck).ownBlock ≠ some xb := fun e => by have := (HRND.out.lt _ e).1; omega
    clear hfr hbt hxx hrn hrk hlen hkl hq0 hst0 hbd hTG HEQ
    go_wp2_with fail
    go_region_law
      (first
        | (refine step_call1 (by rfl) 119 _ _ (by rfl) (.pointer (some ⟨rb, 0, none⟩)) (by rfl) (call_wordR _) HWD.out ?_; rintro e w1 ⟨T, rfl, hb1, hst1, hT1⟩; have hx1 := HXD.out.keep hb1 (.inr (.inl rfl)) (by omega); have zx1 := ltH hx1; have hS1 : w1.cell? ⟨xb, 4, none⟩ = some (.slice ak k ck) := cellAt hx1 rfl; have hf1 : w1.frozen? ⟨xb, 4, none⟩ = false := Lib.frozen_of_heap hx1 4; have hbh := Bhd.of (u := .string T) (xb := xb) (hb1.own HRND.out (by decide) (by omega)) (by omega) zx1; refine ⟨_, rfl, ?_⟩)
        | (refine step_append_lies _ (by rfl) _ _ _ (by rfl) (xb + 1) 9 j1 (.string ByteArray.empty) 1 16 Tryz.underlying48 hj1 hzj hsj hyj rfl (by omega) (.slice ak k ck) k (names.map .string) (by rfl) hbh.row ⟨w1.heap.size, 0, none⟩ 1 1 [.string T] (by rfl) (by rfl) hbh.news (hone T) (by omega) hml hby hbh.base (w1.heap.size + 1) hbh.top ?_; intro g5 cap5 w5 hown hgrow hat hlt5; have hx5 : XB w5 xb (.slice ak k ck) (.slice ai k ci) := (hgrow.block xb hbh.lt (Ne.symm hnr)).trans ((heap_alloc_old w1 _ zx1).trans hx1); have hS3 : w5.cell? ⟨xb, 4, none⟩ = some (.slice ak k ck) := cellAt hx5 rfl; have hf3 : w5.frozen? ⟨xb, 4, none⟩ = false := Lib.frozen_of_heap hx5 4))
    all_goals
      -- the row of names has grown
      have hba : Below w1.heap.size w1 (w1.alloc (.cells #[.string T] 9)) := (Below.refl _ _).alloc (Nat.le_refl _) _
      have hza : (w1.alloc (.cells #[.string T] 9)).heap.size = w1.heap.size + 1 := by simp
      have hg5 := hgrow.size
      obtain ⟨r1, hr1⟩ : ∃ r1 : CF, ((some (fs', q0) : CF).bind fun x => some (x.1, skF s.data.toList (wdJ s.data.toList x.2))) = r1 := ⟨_, rfl⟩
      rw [hr1] at hst1
      have HR1 : Hid (r1 = some (fs', skF s.data.toList (wdJ s.data.toList q0))) := by rw [Hid, ← hr1]; rfl
      have HTT : Hid (T = txt ((s.data.toList.drop q0).take (wdJ s.data.toList q0 - q0))) := hT1 _ _ rfl
      obtain ⟨W6, hW6⟩ : ∃ W6, w5.setCell ⟨xb, 4, none⟩ (.slice (some ⟨g5, 0, none⟩) (k + 1) cap5) = W6 := ⟨_, rfl⟩
      have hz6 : W6.heap.size = w5.heap.size := by rw [← hW6]; simp
      have HX6 : Hid (XB W6 xb (.slice (some ⟨g5, 0, none⟩) (k + 1) cap5) (.slice ai k ci)) := by rw [Hid, ← hW6]; exact setH hx5 _
      have HN6 : Hid (W6.ownsRow (xb + 1) 9 1 (.slice (some ⟨g5, 0, none⟩) (k + 1) cap5) (names ++ [T]).length ((names ++ [T]).map .string)) := by
        rw [Hid, ← hW6, List.length_append, List.length_singleton, HLEN.out, List.map_append]; exact ownSet hown (by omega)
      have hrk1 := hb1.own HRKD.out (by decide) (by omega)
      have HK6 : Hid (W6.ownsRow (xb + 1) 2 1 (.slice ai k ci) k (kids.map (Value.int .i64))) := by
        rw [Hid, ← hW6]
        exact ownSet ((hrk1.alloc _).kept hgrow (own_apart (hrk1.alloc _) hbh.row (by decide))) (by omega)
      have HST6 : Hid (LfSt r1 rb base (ZR Z xb (.slice (some ⟨g5, 0, none⟩) (k + 1) cap5) (.slice ai k ci)) s y W6) := by
        rw [Hid, ← hW6]
        refine LfSt.setX (LfSt.grown (hst1.below hba) hbh.row (by decide) (by omega) (fun x hx => .inr (.inr (.inl hx))) hgrow (fun x hx => ?_) (fun x hx => ?_)) (.inr (.inl rfl)) (by omega)
        · rcases hx with hx | hx | hx | hx
          · exact .inl (.inl hx)
          · exact .inl (.inr (.inl hx))
          · have e : g5 = x := by simpa [Value.ownBlock] using hx
            rcases hat with h | h
            · exact .inl (.inr (.inr (.inl (by rw [← e]; exact h))))
            · exact .inr (by rw [hza]; omega)
          · exact .inl (.inr (.inr (.inr hx)))
        · rcases hx with hx | hx | hx | hx
          · have := HZX.out x hx; omega
          · omega
          · have e : g5 = x := by simpa [Value.ownBlock] using hx
            omega
          · have := (hrk1.lt x hx).2; omega
      have HB6 : Hid (LB rb base Z w W6) := by
        rw [Hid, ← hW6]
        exact (((HBD.out.trans (hb1.mono fun x hx => .inl hx)).trans (LB.of_below hba)).grownN hgrow (fun x hx => by have := (HRND.out.lt x hx).1; have := HXB.out; omega)).setN (by have := HXB.out; omega)
      have HW6 := hideIt hW6
      have zx6 : xb < W6.heap.size := by omega
      clear hb1 hst1 hT1 hx1 zx1 hS1 hf1 hbh hown hgrow hat hlt5 hx5 hS3 hf3 hba hza hg5 hr1 hW6 hz6 hrk1 x4 y4 c0 c1 c2 hone hml hby hnr
      have HWA := hideIt (want_st1 58 (by omega) HST6.out)
      go_wp2_with fail
      rw [HW6.out]
      refine HWA.out.mono ?_
      rintro e w7 ⟨rfl, b7, d, hd1, st7, hd0⟩
      obtain ⟨r2, hr2⟩ : ∃ r2 : CF, (r1.bind fun x => if isAt s.data.toList x.2 (58 : UInt8).toNat = true then some (x.1, skF s.data.toList (x.2 + 1)) else none) = r2 := ⟨_, rfl⟩
      rw [hr2] at st7 hd0
      have HR2 := hideIt hr2
      have HD0 := hideIt hd0
      have HX7 := hideIt (HX6.out.keep b7 (.inr (.inl rfl)) (by omega))
      have HN7 := hideIt (b7.own HN6.out (by decide) (by omega))
      have HK7 := hideIt (b7.own HK6.out (by decide) (by omega))
      have HB7 := hideIt (HB6.out.trans (b7.mono fun x hx => .inl hx))
      have zx7 := ltH HX7.out
      have hbd7 : Below w7.heap.size w7 w7.drew := (Below.refl _ _).drew
      have st7d := st7.below hbd7
      have HXD7 : Hid (XB w7.drew xb (.slice (some ⟨g5, 0, none⟩) (k + 1) cap5) (.slice ai k ci)) := (hbd7.block xb zx7).trans HX7.out
      have HND7 : Hid (w7.drew.ownsRow (xb + 1) 9 1 (.slice (some ⟨g5, 0, none⟩) (k + 1) cap5) (names ++ [T]).length ((names ++ [T]).map .string)) := ownK HN7.out fun x hx => hbd7.block x (HN7.out.lt x hx).2
      have HKD7 : Hid (w7.drew.ownsRow (xb + 1) 2 1 (.slice ai k ci) k (kids.map (Value.int .i64))) := ownK HK7.out fun x hx => hbd7.block x (HK7.out.lt x hx).2
      have HBD7 : Hid (LB rb base Z w w7.drew) := HB7.out.trans (LB.of_below hbd7)
      have HLV := hideIt (level_st HHR.out 3 (by decide) (by decide) st7d.zb (by omega) st7d)
      have x5 : w7.cell? ⟨xb, 5, none⟩ = some (.slice ai k ci) := cellAt HX7.out rfl
      have y5 : w7.frozen? ⟨xb, 5, none⟩ = false := Lib.frozen_of_heap HX7.out 5
      have zxd7 : xb < w7.drew.heap.size := by simpa using zx7
      have hone2 : ∀ (n : Int), ∀ u ∈ [Value.int .i64 n], u.oneCell' = true := fun n u hu => by simp at hu; subst hu; rfl
      have hml2 : k + 1 ≤ maxLen := by unfold maxLen; omega
      have hby2 : (k + 1) * 8 ≤ 140737488355328 := by omega
      have hnr2 : (Value.slice ai k ci).ownBlock ≠ some xb := fun e => by have := (HKD7.out.lt _ e).1; omega
      clear b7 st7 hr2 hd0 hbd7 st7d
      go_wp2_with fail
      go_region_law
        (first
          | (refine step_call2R (by rfl) 43 _ _ _ _ (by rfl) (.pointer (some ⟨rb, 0, none⟩)) (.int .i64 3) (by rfl) (by rfl) (call_levelR _ _) HLV.out ?_; rintro e w8 ⟨n, rfl, hb8, hst8, hn8⟩; have hx8 := HXD7.out.keep hb8 (.inr (.inl rfl)) (by omega); have zx8 := ltH hx8; have hS8 : w8.cell? ⟨xb, 5, none⟩ = some (.slice ai k ci) := cellAt hx8 rfl; have hf8 : w8.frozen? ⟨xb, 5, none⟩ = false := Lib.frozen_of_heap hx8 5; have hbh8 := Bhd.of (u := .int .i64 n) (xb := xb) (hb8.own HKD7.out (by decide) (by omega)) (by omega) zx8; refine ⟨_, rfl, ?_⟩)
          | (refine step_append_lies _ (by rfl) _ _ _ (by rfl) (xb + 1) 2 i1 (.int .i64 0) 1 8 Tryz.underlying49 hi1 hz1 hs1 hy1 rfl (by omega) (.slice ai k ci) k (kids.map (Value.int .i64)) (by rfl) hbh8.row ⟨w8.heap.size, 0, none⟩ 1 1 [.int .i64 n] (by rfl) (by rfl) hbh8.news (hone2 n) (by omega) hml2 hby2 hbh8.base (w8.heap.size + 1) hbh8.top ?_; intro g9 cap9 w9 hown hgrow hat hlt9; have hx9 : XB w9 xb (.slice (some ⟨g5, 0, none⟩) (k + 1) cap5) (.slice ai k ci) := (hgrow.block xb hbh8.lt (Ne.symm hnr2)).trans ((heap_alloc_old w8 _ zx8).trans hx8); have hS9 : w9.cell? ⟨xb, 5, none⟩ = some (.slice ai k ci) := cellAt hx9 rfl; have hf9 : w9.frozen? ⟨xb, 5, none⟩ = false := Lib.frozen_of_heap hx9 5))
      all_goals
        have hba : Below w8.heap.size w8 (w8.alloc (.cells #[.int .i64 n] 2)) := (Below.refl _ _).alloc (Nat.le_refl _) _
        have hza : (w8.alloc (.cells #[.int .i64 n] 2)).heap.size = w8.heap.size + 1 := by simp
        have hg9 := hgrow.size
        obtain ⟨r3, hr3⟩ : ∃ r3 : CF, (r2.bind fun x => (R 3 x.1 x.2).map (·.2)) = r3 := ⟨_, rfl⟩
        rw [hr3] at hst8
        have HSTEP : Hid (tg = r3.bind fun x => if isAt s.data.toList x.2 125 = true then addF WSp (nodeM (names ++ [T]) (kids ++ [n])) x.1 (skF s.data.toList (x.2 + 1)) else mustF s.data.toList x.2 44 fun q => rowsF WSp R s.data.toList g (names ++ [T]) (kids ++ [n]) x.1 q) := by
          rw [Hid, HTG.out]
          exact rowsF_is HTT.out HR1.out HR2.out.symm hr3.symm hn8
        have HD3 : Hid (r3 ≠ none → d = 1) := fun hne => by
          have : r2 ≠ none := fun e => hne (by rw [← hr3, e]; rfl)
          have : d ≠ 0 := fun e => this (HD0.out e)
          omega
        obtain ⟨WA, hWA⟩ : ∃ WA, w9.setCell ⟨xb, 5, none⟩ (.slice (some ⟨g9, 0, none⟩) (k + 1) cap9) = WA := ⟨_, rfl⟩
        have hzA : WA.heap.size = w9.heap.size := by rw [← hWA]; simp
        have HXA : Hid (XB WA xb (.slice (some ⟨g5, 0, none⟩) (k + 1) cap5) (.slice (some ⟨g9, 0, none⟩) (k + 1) cap9)) := by rw [Hid, ← hWA]; exact setH hx9 _
        have HKA : Hid (WA.ownsRow (xb + 1) 2 1 (.slice (some ⟨g9, 0, none⟩) (k + 1) cap9) (kids ++ [n]).length ((kids ++ [n]).map (Value.int .i64))) := by
          rw [Hid, ← hWA, List.length_append, List.length_singleton, HKL.out, List.map_append]; exact ownSet hown (by omega)
        have hrn8 := hb8.own HND7.out (by decide) (by omega)
        have HNA : Hid (WA.ownsRow (xb + 1) 9 1 (.slice (some ⟨g5, 0, none⟩) (k + 1) cap5) (names ++ [T]).length ((names ++ [T]).map .string)) := by
          rw [Hid, ← hWA]
          exact ownSet ((hrn8.alloc _).kept hgrow (own_apart (hrn8.alloc _) hbh8.row (by decide))) (by omega)
        have HSTA : Hid (LfSt r3 rb base (ZR Z xb (.slice (some ⟨g5, 0, none⟩) (k + 1) cap5) (.slice (some ⟨g9, 0, none⟩) (k + 1) cap9)) s (y + d) WA) := by
          rw [Hid, ← hWA]
          refine LfSt.setX (LfSt.grown (hst8.below hba) hbh8.row (by decide) (by omega) (fun x hx => .inr (.inr (.inr hx))) hgrow (fun x hx => ?_) (fun x hx => ?_)) (.inr (.inl rfl)) (by omega)
          · rcases hx with hx | hx | hx | hx
            · exact .inl (.inl hx)
            · exact .inl (.inr (.inl hx))
            · exact .inl (.inr (.inr (.inl hx)))
            · have e : g9 = x := by simpa [Value.ownBlock] using hx
              rcases hat with h | h
              · exact .inl (.inr (.inr (.inr (by rw [← e]; exact h))))
              · exact .inr (by rw [hza]; omega)
          · rcases hx with hx | hx | hx | hx
            · have := HZX.out x hx; omega
            · omega
            · have := (hrn8.lt x hx).2; omega
            · have e : g9 = x := by simpa [Value.ownBlock] using hx
              omega
        have HBA : Hid (LB rb base Z w WA) := by
          rw [Hid, ← hWA]
          exact (((HBD7.out.trans (hb8.mono fun x hx => .inl hx)).trans (LB.of_below hba)).grownN hgrow (fun x hx => by have := (HKD7.out.lt x hx).1; have := HXB.out; omega)).setN (by have := HXB.out; omega)
        have HWA2 := hideIt hWA
        have zxA : xb < WA.heap.size := by omega
        clear hb8 hst8 hn8 hx8 zx8 hS8 hf8 hbh8 hown hgrow hat hlt9 hx9 hS9 hf9 hba hza hg9 hr3 hWA hzA hrn8 x5 y5 hone2 hml2 hby2 hnr2
        have HIS := hideIt (is_st 125 (by omega) HSTA.out)
        go_wp2_with fail
        rw [HWA2.out]
        refine HIS.out.mono ?_
        rintro e w10 ⟨b10, ⟨rfl, fs3, q3, hr, hi, st10⟩ | ⟨rfl, hno, st10⟩⟩
        · have HY : Hid (tg = addF WSp (nodeM (names ++ [T]) (kids ++ [n])) fs3 (skF s.data.toList (q3 + 1))) := by
            rw [Hid, HSTEP.out, hr]; show (if isAt s.data.toList q3 125 = true then _ else _) = _; rw [if_pos (show isAt s.data.toList q3 125 = true from hi)]
          have HX10 := hideIt (HXA.out.keep b10 (.inr (.inl rfl)) (by omega))
          have HN10 := hideIt (b10.own HNA.out (by decide) (by omega))
          have HK10 := hideIt (b10.own HKA.out (by decide) (by omega))
          have HB10 := hideIt (HBA.out.trans (b10.mono fun x hx => .inl hx))
          obtain ⟨bb, fs4, y4, ha4, hp4, hl4, hb4, hg4⟩ := st10.at
          have hbb : bb = false := by
            cases bb
            · rfl
            · exact absurd (hb4 rfl) (by simp)
          subst hbb
          obtain ⟨e4, hl40⟩ := hg4 rfl
          have e5 : fs3 = fs4 ∧ skF s.data.toList (q3 + 1) = skF s.data.toList y4 := by simpa using e4
          have HY2 : Hid (tg = addF WSp (nodeM (names ++ [T]) (kids ++ [n])) fs4 (skF s.data.toList y4)) := by rw [Hid, HY.out, e5.2, e5.1]
          have hx10 := HX10.out
          have x0 : w10.cell? ⟨xb, 0, none⟩ = some (.int .i64 9) := cellAt hx10 rfl
          have x1 : w10.cell? ⟨xb, 1, none⟩ = some (.string ⟨#[]⟩) := cellAt hx10 rfl
          have x2 : w10.cell? ⟨xb, 2, none⟩ = some (.int .i64 0) := cellAt hx10 rfl
          have x3 : w10.cell? ⟨xb, 3, none⟩ = some (.slice none 0 0) := cellAt hx10 rfl
          have x4 : w10.cell? ⟨xb, 4, none⟩ = some (.slice (some ⟨g5, 0, none⟩) (k + 1) cap5) := cellAt hx10 rfl
          have x5 : w10.cell? ⟨xb, 5, none⟩ = some (.slice (some ⟨g9, 0, none⟩) (k + 1) cap9) := cellAt hx10 rfl
          have HA := hideIt (lfAdd_any (Z' := Z) (x := nodeM (names ++ [T]) (kids ++ [n])) (kc := .slice none 0 0) (kn := .slice (some ⟨g5, 0, none⟩) (k + 1) cap5) (ki := .slice (some ⟨g9, 0, none⟩) (k + 1) cap9) ha4 (nestNil _ _) (ownB HN10.out (by omega)) (ownB HK10.out (by omega)) (fun x hx => by
            rcases hx with hx | hx | hx
            · cases hx
            · exact .inr (.inr (.inl hx))
            · exact .inr (.inr (.inr hx))) (fun x hx => ⟨.inl hx, fun e => by
            have h0 := HZX.out x hx
            rcases e with e | e | e
            · cases e
            · have := (HN10.out.lt x e).1; omega
            · have := (HK10.out.lt x e).1; omega⟩) (by omega))
          clear b10 st10 hr hi ha4 hl4 hb4 hg4 e4 e5 hx10
          go_wp2_with fail
          refine HA.out.mono ?_
          rintro e w11 ⟨rfl, h11, b11⟩
          have HF11 := hideB h11
          have HB11 := hideB (HB10.out.trans (b11.mono fun x hx => .inl hx))
          clear h11 b11
          go_wp2_with fail
          go_ret
          exact LfOr.of HY2.out (LfOr.add HF11.out hl40 (by omega) HB11.out)
        · have HX10 := hideIt (HXA.out.keep b10 (.inr (.inl rfl)) (by omega))
          have HN10 := hideIt (b10.own HNA.out (by decide) (by omega))
          have HK10 := hideIt (b10.own HKA.out (by decide) (by omega))
          have HB10 := hideIt (HBA.out.trans (b10.mono fun x hx => .inl hx))
          have HNO := hideIt hno
          have HWB := hideIt (want_st 44 (by omega) st10)
          clear b10 st10 hno
          go_wp2_with fail
          refine HWB.out.mono ?_
          rintro e w11 ⟨rfl, b11, st11⟩
          obtain ⟨r4, hr4⟩ : ∃ r4 : CF, (r3.bind fun x => if isAt s.data.toList x.2 (44 : UInt8).toNat = true then some (x.1, skF s.data.toList (x.2 + 1)) else none) = r4 := ⟨_, rfl⟩
          rw [hr4] at st11
          have HR4 : Hid (tg = r4.bind fun x => rowsF WSp R s.data.toList g (names ++ [T]) (kids ++ [n]) x.1 x.2) := by
            rw [Hid, HSTEP.out, ← hr4]
            cases e3 : r3 with
            | none => rfl
            | some x =>
              obtain ⟨f3, q3⟩ := x
              show (if isAt s.data.toList q3 125 = true then _ else mustF s.data.toList q3 44 fun q => rowsF WSp R s.data.toList g (names ++ [T]) (kids ++ [n]) f3 q) = Option.bind (if isAt s.data.toList q3 44 = true then _ else _) _
              rw [if_neg (show ¬ isAt s.data.toList q3 125 = true by rw [show isAt s.data.toList q3 125 = false from HNO.out f3 q3 e3]; decide)]
              by_cases e44 : isAt s.data.toList q3 44 = true
              · rw [if_pos e44, mustYS e44]; rfl
              · rw [if_neg e44, mustNS e44]; rfl
          have HD4 : Hid (r4 ≠ none → d = 1) := fun hne => HD3.out (fun e => hne (by rw [← hr4, e]; rfl))
          have HX11 := hideIt (HX10.out.keep b11 (.inr (.inl rfl)) (by omega))
          have HN11 := hideIt (b11.own HN10.out (by decide) (by omega))
          have HK11 := hideIt (b11.own HK10.out (by decide) (by omega))
          have HB11 := hideIt (HB10.out.trans (b11.mono fun x hx => .inl hx))
          obtain ⟨bb, fs5, y5, ha5, hp5, hl5, hb5, hg5⟩ := st11.at
          have HA5 := hideIt ha5
          have HB5 := hideIt hb5
          have HG5 := hideIt hg5
          have hms : measLf w11 rb s.size < s.size + 1 - y := by
            rw [ha5.meas]
            have := ha5.le
            cases bb
            · have h4 : r4 ≠ none := by rw [(hg5 rfl).1]; simp
              have := HD4.out h4
              rw [if_neg (by decide)]; omega
            · rw [if_pos rfl]; omega
          have HMS := hideIt hms
          clear b11 st11 hr4 ha5 hb5 hg5 hms
          go_wp2_with fail
          go_roundw
          case rel =>
            refine ⟨g, y5, bb, names ++ [T], kids ++ [n], fs5, _, _, ?_, ?_, by omega, by omega, HA5.out, HB11.out, HX11.out, ?_, ?_, ?_⟩
            · rw [List.length_append, List.length_singleton, HLEN.out]; omega
            · rw [List.length_append, List.length_append, List.length_singleton, List.length_singleton, HLEN.out, HKL.out]
            · exact HN11.out
            · exact HK11.out
            · refine ⟨fun e => by rw [HR4.out, HB5.out e]; rfl, fun e => ?_⟩
              obtain ⟨e4, hl4⟩ := HG5.out e
              have := HD4.out (by rw [e4]; simp)
              refine ⟨hl4, ?_, by rw [HR4.out, e4]; rfl⟩
              rw [List.length_append, List.length_singleton, HLEN.out]; omega
          case measure =>
            rw [HS.out.meas, if_neg (by decide)]
            exact HMS.out
end
end Go.Proofs.YtehihemfepbmfaaGreatDoor

/-
  The specification's l7Rf: what binds most. (Made by mksgp.py.)
-/
namespace Go.Proofs.YtehihemfepbmfaaGreatDoor
open Go.RowKit
set_option linter.unusedSimpArgs false
set_option linter.unusedVariables false
set_option linter.unusedSectionVars false

theorem listF_is {R : RD} {L : List UInt8} {fs : List FN} {p : Nat} {k : Int → List FN → Nat → RF} : (bindF (R 1 fs p) fun n fs q => mustF L q 93 fun q => k n fs q) = bindF (aroundF R L 93 fs p) k := by
  unfold aroundF
  cases R 1 fs p with
  | none => rfl
  | some y =>
    obtain ⟨a, f1, q1⟩ := y
    rw [bindF_some, bindF_some]
    unfold mustF
    split <;> rfl
theorem num_none {L : List UInt8} {q : Nat} (h1 : isAt L q 45 = false) (h2 : digAt L q = false) : intT (numW L q) = none := by
  have hn : numAt L q = q := by unfold numAt; rw [h1]; rfl
  have hd : dgJ L q = q := runJ_no (fun e => by
    unfold digAt at h2
    rw [decide_eq_true e.1] at h2
    have := e.2
    simp only [Bool.true_and] at h2
    unfold digC at this
    unfold digN at h2
    simp at this h2
    omega)
  have : numW L q = [] := by unfold numW; rw [hn, hd, Nat.sub_self]; rfl
  rw [this]; rfl

section
variable {R : RD} {f rb base : Nat} {s : ByteArray} (HR : RdsS R f rb base s)
include HR
set_option maxRecDepth 100000 in
set_option maxHeartbeats 6400000 in
theorem lfPrim_dot {p q : Nat} {Z : Nat → Prop} {fs : List FN} {w : World} (h : LfAt w rb base Z s p false fs) (hZ : ∀ x, Z x → x < w.heap.size) (hs : s.size ≤ 1000) (hl : fs.length ≤ 40) (hf : s.size ≤ p + f) (hq : skF s.data.toList p = q)  (a46 : isAt s.data.toList q 46 = true) :
    Calls Tryz.prog 78 #[.pointer (some ⟨rb, 0, none⟩)] w (LfOr (wholeF WSp R s.data.toList fs q) rb base Z s p w) := by
  have HLN := hideB (len_is s)
  have HF0 := hideB h
  have HB0 : Hid (LB rb base Z w w) := LB.refl _ _ _ _
  have HZ : Hid (∀ x, Z x → x < w.heap.size) := hZ
  have HHR := hideB HR
  have hpq : p ≤ q := by rw [← hq]; exact skF_ge _ _
  have HQQ : Hid (skF s.data.toList q = q) := by rw [Hid, ← hq]; exact skF_idem _ _
  have HPQ := hideB hq
  have HA46 := hideB a46
  have HE : Hid (wholeF WSp R s.data.toList fs q = pointF WSp s.data.toList fs (q + 1)) := by rw [Hid]; unfold wholeF; rw [if_pos a46]
  clear a46
  clear h hZ HR hq
  go_enter Tryz.func78, Tryz.ntmps78
  have hi0 := lfIs1 46 HF0.out (by omega)
  rw [HPQ.out, show (46 : UInt8).toNat = 46 from rfl, HA46.out] at hi0
  have HI0 := hideB hi0
  clear hi0
  go_wp2_with fail
  refine HI0.out.mono ?_
  rintro e w1 ⟨rfl, h, b⟩
  have h9 : LfAt w1 rb base Z s (q + 1) false fs := h
  have HF1 := hideB h9
  have HB1 := hideB (HB0.out.trans b)
  clear h h9 b HI0
  have HZ1 : Hid (∀ x, Z x → x < w1.heap.size) := fun x hx => Nat.lt_of_lt_of_le (HZ.out x hx) HB1.out.size
  have HD := hideB (lfDot_any HF1.out (by omega) hl)
  go_wp2_with fail
  refine HD.out.mono ?_
  intro e w9 h9
  obtain ⟨n9, rfl, b9, s9, hn9⟩ := h9.st
  have HO9 := hideB h9
  clear h9 b9 s9 hn9
  go_wp2_with fail
  go_ret
  exact LfOr.of HE.out (LfOr.after HB1.out (by omega) HO9.out)
set_option maxRecDepth 100000 in
set_option maxHeartbeats 6400000 in
theorem lfPrim_around {p q : Nat} {Z : Nat → Prop} {fs : List FN} {w : World} (h : LfAt w rb base Z s p false fs) (hZ : ∀ x, Z x → x < w.heap.size) (hs : s.size ≤ 1000) (hl : fs.length ≤ 40) (hf : s.size ≤ p + f) (hq : skF s.data.toList p = q) (a46 : isAt s.data.toList q 46 = false) (a40 : isAt s.data.toList q 40 = true) :
    Calls Tryz.prog 78 #[.pointer (some ⟨rb, 0, none⟩)] w (LfOr (wholeF WSp R s.data.toList fs q) rb base Z s p w) := by
  have HLN := hideB (len_is s)
  have HF0 := hideB h
  have HB0 : Hid (LB rb base Z w w) := LB.refl _ _ _ _
  have HZ : Hid (∀ x, Z x → x < w.heap.size) := hZ
  have HHR := hideB HR
  have hpq : p ≤ q := by rw [← hq]; exact skF_ge _ _
  have HQQ : Hid (skF s.data.toList q = q) := by rw [Hid, ← hq]; exact skF_idem _ _
  have HPQ := hideB hq
  have HA46 := hideB a46
  have HA40 := hideB a40
  have HE : Hid (wholeF WSp R s.data.toList fs q = aroundF R s.data.toList 41 fs (skF s.data.toList (q + 1))) := by rw [Hid]; unfold wholeF; rw [if_neg (by rw [a46]; decide), if_pos a40]
  clear a46 a40
  clear h hZ HR hq
  go_enter Tryz.func78, Tryz.ntmps78
  have hi0 := lfIs1 46 HF0.out (by omega)
  rw [HPQ.out, show (46 : UInt8).toNat = 46 from rfl, HA46.out] at hi0
  have HI0 := hideB hi0
  clear hi0
  go_wp2_with fail
  refine HI0.out.mono ?_
  rintro e w1 ⟨rfl, h, b⟩
  have h9 : LfAt w1 rb base Z s q false fs := h
  have HF1 := hideB h9
  have HB1 := hideB (HB0.out.trans b)
  clear h h9 b HI0
  have hi1 := lfIs1 40 HF1.out (by omega)
  rw [HQQ.out, show (40 : UInt8).toNat = 40 from rfl, HA40.out] at hi1
  have HI1 := hideB hi1
  clear hi1
  go_wp2_with fail
  refine HI1.out.mono ?_
  rintro e w2 ⟨rfl, h, b⟩
  have h9 : LfAt w2 rb base Z s (q + 1) false fs := h
  have HF2 := hideB h9
  have HB2 := hideB (HB1.out.trans b)
  clear h h9 b HI1
  have HZ2 : Hid (∀ x, Z x → x < w2.heap.size) := fun x hx => Nat.lt_of_lt_of_le (HZ.out x hx) HB2.out.size
  have HL := hideB (HHR.out 1 Z fs (q + 1) w2 (by decide) (by decide) HZ2.out HF2.out hl (by omega))
  skip
  go_wp2_with fail
  refine HL.out.mono ?_
  intro e w11 h11
  obtain ⟨a, rfl, b11, s11, hn⟩ := h11.st
  have HB11 := hideB (HB2.out.trans b11)
  have HZ11 : Hid (∀ x, Z x → x < w11.heap.size) := fun x hx => Nat.lt_of_lt_of_le (HZ2.out x hx) b11.size
  have HNA := hideB hn
  obtain ⟨ca, hca⟩ : ∃ ca : CF, (R 1 fs (skF s.data.toList (q + 1))).map (·.2) = ca := ⟨_, rfl⟩
  rw [hca] at s11
  have HCA := hideB hca
  have HW := hideB (want_st 41 (by omega) s11)
  clear h11 b11 s11 hn hca
  go_wp2_with fail
  refine HW.out.mono ?_
  rintro e w12 ⟨rfl, b12, s12⟩
  have HB12 := hideB (HB11.out.trans b12)
  have HZ12 : Hid (∀ x, Z x → x < w12.heap.size) := fun x hx => Nat.lt_of_lt_of_le (HZ11.out x hx) b12.size
  obtain ⟨se, hse⟩ : ∃ se : CF, (ca.bind fun x => if isAt s.data.toList x.2 (41 : UInt8).toNat = true then some (x.1, skF s.data.toList (x.2 + 1)) else none) = se := ⟨_, rfl⟩
  rw [hse] at s12
  have HSE := hideB hse
  have HS12 := hideB s12
  clear b12 s12 hse
  go_wp2_with fail
  go_ret
  exact LfSt.or HS12.out (by omega) HB12.out (HE.out.trans (aroundF_is HCA.out.symm HNA.out HSE.out.symm))
set_option maxRecDepth 100000 in
set_option maxHeartbeats 6400000 in
theorem lfPrim_list {p q : Nat} {Z : Nat → Prop} {fs : List FN} {w : World} (h : LfAt w rb base Z s p false fs) (hZ : ∀ x, Z x → x < w.heap.size) (hs : s.size ≤ 1000) (hl : fs.length ≤ 40) (hf : s.size ≤ p + f) (hq : skF s.data.toList p = q) (a46 : isAt s.data.toList q 46 = false) (a40 : isAt s.data.toList q 40 = false) (a91 : isAt s.data.toList q 91 = true) :
    Calls Tryz.prog 78 #[.pointer (some ⟨rb, 0, none⟩)] w (LfOr (wholeF WSp R s.data.toList fs q) rb base Z s p w) := by
  have HLN := hideB (len_is s)
  have HF0 := hideB h
  have HB0 : Hid (LB rb base Z w w) := LB.refl _ _ _ _
  have HZ : Hid (∀ x, Z x → x < w.heap.size) := hZ
  have HHR := hideB HR
  have hpq : p ≤ q := by rw [← hq]; exact skF_ge _ _
  have HQQ : Hid (skF s.data.toList q = q) := by rw [Hid, ← hq]; exact skF_idem _ _
  have HPQ := hideB hq
  have HA46 := hideB a46
  have HA40 := hideB a40
  have HA91 := hideB a91
  have HE : Hid (wholeF WSp R s.data.toList fs q = listF WSp R s.data.toList fs (skF s.data.toList (q + 1))) := by rw [Hid]; unfold wholeF; rw [if_neg (by rw [a46]; decide), if_neg (by rw [a40]; decide), if_pos a91]
  obtain ⟨q2, hq2⟩ : ∃ q2, skF s.data.toList (q + 1) = q2 := ⟨_, rfl⟩
  have hq2l : q + 1 ≤ q2 := by rw [← hq2]; exact skF_ge _ _
  have HQ2 : Hid (skF s.data.toList q2 = q2) := by rw [Hid, ← hq2]; exact skF_idem _ _
  rw [hq2] at HE
  have HPQ2 := hideB hq2
  clear hq2
  clear a46 a40 a91
  clear h hZ HR hq
  go_enter Tryz.func78, Tryz.ntmps78
  have hi0 := lfIs1 46 HF0.out (by omega)
  rw [HPQ.out, show (46 : UInt8).toNat = 46 from rfl, HA46.out] at hi0
  have HI0 := hideB hi0
  clear hi0
  go_wp2_with fail
  refine HI0.out.mono ?_
  rintro e w1 ⟨rfl, h, b⟩
  have h9 : LfAt w1 rb base Z s q false fs := h
  have HF1 := hideB h9
  have HB1 := hideB (HB0.out.trans b)
  clear h h9 b HI0
  have hi1 := lfIs1 40 HF1.out (by omega)
  rw [HQQ.out, show (40 : UInt8).toNat = 40 from rfl, HA40.out] at hi1
  have HI1 := hideB hi1
  clear hi1
  go_wp2_with fail
  refine HI1.out.mono ?_
  rintro e w2 ⟨rfl, h, b⟩
  have h9 : LfAt w2 rb base Z s q false fs := h
  have HF2 := hideB h9
  have HB2 := hideB (HB1.out.trans b)
  clear h h9 b HI1
  have hi2 := lfIs1 91 HF2.out (by omega)
  rw [HQQ.out, show (91 : UInt8).toNat = 91 from rfl, HA91.out] at hi2
  have HI2 := hideB hi2
  clear hi2
  go_wp2_with fail
  refine HI2.out.mono ?_
  rintro e w3 ⟨rfl, h, b⟩
  have h9 : LfAt w3 rb base Z s (q + 1) false fs := h
  have HF3 := hideB h9
  have HB3 := hideB (HB2.out.trans b)
  clear h h9 b HI2
  have HZ3 : Hid (∀ x, Z x → x < w3.heap.size) := fun x hx => Nat.lt_of_lt_of_le (HZ.out x hx) HB3.out.size
  have hi := lfIs1 93 HF3.out (by omega)
  rw [HPQ2.out, show (93 : UInt8).toNat = 93 from rfl] at hi
  cases a93 : isAt s.data.toList q2 93
  rotate_left
  · have HL : Hid (wholeF WSp R s.data.toList fs q = addF WSp (nodeK 8) fs (skF s.data.toList (q2 + 1))) := by rw [Hid, HE.out]; unfold listF; rw [if_pos a93]
    rw [a93] at hi
    have HI := hideB hi
    clear hi a93
    go_wp2_with fail
    refine HI.out.mono ?_
    rintro e w4 ⟨rfl, h, b⟩
    have h9 : LfAt w4 rb base Z s (q2 + 1) false fs := h
    have HA := hideB (lfAddK_any h9 (by omega) 8 ByteArray.empty 0)
    have HB4 := hideB (HB3.out.trans b)
    clear h h9 b
    go_wp2_with fail
    refine HA.out.mono ?_
    rintro e w9 ⟨rfl, h9, b9⟩
    have HF9 := hideB h9
    have HB9 := hideB (HB4.out.trans b9)
    clear h9 b9
    go_wp2_with fail
    go_ret
    exact LfOr.of HL.out (LfOr.add HF9.out hl (by omega) HB9.out)
  have HEL : Hid (wholeF WSp R s.data.toList fs q = bindF (aroundF R s.data.toList 93 fs q2) fun n fs q => addF WSp (nodeR 8 [n]) fs q) := by rw [Hid, HE.out]; unfold listF; rw [if_neg (by rw [a93]; decide)]; exact listF_is
  rw [a93] at hi
  have HI := hideB hi
  clear hi a93
  go_wp2_with fail
  refine HI.out.mono ?_
  rintro e w4 ⟨rfl, h, b⟩
  have h9 : LfAt w4 rb base Z s q2 false fs := h
  have HF4 := hideB h9
  have HB4 := hideB (HB3.out.trans b)
  have HZ4 : Hid (∀ x, Z x → x < w4.heap.size) := fun x hx => Nat.lt_of_lt_of_le (HZ3.out x hx) b.size
  clear h h9 b
  have HL := hideB (HHR.out 1 Z fs q2 w4 (by decide) (by decide) HZ4.out HF4.out hl (by omega))
  rw [HQ2.out] at HL
  go_wp2_with fail
  refine HL.out.mono ?_
  intro e w11 h11
  obtain ⟨a, rfl, b11, s11, hn⟩ := h11.st
  have HB11 := hideB (HB4.out.trans b11)
  have HZ11 : Hid (∀ x, Z x → x < w11.heap.size) := fun x hx => Nat.lt_of_lt_of_le (HZ4.out x hx) b11.size
  have HNA := hideB hn
  obtain ⟨ca, hca⟩ : ∃ ca : CF, (R 1 fs q2).map (·.2) = ca := ⟨_, rfl⟩
  rw [hca] at s11
  have HCA := hideB hca
  have HW := hideB (want_st 93 (by omega) s11)
  clear h11 b11 s11 hn hca
  go_wp2_with fail
  refine HW.out.mono ?_
  rintro e w12 ⟨rfl, b12, s12⟩
  have HB12 := hideB (HB11.out.trans b12)
  have HZ12 : Hid (∀ x, Z x → x < w12.heap.size) := fun x hx => Nat.lt_of_lt_of_le (HZ11.out x hx) b12.size
  obtain ⟨se, hse⟩ : ∃ se : CF, (ca.bind fun x => if isAt s.data.toList x.2 (93 : UInt8).toNat = true then some (x.1, skF s.data.toList (x.2 + 1)) else none) = se := ⟨_, rfl⟩
  rw [hse] at s12
  have HSE := hideB hse
  have HS12 := hideB s12
  clear b12 s12 hse
  have HA := hideB (addR_st (p0 := p) HS12.out (by omega) (by omega) HZ12.out 8 [a] (by simp))
  go_wp2_with fail
  refine HA.out.mono ?_
  intro e w9 h9
  obtain ⟨n9, rfl, b9, s9, hn9⟩ := h9.st
  have HO9 := hideB h9
  clear h9 b9 s9 hn9
  go_wp2_with fail
  go_ret
  refine LfOr.of ?_ (LfOr.after HB12.out (Nat.le_refl _) HO9.out)
  rw [HEL.out, aroundF_is (c := 93) HCA.out.symm HNA.out HSE.out.symm]
  exact bindF_map
set_option maxRecDepth 100000 in
set_option maxHeartbeats 6400000 in
theorem lfPrim_map {p q : Nat} {Z : Nat → Prop} {fs : List FN} {w : World} (h : LfAt w rb base Z s p false fs) (hZ : ∀ x, Z x → x < w.heap.size) (hs : s.size ≤ 1000) (hl : fs.length ≤ 40) (hf : s.size ≤ p + f) (hq : skF s.data.toList p = q) (a46 : isAt s.data.toList q 46 = false) (a40 : isAt s.data.toList q 40 = false) (a91 : isAt s.data.toList q 91 = false) (a123 : isAt s.data.toList q 123 = true) :
    Calls Tryz.prog 78 #[.pointer (some ⟨rb, 0, none⟩)] w (LfOr (wholeF WSp R s.data.toList fs q) rb base Z s p w) := by
  have HLN := hideB (len_is s)
  have HF0 := hideB h
  have HB0 : Hid (LB rb base Z w w) := LB.refl _ _ _ _
  have HZ : Hid (∀ x, Z x → x < w.heap.size) := hZ
  have HHR := hideB HR
  have hpq : p ≤ q := by rw [← hq]; exact skF_ge _ _
  have HQQ : Hid (skF s.data.toList q = q) := by rw [Hid, ← hq]; exact skF_idem _ _
  have HPQ := hideB hq
  have HA46 := hideB a46
  have HA40 := hideB a40
  have HA91 := hideB a91
  have HA123 := hideB a123
  have HE : Hid (wholeF WSp R s.data.toList fs q = mapF WSp R s.data.toList fs (skF s.data.toList (q + 1))) := by rw [Hid]; unfold wholeF; rw [if_neg (by rw [a46]; decide), if_neg (by rw [a40]; decide), if_neg (by rw [a91]; decide), if_pos a123]
  clear a46 a40 a91 a123
  clear h hZ HR hq
  go_enter Tryz.func78, Tryz.ntmps78
  have hi0 := lfIs1 46 HF0.out (by omega)
  rw [HPQ.out, show (46 : UInt8).toNat = 46 from rfl, HA46.out] at hi0
  have HI0 := hideB hi0
  clear hi0
  go_wp2_with fail
  refine HI0.out.mono ?_
  rintro e w1 ⟨rfl, h, b⟩
  have h9 : LfAt w1 rb base Z s q false fs := h
  have HF1 := hideB h9
  have HB1 := hideB (HB0.out.trans b)
  clear h h9 b HI0
  have hi1 := lfIs1 40 HF1.out (by omega)
  rw [HQQ.out, show (40 : UInt8).toNat = 40 from rfl, HA40.out] at hi1
  have HI1 := hideB hi1
  clear hi1
  go_wp2_with fail
  refine HI1.out.mono ?_
  rintro e w2 ⟨rfl, h, b⟩
  have h9 : LfAt w2 rb base Z s q false fs := h
  have HF2 := hideB h9
  have HB2 := hideB (HB1.out.trans b)
  clear h h9 b HI1
  have hi2 := lfIs1 91 HF2.out (by omega)
  rw [HQQ.out, show (91 : UInt8).toNat = 91 from rfl, HA91.out] at hi2
  have HI2 := hideB hi2
  clear hi2
  go_wp2_with fail
  refine HI2.out.mono ?_
  rintro e w3 ⟨rfl, h, b⟩
  have h9 : LfAt w3 rb base Z s q false fs := h
  have HF3 := hideB h9
  have HB3 := hideB (HB2.out.trans b)
  clear h h9 b HI2
  have hi3 := lfIs1 123 HF3.out (by omega)
  rw [HQQ.out, show (123 : UInt8).toNat = 123 from rfl, HA123.out] at hi3
  have HI3 := hideB hi3
  clear hi3
  go_wp2_with fail
  refine HI3.out.mono ?_
  rintro e w4 ⟨rfl, h, b⟩
  have h9 : LfAt w4 rb base Z s (q + 1) false fs := h
  have HF4 := hideB h9
  have HB4 := hideB (HB3.out.trans b)
  clear h h9 b HI3
  have HZ4 : Hid (∀ x, Z x → x < w4.heap.size) := fun x hx => Nat.lt_of_lt_of_le (HZ.out x hx) HB4.out.size
  have HD := hideB (lfRow_any HHR.out HF4.out HZ4.out (by omega) hl (by omega))
  go_wp2_with fail
  refine HD.out.mono ?_
  intro e w9 h9
  obtain ⟨n9, rfl, b9, s9, hn9⟩ := h9.st
  have HO9 := hideB h9
  clear h9 b9 s9 hn9
  go_wp2_with fail
  go_ret
  exact LfOr.of HE.out (LfOr.after HB4.out (by omega) HO9.out)
set_option maxRecDepth 100000 in
set_option maxHeartbeats 6400000 in
theorem lfPrim_text {p q : Nat} {Z : Nat → Prop} {fs : List FN} {w : World} (h : LfAt w rb base Z s p false fs) (hZ : ∀ x, Z x → x < w.heap.size) (hs : s.size ≤ 1000) (hl : fs.length ≤ 40) (hf : s.size ≤ p + f) (hq : skF s.data.toList p = q) (a46 : isAt s.data.toList q 46 = false) (a40 : isAt s.data.toList q 40 = false) (a91 : isAt s.data.toList q 91 = false) (a123 : isAt s.data.toList q 123 = false) (a34 : isAt s.data.toList q 34 = true) :
    Calls Tryz.prog 78 #[.pointer (some ⟨rb, 0, none⟩)] w (LfOr (wholeF WSp R s.data.toList fs q) rb base Z s p w) := by
  have HLN := hideB (len_is s)
  have HF0 := hideB h
  have HB0 : Hid (LB rb base Z w w) := LB.refl _ _ _ _
  have HZ : Hid (∀ x, Z x → x < w.heap.size) := hZ
  have HHR := hideB HR
  have hpq : p ≤ q := by rw [← hq]; exact skF_ge _ _
  have HQQ : Hid (skF s.data.toList q = q) := by rw [Hid, ← hq]; exact skF_idem _ _
  have HPQ := hideB hq
  have HA46 := hideB a46
  have HA40 := hideB a40
  have HA91 := hideB a91
  have HA123 := hideB a123
  have HA34 := hideB a34
  have HE : Hid (wholeF WSp R s.data.toList fs q = match txS s.data.toList (q + 1) with
    | none => none
    | some (t, q) => addF WSp (nodeC ⟨4, 0, txt t, [], []⟩) fs (skF s.data.toList q)) := by rw [Hid]; unfold wholeF; rw [if_neg (by rw [a46]; decide), if_neg (by rw [a40]; decide), if_neg (by rw [a91]; decide), if_neg (by rw [a123]; decide), if_pos a34]; rfl
  clear a46 a40 a91 a123 a34
  clear h hZ HR hq
  go_enter Tryz.func78, Tryz.ntmps78
  have hi0 := lfIs1 46 HF0.out (by omega)
  rw [HPQ.out, show (46 : UInt8).toNat = 46 from rfl, HA46.out] at hi0
  have HI0 := hideB hi0
  clear hi0
  go_wp2_with fail
  refine HI0.out.mono ?_
  rintro e w1 ⟨rfl, h, b⟩
  have h9 : LfAt w1 rb base Z s q false fs := h
  have HF1 := hideB h9
  have HB1 := hideB (HB0.out.trans b)
  clear h h9 b HI0
  have hi1 := lfIs1 40 HF1.out (by omega)
  rw [HQQ.out, show (40 : UInt8).toNat = 40 from rfl, HA40.out] at hi1
  have HI1 := hideB hi1
  clear hi1
  go_wp2_with fail
  refine HI1.out.mono ?_
  rintro e w2 ⟨rfl, h, b⟩
  have h9 : LfAt w2 rb base Z s q false fs := h
  have HF2 := hideB h9
  have HB2 := hideB (HB1.out.trans b)
  clear h h9 b HI1
  have hi2 := lfIs1 91 HF2.out (by omega)
  rw [HQQ.out, show (91 : UInt8).toNat = 91 from rfl, HA91.out] at hi2
  have HI2 := hideB hi2
  clear hi2
  go_wp2_with fail
  refine HI2.out.mono ?_
  rintro e w3 ⟨rfl, h, b⟩
  have h9 : LfAt w3 rb base Z s q false fs := h
  have HF3 := hideB h9
  have HB3 := hideB (HB2.out.trans b)
  clear h h9 b HI2
  have hi3 := lfIs1 123 HF3.out (by omega)
  rw [HQQ.out, show (123 : UInt8).toNat = 123 from rfl, HA123.out] at hi3
  have HI3 := hideB hi3
  clear hi3
  go_wp2_with fail
  refine HI3.out.mono ?_
  rintro e w4 ⟨rfl, h, b⟩
  have h9 : LfAt w4 rb base Z s q false fs := h
  have HF4 := hideB h9
  have HB4 := hideB (HB3.out.trans b)
  clear h h9 b HI3
  have hi4 := lfIs1 34 HF4.out (by omega)
  rw [HQQ.out, show (34 : UInt8).toNat = 34 from rfl, HA34.out] at hi4
  have HI4 := hideB hi4
  clear hi4
  go_wp2_with fail
  refine HI4.out.mono ?_
  rintro e w5 ⟨rfl, h, b⟩
  have h9 : LfAt w5 rb base Z s (q + 1) false fs := h
  have HF5 := hideB h9
  have HB5 := hideB (HB4.out.trans b)
  clear h h9 b HI4
  have HZ5 : Hid (∀ x, Z x → x < w5.heap.size) := fun x hx => Nat.lt_of_lt_of_le (HZ.out x hx) HB5.out.size
  have f1 := HF5.out.free 1
  have f2 := HF5.out.free 2
  have lt5 := HF5.out.lt
  have le5 := HF5.out.le
  have e1 : ((q + 1 : Nat) : Int) = (q : Int) + 1 := by omega
  have hc5 := HF5.out.cells
  rw [e1] at hc5
  obtain ⟨c0, c1, c2⟩ := hc5
  obtain ⟨W6, hW6⟩ : ∃ W6, (w5.alloc (.cells #[.string s, .int .i64 ((q : Int) + 1), .bool false, .int .i64 0] 149)).drew = W6 := ⟨_, rfl⟩
  obtain ⟨jb, hjb⟩ : ∃ jb, w5.heap.size = jb := ⟨_, rfl⟩
  have hb6 : Below w5.heap.size w5 W6 := by rw [← hW6]; exact ((Below.refl _ _).alloc (Nat.le_refl _) _).drew
  have HJ6 : Hid (SjAt W6 jb s (q + 1) false 0) := by
    rw [Hid, ← hW6, ← hjb]
    refine ⟨?_, le5, by omega⟩
    rw [e1]
    exact heap_alloc_new w5 _
  have HBL6 := hideIt hb6
  have HJB := hideIt hjb
  have HQU := hideIt (sjQuoted_ge HJ6.out (by omega))
  have HW6 := hideIt hW6
  have HTX : Hid (TxNo s.data.toList (q + 1) → wholeF WSp R s.data.toList fs q = none) := fun hno => by
    rw [HE.out]
    have : txS s.data.toList (q + 1) = none := by
      unfold txS
      cases e : txJ s.data.toList (q + 1) with
      | none => rfl
      | some x =>
        obtain ⟨l, z⟩ := x
        have := hno l z e
        simp only
        rw [if_neg (by omega)]
    rw [this]
  clear hb6 hW6
  go_wp2_with fail
  go_region
  rw [HW6.out]
  (try rw [HJB.out])
  clear c0 c1 c2
  go_wp2_with fail
  refine HQU.out.mono ?_
  rintro e w7 ⟨b7, t, z, bb, rfl, ht60, hqz, hj7, hor⟩
  have hb57 : Below w5.heap.size w5 w7 := by
    refine ⟨b7.os.trans HBL6.out.os, b7.tape.trans HBL6.out.tape, b7.output.trans HBL6.out.output, Nat.le_trans HBL6.out.size b7.size, fun c hc => ?_⟩
    exact (b7.block c (Nat.lt_of_lt_of_le hc HBL6.out.size) (by have := HJB.out; omega)).trans (HBL6.out.block c hc)
  have HF7 := hideIt (HF5.out.below hb57)
  have HB7 := hideIt (HB5.out.trans (LB.of_below hb57))
  have HZ7 : Hid (∀ x, Z x → x < w7.heap.size) := fun x hx => Nat.lt_of_lt_of_le (HZ5.out x hx) hb57.size
  have hzs := hj7.le
  obtain ⟨j0, j1, j2, j3⟩ := hj7.cells
  obtain ⟨c0, c1, c2⟩ := HF7.out.cells
  have g1 := HF7.out.free 1
  have g2 := HF7.out.free 2
  have hjr : jb ≠ rb := by have := HJB.out; omega
  have HBX : Hid (Below w5.heap.size w5 w7) := hb57
  have n1 : w7.cell? ⟨jb, 1, none⟩ = some (.int .i64 (z : Int)) := j1
  cases hbb : bb
  · subst hbb
    have HY : Hid (wholeF WSp R s.data.toList fs q = addF WSp (nodeC ⟨4, 0, t, [], []⟩) fs (skF s.data.toList z)) := by
      rcases hor with ⟨l, h1, h2, h3, _⟩ | ⟨h1, _⟩
      · rw [Hid, HE.out]
        have : txS s.data.toList (q + 1) = some (l, z) := by unfold txS; rw [h1]; simp only; rw [if_pos h2]
        rw [this, h3]
      · cases h1
    obtain ⟨W8, hW8⟩ : ∃ W8, (w7.setCell ⟨rb, 2, none⟩ (.bool false)).setCell ⟨rb, 1, none⟩ (.int .i64 (z : Int)) = W8 := ⟨_, rfl⟩
    have HF8 : Hid (LfAt W8 rb base Z s z false fs) := by rw [Hid, ← hW8]; exact (HF7.out.setB false).setP hzs
    have HB8 : Hid (LB rb base Z w W8) := by rw [Hid, ← hW8]; exact (HB7.out.trans (LB.of_set _ _)).trans (LB.of_set _ _)
    have HZ8 : Hid (∀ x, Z x → x < W8.heap.size) := fun x hx => by rw [← hW8]; simpa using HZ7.out x hx
    have HW8 := hideIt hW8
    clear hor hj7 b7 hb57 hW8 HQU
    go_wp2_with fail
    rw [HW8.out]
    refine (sWord_any t W8).mono ?_
    rintro e w8 ⟨rfl, hn, b8⟩
    have HC := hideB (leaf_const HF8.out HZ8.out (by omega) b8 hn)
    clear hn b8
    go_wp2_with fail
    refine HC.out.mono ?_
    rintro e w9 ⟨rfl, h9, b9⟩
    have HF9 := hideB h9
    have HB9 := hideB (HB8.out.trans b9)
    clear h9 b9
    go_wp2_with fail
    go_ret
    exact LfOr.of HY.out (LfOr.add HF9.out hl (by omega) HB9.out)
  · subst hbb
    have HY : Hid (wholeF WSp R s.data.toList fs q = none) := by
      rcases hor with ⟨_, _, _, _, h1⟩ | ⟨_, h1⟩
      · cases h1
      · exact HTX.out h1
    obtain ⟨W8, hW8⟩ : ∃ W8, (w7.setCell ⟨rb, 2, none⟩ (.bool true)).setCell ⟨rb, 1, none⟩ (.int .i64 (z : Int)) = W8 := ⟨_, rfl⟩
    have HF8 : Hid (LfAt W8 rb base Z s z true fs) := by rw [Hid, ← hW8]; exact (HF7.out.setB true).setP hzs
    have HB8 : Hid (LB rb base Z w W8) := by rw [Hid, ← hW8]; exact (HB7.out.trans (LB.of_set _ _)).trans (LB.of_set _ _)
    have HZ8 : Hid (∀ x, Z x → x < W8.heap.size) := fun x hx => by rw [← hW8]; simpa using HZ7.out x hx
    have HW8 := hideIt hW8
    clear hor hj7 b7 hb57 hW8 HQU
    go_wp2_with fail
    rw [HW8.out]
    refine (sWord_any t W8).mono ?_
    rintro e w8 ⟨rfl, hn, b8⟩
    have HC := hideB (leaf_const HF8.out HZ8.out (by omega) b8 hn)
    clear hn b8
    go_wp2_with fail
    refine HC.out.mono ?_
    rintro e w9 ⟨rfl, h9, b9⟩
    have HF9 := hideB h9
    have HB9 := hideB (HB8.out.trans b9)
    clear h9 b9
    go_wp2_with fail
    go_ret
    exact LfOr.addB HY.out HF9.out (by omega) (by omega) HB9.out
set_option maxRecDepth 100000 in
set_option maxHeartbeats 6400000 in
theorem lfPrim_word {p q : Nat} {Z : Nat → Prop} {fs : List FN} {w : World} (h : LfAt w rb base Z s p false fs) (hZ : ∀ x, Z x → x < w.heap.size) (hs : s.size ≤ 1000) (hl : fs.length ≤ 40) (hf : s.size ≤ p + f) (hq : skF s.data.toList p = q) (a46 : isAt s.data.toList q 46 = false) (a40 : isAt s.data.toList q 40 = false) (a91 : isAt s.data.toList q 91 = false) (a123 : isAt s.data.toList q 123 = false) (a34 : isAt s.data.toList q 34 = false) :
    Calls Tryz.prog 78 #[.pointer (some ⟨rb, 0, none⟩)] w (LfOr (wholeF WSp R s.data.toList fs q) rb base Z s p w) := by
  have HLN := hideB (len_is s)
  have HF0 := hideB h
  have HB0 : Hid (LB rb base Z w w) := LB.refl _ _ _ _
  have HZ : Hid (∀ x, Z x → x < w.heap.size) := hZ
  have HHR := hideB HR
  have hpq : p ≤ q := by rw [← hq]; exact skF_ge _ _
  have HQQ : Hid (skF s.data.toList q = q) := by rw [Hid, ← hq]; exact skF_idem _ _
  have HPQ := hideB hq
  have HA46 := hideB a46
  have HA40 := hideB a40
  have HA91 := hideB a91
  have HA123 := hideB a123
  have HA34 := hideB a34
  have HW : Hid (wholeF WSp R s.data.toList fs q = if letAt s.data.toList q = true then namedF WSp R s.data.toList (nameF s.data.toList q) fs (skF s.data.toList (nmJ s.data.toList q)) else if isAt s.data.toList q 45 = true ∨ digAt s.data.toList q = true then decF WSp s.data.toList q fun n q => addF WSp (nodeC ⟨3, n, ByteArray.empty, [], []⟩) fs q else none) := by rw [Hid]; unfold wholeF; rw [if_neg (by rw [a46]; decide), if_neg (by rw [a40]; decide), if_neg (by rw [a91]; decide), if_neg (by rw [a123]; decide), if_neg (by rw [a34]; decide)]
  clear a46 a40 a91 a123 a34
  clear h hZ HR hq
  go_enter Tryz.func78, Tryz.ntmps78
  have hi0 := lfIs1 46 HF0.out (by omega)
  rw [HPQ.out, show (46 : UInt8).toNat = 46 from rfl, HA46.out] at hi0
  have HI0 := hideB hi0
  clear hi0
  go_wp2_with fail
  refine HI0.out.mono ?_
  rintro e w1 ⟨rfl, h, b⟩
  have h9 : LfAt w1 rb base Z s q false fs := h
  have HF1 := hideB h9
  have HB1 := hideB (HB0.out.trans b)
  clear h h9 b HI0
  have hi1 := lfIs1 40 HF1.out (by omega)
  rw [HQQ.out, show (40 : UInt8).toNat = 40 from rfl, HA40.out] at hi1
  have HI1 := hideB hi1
  clear hi1
  go_wp2_with fail
  refine HI1.out.mono ?_
  rintro e w2 ⟨rfl, h, b⟩
  have h9 : LfAt w2 rb base Z s q false fs := h
  have HF2 := hideB h9
  have HB2 := hideB (HB1.out.trans b)
  clear h h9 b HI1
  have hi2 := lfIs1 91 HF2.out (by omega)
  rw [HQQ.out, show (91 : UInt8).toNat = 91 from rfl, HA91.out] at hi2
  have HI2 := hideB hi2
  clear hi2
  go_wp2_with fail
  refine HI2.out.mono ?_
  rintro e w3 ⟨rfl, h, b⟩
  have h9 : LfAt w3 rb base Z s q false fs := h
  have HF3 := hideB h9
  have HB3 := hideB (HB2.out.trans b)
  clear h h9 b HI2
  have hi3 := lfIs1 123 HF3.out (by omega)
  rw [HQQ.out, show (123 : UInt8).toNat = 123 from rfl, HA123.out] at hi3
  have HI3 := hideB hi3
  clear hi3
  go_wp2_with fail
  refine HI3.out.mono ?_
  rintro e w4 ⟨rfl, h, b⟩
  have h9 : LfAt w4 rb base Z s q false fs := h
  have HF4 := hideB h9
  have HB4 := hideB (HB3.out.trans b)
  clear h h9 b HI3
  have hi4 := lfIs1 34 HF4.out (by omega)
  rw [HQQ.out, show (34 : UInt8).toNat = 34 from rfl, HA34.out] at hi4
  have HI4 := hideB hi4
  clear hi4
  go_wp2_with fail
  refine HI4.out.mono ?_
  rintro e w5 ⟨rfl, h, b⟩
  have h9 : LfAt w5 rb base Z s q false fs := h
  have HF5 := hideB h9
  have HB5 := hideB (HB4.out.trans b)
  clear h h9 b HI4
  have HZ5 : Hid (∀ x, Z x → x < w5.heap.size) := fun x hx => Nat.lt_of_lt_of_le (HZ.out x hx) HB5.out.size
  have HWD := hideB (lfWord_any HF5.out (by omega))
  rw [if_neg (by decide), if_neg (by decide), HQQ.out] at HWD
  obtain ⟨T, hT⟩ : ∃ T, txt ((s.data.toList.drop q).take (wdJ s.data.toList q - q)) = T := ⟨_, rfl⟩
  obtain ⟨M, hM⟩ : ∃ M, wdJ s.data.toList q = M := ⟨_, rfl⟩
  rw [hT, hM] at HWD
  have HT := hideB hT
  have HM := hideB hM
  clear hT hM
  cases hle : letAt s.data.toList q
  · have HMQ : Hid (M = q) := by rw [Hid, ← HM.out]; unfold wdJ; rw [if_neg (by rw [hle]; decide)]
    have HTE : Hid (T = ByteArray.empty) := by rw [Hid, ← HT.out, HM.out, HMQ.out, Nat.sub_self]; rfl
    have HTL0 : Hid (T.toList = []) := by rw [Hid, ByteArray.toList_eq, HTE.out]; rfl
    have q1 : (T.toList == []) = true := by rw [HTL0.out]; rfl
    have q2 : (T.toList != []) = false := by rw [HTL0.out]; rfl
    have HWN : Hid (wholeF WSp R s.data.toList fs q = if isAt s.data.toList q 45 = true ∨ digAt s.data.toList q = true then decF WSp s.data.toList q fun n q => addF WSp (nodeC ⟨3, n, ByteArray.empty, [], []⟩) fs q else none) := by rw [Hid, HW.out, if_neg (by rw [hle]; decide)]
    have HNN : Hid (¬ (isAt s.data.toList q 45 = true ∨ digAt s.data.toList q = true) → intT (numW s.data.toList q) = none) := fun h => by
      refine num_none ?_ ?_
      · rw [← Bool.not_eq_true]; exact fun e => h (.inl e)
      · rw [← Bool.not_eq_true]; exact fun e => h (.inr e)
    clear hle
    go_wp2_with fail
    refine HWD.out.mono ?_
    rintro e w6 ⟨b, rfl, h6⟩
    have h7 : LfAt w6 rb base Z s q false fs := by rw [← HMQ.out]; exact h6
    have HB6 := hideB (HB5.out.trans b)
    have HZ6 : Hid (∀ x, Z x → x < w6.heap.size) := fun x hx => Nat.lt_of_lt_of_le (HZ5.out x hx) b.size
    have HN := hideB (lfNum_any h7 (by omega))
    rw [HQQ.out] at HN
    clear b h6 h7
    go_wp2_with fail
    refine HN.out.mono ?_
    rintro e w7 ⟨b, n, rfl, ⟨hd, h7⟩ | ⟨hd, rfl, h7⟩⟩
    · obtain ⟨D, hD⟩ : ∃ D, dgJ s.data.toList (numAt s.data.toList q) = D := ⟨_, rfl⟩
      have hqD : q ≤ D := by rw [← hD]; exact Nat.le_trans (numAt_ge _ _) (runJ_ge _ _ _)
      rw [hD] at h7
      have HE : Hid (wholeF WSp R s.data.toList fs q = addF WSp (nodeC ⟨3, n, ByteArray.empty, [], []⟩) fs (skF s.data.toList D)) := by
        rw [Hid, HWN.out]
        by_cases e : isAt s.data.toList q 45 = true ∨ digAt s.data.toList q = true
        · rw [if_pos e]; unfold decF; rw [show WSp.dec = intT from rfl, hd, hD]
        · rw [HNN.out e] at hd; cases hd
      have HF7 := hideB h7
      have HB7 := hideB (HB6.out.trans b)
      have HZ7 : Hid (∀ x, Z x → x < w7.heap.size) := fun x hx => Nat.lt_of_lt_of_le (HZ6.out x hx) b.size
      clear b h7 hd hD
      go_wp2_with fail
      refine (sNumber_any n w7).mono ?_
      rintro e w8 ⟨rfl, hn, b8⟩
      have HC := hideB (leaf_const HF7.out HZ7.out (by omega) b8 hn)
      clear hn b8
      go_wp2_with fail
      refine HC.out.mono ?_
      rintro e w9 ⟨rfl, h9, b9⟩
      have HF9 := hideB h9
      have HB9 := hideB (HB7.out.trans b9)
      clear h9 b9
      go_wp2_with fail
      go_ret
      exact LfOr.of HE.out (LfOr.add HF9.out hl (by omega) HB9.out)
    · have HE : Hid (wholeF WSp R s.data.toList fs q = none) := by
        rw [Hid, HWN.out]
        by_cases e : isAt s.data.toList q 45 = true ∨ digAt s.data.toList q = true
        · rw [if_pos e]; unfold decF; rw [show WSp.dec = intT from rfl, hd]
        · rw [if_neg e]
      have HF7 := hideB h7
      have HB7 := hideB (HB6.out.trans b)
      have HZ7 : Hid (∀ x, Z x → x < w7.heap.size) := fun x hx => Nat.lt_of_lt_of_le (HZ6.out x hx) b.size
      clear b h7 hd
      go_wp2_with fail
      refine (sNumber_any 0 w7).mono ?_
      rintro e w8 ⟨rfl, hn, b8⟩
      have HC := hideB (leaf_const HF7.out HZ7.out (by omega) b8 hn)
      clear hn b8
      go_wp2_with fail
      refine HC.out.mono ?_
      rintro e w9 ⟨rfl, h9, b9⟩
      have HF9 := hideB h9
      have HB9 := hideB (HB7.out.trans b9)
      clear h9 b9
      go_wp2_with fail
      go_ret
      exact LfOr.addB HE.out HF9.out (by omega) (by omega) HB9.out
  · have HMQ : Hid (M = nmJ s.data.toList q) := by rw [Hid, ← HM.out]; unfold wdJ; rw [if_pos hle]
    have hqM : q < M := by rw [HMQ.out]; exact (nmJ_lt hle).1
    have HTL : Hid (T.data.toList = nameF s.data.toList q) := by rw [Hid, ← HT.out, bytes_txt, HM.out, HMQ.out]; rfl
    have HTN : Hid (T.toList ≠ []) := by
      rw [Hid, ByteArray.toList_eq, HTL.out]
      unfold nameF
      intro e
      have := congrArg List.length e
      rw [List.length_take, List.length_drop, ← HMQ.out] at this
      have h2 := (nmJ_lt hle).2
      have h0 : min (M - q) (s.data.toList.length - q) = 0 := this
      omega
    have q1 : (T.toList == []) = false := beq_false_of_ne HTN.out
    have q2 : (T.toList != []) = true := by rw [bne, q1]; rfl
    have HE : Hid (wholeF WSp R s.data.toList fs q = namedF WSp R s.data.toList T.data.toList fs (skF s.data.toList M)) := by rw [Hid, HW.out, if_pos hle, HTL.out, HMQ.out]
    clear hle
    go_wp2_with fail
    refine HWD.out.mono ?_
    rintro e w6 ⟨b, rfl, h6⟩
    have HF6 := hideB h6
    have HB6 := hideB (HB5.out.trans b)
    have HZ6 : Hid (∀ x, Z x → x < w6.heap.size) := fun x hx => Nat.lt_of_lt_of_le (HZ5.out x hx) b.size
    have HN := hideB (lfNamed_any HHR.out (T := T) HF6.out HZ6.out hs hl (by omega) (by omega))
    clear b h6
    go_wp2_with fail
    refine HN.out.mono ?_
    intro e w9 h9
    obtain ⟨n9, rfl, b9, s9, hn9⟩ := h9.st
    have HO9 := hideB h9
    clear h9 b9 s9 hn9
    go_wp2_with fail
    go_ret
    exact LfOr.of HE.out (LfOr.after HB6.out (by omega) HO9.out)
theorem lfPrimary_any {p : Nat} {Z : Nat → Prop} {fs : List FN} {w : World} (h : LfAt w rb base Z s p false fs) (hZ : ∀ x, Z x → x < w.heap.size) (hs : s.size ≤ 1000) (hl : fs.length ≤ 40) (hf : s.size ≤ p + f) :
    Calls Tryz.prog 78 #[.pointer (some ⟨rb, 0, none⟩)] w (LfOr (wholeF WSp R s.data.toList fs (skF s.data.toList p)) rb base Z s p w) := by
  cases a46 : isAt s.data.toList (skF s.data.toList p) 46
  rotate_left
  · exact lfPrim_dot HR h hZ hs hl hf rfl a46
  cases a40 : isAt s.data.toList (skF s.data.toList p) 40
  rotate_left
  · exact lfPrim_around HR h hZ hs hl hf rfl a46 a40
  cases a91 : isAt s.data.toList (skF s.data.toList p) 91
  rotate_left
  · exact lfPrim_list HR h hZ hs hl hf rfl a46 a40 a91
  cases a123 : isAt s.data.toList (skF s.data.toList p) 123
  rotate_left
  · exact lfPrim_map HR h hZ hs hl hf rfl a46 a40 a91 a123
  cases a34 : isAt s.data.toList (skF s.data.toList p) 34
  rotate_left
  · exact lfPrim_text HR h hZ hs hl hf rfl a46 a40 a91 a123 a34
  exact lfPrim_word HR h hZ hs hl hf rfl a46 a40 a91 a123 a34
end
end Go.Proofs.YtehihemfepbmfaaGreatDoor
