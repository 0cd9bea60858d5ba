/-
  The program's YAML: the closure that reads the lines of one list or map.
-/
import Derived.Test.YtiamkmkbkehldaaGreatDoorYrD
import Derived.Test.YtiamkmkbkehldaaGreatDoorPhase
namespace Go.Proofs.YtiamkmkbkehldaaGreatDoor
open Go.RowKit
set_option linter.unusedSimpArgs false
set_option linter.unusedVariables false

/-- A closure of one argument, as a step of a statement whose order is open. -/
theorem step_callC {P : Program} {w : World} {ops : Array Oper} {o : Oper} {a : Act} {K : Act → World → Prop} {Q : Exit → Act → World → Prop} {E : Prop} (hgd : o.guard = none) (F : FuncId) (fx x : Operand) (T : TypeId) (c1 c2 c3 : Value)
    (ho : o.op = .call { callee := .value fx, args := #[x], argTypes := #[T] }) (v : Value) (hf : a.eval fx = .func (.func F) #[] #[c1, c2, c3]) (hx : a.eval x = v) (hcf : ∀ w, (callFunc F #[v, c1, c2, c3]).run P w = .ok (.enter F #[v, c1, c2, c3]) w) {R : Ending → World → Prop} (hc : Calls P F #[v, c1, c2, c3] w R)
    (h : ∀ e w', R e w' → ∃ u, e = .returned u ∧ K (a.put o.dst u) w') :
    if Region.wanted o (yielded ops a.tmps) = true then Oper.wp P o a w K Q else E := by
  have hw : Region.wanted o (yielded ops a.tmps) = true := by simp [Region.wanted, hgd]
  rw [if_pos hw]
  unfold Oper.wp execOp
  simp [ho, resolve, invoke, hx, hf, Deferred.ofValue, hcf, Result.andThen, Oper.upon_enter]
  refine hc.mono fun e w' hr => ?_
  obtain ⟨u, rfl, hk⟩ := h e w' hr
  exact hk
/-- A call of three arguments. -/
theorem step_call3y {P : Program} {w : World} {ops : Array Oper} {o : Oper} {a : Act} {K : Act → World → Prop} {Q : Exit → Act → World → Prop} {E : Prop} (hgd : o.guard = none) (F : FuncId) (x1 x2 x3 : Operand) (T1 T2 T3 : TypeId)
    (ho : o.op = .call { callee := .value (.func F), args := #[x1, x2, x3], argTypes := #[T1, T2, T3] }) (v1 v2 v3 : Value) (h1 : a.eval x1 = v1) (h2 : a.eval x2 = v2) (h3 : a.eval x3 = v3) (hcf : ∀ w, (callFunc F #[v1, v2, v3]).run P w = .ok (.enter F #[v1, v2, v3]) w) {R : Ending → World → Prop} (hc : Calls P F #[v1, v2, v3] w R)
    (h : ∀ e w', R e w' → ∃ u, e = .returned u ∧ K (a.put o.dst u) w') :
    if Region.wanted o (yielded ops a.tmps) = true then Oper.wp P o a w K Q else E := by
  have hw : Region.wanted o (yielded ops a.tmps) = true := by simp [Region.wanted, hgd]
  rw [if_pos hw]
  unfold Oper.wp execOp
  have e1 : a.eval (.func F) = .func (.func F) #[] #[] := rfl
  simp [ho, resolve, invoke, h1, h2, h3, e1, Deferred.ofValue, hcf, Result.andThen, Oper.upon_enter]
  refine hc.mono fun e w' hr => ?_
  obtain ⟨u, rfl, hk⟩ := h e w' hr
  exact hk
/-- What the closure holds: the place, the lines, itself. -/
structure YBox (w : World) (ab lb fb rb : Nat) (a : Option Addr) (cap : Nat) (ls : List YL) (p : Nat) : Prop where
  pl : w.heap[ab]? = some (.cells #[.int .i64 (p : Int)] 3 (0, 0))
  li : w.heap[lb]? = some (.cells #[.slice a ls.length cap] 66 (0, 0))
  fu : w.heap[fb]? = some (.cells #[.func (.func 86) #[] #[.pointer (some ⟨ab, 0, none⟩), .pointer (some ⟨lb, 0, none⟩), .pointer (some ⟨fb, 0, none⟩)]] 130 (0, 0))
  row : 0 < ls.length → a = some ⟨rb, 0, none⟩ ∧ rb ≠ ab ∧ rb < w.heap.size ∧ ∀ j u, (ylCells ls)[j]? = some u → w.cell? ⟨rb, j, none⟩ = some u
  ne1 : lb ≠ ab
  ne2 : fb ≠ ab
theorem YBox.keep {w w' : World} {ab lb fb rb : Nat} {a : Option Addr} {cap : Nat} {ls : List YL} {p p' : Nat} (h : YBox w ab lb fb rb a cap ls p) (hb : But ab w w') (hp : w'.heap[ab]? = some (.cells #[.int .i64 (p' : Int)] 3 (0, 0))) : YBox w' ab lb fb rb a cap ls p' :=
  ⟨hp, (hb.block lb (lt_heap h.li) h.ne1).trans h.li, (hb.block fb (lt_heap h.fu) h.ne2).trans h.fu, fun hl => by
    obtain ⟨h1, h2, h3, h4⟩ := h.row hl
    exact ⟨h1, h2, Nat.lt_of_lt_of_le h3 hb.size, fun j u hj => (cellOf (hb.block rb h3 h2)).trans (h4 j u hj)⟩, h.ne1, h.ne2⟩
theorem cells_at : ∀ {ls : List YL} {q : Nat} (h : q < ls.length), (ylCells ls)[q * 4]? = some (.int .i64 (ls[q].ahead : Int)) ∧ (ylCells ls)[q * 4 + 1]? = some (.int .i64 ls[q].kind) ∧ (ylCells ls)[q * 4 + 2]? = some (.string (txt ls[q].key)) ∧ (ylCells ls)[q * 4 + 3]? = some (.string (txt ls[q].rest)) := by
  intro ls
  induction ls with
  | nil => intro q h; exact absurd h (by simp)
  | cons x r ih =>
    intro q h
    cases q with
    | zero => exact ⟨rfl, rfl, rfl, rfl⟩
    | succ q =>
      have := ih (q := q) (by simpa using h)
      have e : ∀ i, (ylCells (x :: r))[(q + 1) * 4 + i]? = (ylCells r)[q * 4 + i]? := fun i => by
        rw [ylCells, List.getElem?_append_right (by simp; omega)]
        congr 1
        simp; omega
      refine ⟨?_, ?_, ?_, ?_⟩
      · have := e 0; simp only [Nat.add_zero] at this; rw [this]; exact (ih (q := q) (by simpa using h)).1
      · rw [e 1]; exact this.2.1
      · rw [e 2]; exact this.2.2.1
      · rw [e 3]; exact this.2.2.2
theorem call_ry (a b c d : Value) (w : World) : (callFunc 86 #[a, b, c, d]).run Tryz.prog w = .ok (.enter 86 #[a, b, c, d]) w := by kernel_rfl
theorem call_addY (a b c : Value) (w : World) : (callFunc 87 #[a, b, c]).run Tryz.prog w = .ok (.enter 87 #[a, b, c]) w := by kernel_rfl
theorem call_short (a : Value) (w : World) : (callFunc 85 #[a]).run Tryz.prog w = .ok (.enter 85 #[a]) w := by kernel_rfl
theorem call_behind (a : Value) (w : World) : (callFunc 88 #[a]).run Tryz.prog w = .ok (.enter 88 #[a]) w := by kernel_rfl
theorem YBox.fr {w w' : World} {ab lb fb rb B wb : Nat} {a : Option Addr} {cap : Nat} {ls : List YL} {p : Nat} (h : YBox w ab lb fb rb a cap ls p) (hf : Fr B wb w w') (h1 : ab < B ∧ ab ≠ wb) (h2 : lb < B ∧ lb ≠ wb) (h3 : fb < B ∧ fb ≠ wb) (h4 : 0 < ls.length → rb < B ∧ rb ≠ wb) : YBox w' ab lb fb rb a cap ls p :=
  ⟨(hf.block ab h1.1 h1.2).trans h.pl, (hf.block lb h2.1 h2.2).trans h.li, (hf.block fb h3.1 h3.2).trans h.fu, fun hl => by
    obtain ⟨k1, k2, k3, k4⟩ := h.row hl
    exact ⟨k1, k2, Nat.lt_of_lt_of_le k3 hf.size, fun j u hj => (cellOf (hf.block rb (h4 hl).1 (h4 hl).2)).trans (k4 j u hj)⟩, h.ne1, h.ne2⟩
theorem But.fr {rb B wb : Nat} {a b c : World} (h : But rb a b) (hf : Fr B wb b c) (hB : a.heap.size ≤ B) (hw : a.heap.size ≤ wb) : But rb a c :=
  ⟨hf.os.trans h.os, hf.tape.trans h.tape, hf.output.trans h.output, Nat.le_trans h.size hf.size, fun x h1 h2 => (hf.block x (by omega) (by omega)).trans (h.block x h1 h2)⟩
theorem rows_part {ahead q : Nat} {ls : List YL} (h : q < ls.length) (ha : ls[q].ahead = ahead) {acc l : List (Int × List UInt8 × VT)} {z : List YL} (hr : aheadR acc (rowsM ahead (ls.drop q)) = some (l, z)) : ∃ t z1 k, partM ahead ls[q] (ls.drop (q + 1)) = some (t, z1) ∧ k + q + 1 ≤ ls.length ∧ z1 = ls.drop (q + 1 + k) := by
  cases e : partM ahead ls[q] (ls.drop (q + 1)) with
  | none =>
    rw [lines_at h, rowsM_on ha, e] at hr
    cases hr
  | some y =>
    obtain ⟨t, z1⟩ := y
    obtain ⟨k, hk, rfl⟩ := partM_suffix e
    rw [List.length_drop] at hk
    exact ⟨t, _, k, rfl, by omega, by rw [List.drop_drop]⟩
theorem aheadR_mem {acc l : List (Int × List UInt8 × VT)} {o : Option (List (Int × List UInt8 × VT) × List YL)} {z : List YL} (h : aheadR acc o = some (l, z)) : ∀ y ∈ acc, y ∈ l := by
  cases o with
  | none => cases h
  | some x =>
    obtain ⟨l2, z2⟩ := x
    simp only [aheadR, Option.some.injEq, Prod.mk.injEq] at h
    obtain ⟨rfl, rfl⟩ := h
    intro y hy
    exact List.mem_append_left _ hy
def placeOf0 (w : World) (ab : Nat) : Nat := match w.cell? ⟨ab, 0, none⟩ with
  | some v => (intOf v).toNat
  | none => 0
theorem YBox.place {w : World} {ab lb fb rb : Nat} {a : Option Addr} {cap : Nat} {ls : List YL} {p : Nat} (h : YBox w ab lb fb rb a cap ls p) : placeOf0 w ab = p := by
  unfold placeOf0
  rw [show w.cell? ⟨ab, 0, none⟩ = some (.int .i64 (p : Int)) from cellAt h.pl rfl]
  simp [intOf]
/-- The closure reads what the lines say. -/
def RyAll (B ab lb fb rb : Nat) (a : Option Addr) (cap : Nat) (ls : List YL) (m : Nat) : Prop := ∀ (ahead p : Nat) (t : VT) (z : List YL) (w : World), YBox w ab lb fb rb a cap ls p → p ≤ ls.length → ls.length ≤ p + m → ahead + 2 * m ≤ 20000 → TabB B w → blockM ahead (ls.drop p) = some (t, z) →
  Calls Tryz.prog 86 #[.int .i64 (ahead : Int), .pointer (some ⟨ab, 0, none⟩), .pointer (some ⟨lb, 0, none⟩), .pointer (some ⟨fb, 0, none⟩)] w fun e w' => ∃ ty x, e = .returned (.iface ty x) ∧ TreeP (NewB w w') w' (m + 1) t (.iface ty x) ∧ YBox w' ab lb fb rb a cap ls (ls.length - z.length) ∧ But ab w w'

set_option maxRecDepth 100000 in
set_option maxHeartbeats 25600000 in
theorem ry_any {B ab lb fb rb : Nat} {a : Option Addr} {cap : Nat} {ls : List YL} (hsm : SmallY 4000 ls) (hBa : B ≤ ab) : ∀ m, RyAll B ab lb fb rb a cap ls m := by
  intro m
  induction m with
  | zero =>
    intro ahead p t z w _ h1 h2 _ _ h
    rw [List.drop_eq_nil_of_le (by omega)] at h
    cases h
  | succ m ih =>
    intro ahead p t z w hbx hp1 hp2 hah htab h
    have IH := hideIt ih
    have HSM := hideIt hsm
    have HTAB := hideIt htab
    -- the rows that are read
    obtain ⟨l, HRM, HWV⟩ : ∃ l, Hid (rowsM ahead (ls.drop p) = some (l, z)) ∧ Hid (wholeV l = some t) := by
      unfold blockM at h
      cases e : rowsM ahead (ls.drop p) with
      | none => simp [e] at h
      | some y =>
        obtain ⟨l, z2⟩ := y
        simp only [e] at h
        cases e2 : wholeV l with
        | none => simp [e2] at h
        | some t2 =>
          simp only [e2, Option.some.injEq, Prod.mk.injEq] at h
          obtain ⟨rfl, rfl⟩ := h
          exact ⟨l, rfl, e2⟩
    obtain ⟨hne, kk, hkk, hkt⟩ := whole_kind HWV.out
    have HKK := hideIt hkk
    have HKT := hideIt hkt
    have HBX := hideIt hbx
    have hab := lt_heap hbx.pl
    have hlb := lt_heap hbx.li
    have hfb := lt_heap hbx.fu
    have hN := hsm.1
    obtain ⟨N, hNN⟩ : ∃ N, ls.length = N := ⟨_, rfl⟩
    have HNN := hideIt hNN
    rw [hNN] at hp1 hp2 hN
    clear ih hsm htab h hkk hkt hbx hNN hne
    obtain ⟨W1, hW1⟩ : ∃ W1, w.alloc (.cells #[.int .i64 0, .slice none 0 0, .slice none 0 0] 132) = W1 := ⟨_, rfl⟩
    have hz1 : W1.heap.size = w.heap.size + 1 := by rw [← hW1]; simp
    have HB1 : Hid (Below w.heap.size w W1) := by rw [Hid, ← hW1]; exact (Below.refl _ _).alloc (Nat.le_refl _) _
    have HWH1 : Hid (Wh W1 W1 (m + 1) w.heap.size 0 (.slice none 0 0) (.slice none 0 0) [] [] []) := ⟨by rw [← hW1]; exact heap_alloc_new w _, Its.nil W1 (m + 1), by omega⟩
    have HBX1 : Hid (YBox W1 ab lb fb rb a cap ls p) := HBX.out.keep (But.of_below HB1.out) ((HB1.out.block ab hab).trans HBX.out.pl)
    have HBT1 : Hid (But ab w W1) := But.of_below HB1.out
    have HZ1 := hideIt hz1
    have hz1' : w.heap.size < W1.heap.size := by omega
    have HW1 := hideIt hW1
    clear hz1
    have HVALS : Hid (∀ wr q acc kd kv it xs, (l = acc ∧ z = ls.drop q) → (acc ≠ [] → kd = kk) → Wh W1 wr (m + 1) w.heap.size kd kv it (acc.map (fun y => y.2.2)) xs (acc.map (fun y => txt y.2.1)) → (∀ y ∈ acc, y.2.1.length ≤ 4000) → YBox wr ab lb fb rb a cap ls q → But ab w wr → W1.heap.size ≤ wr.heap.size → q ≤ N →
        Calls Tryz.prog 89 #[.pointer (some ⟨w.heap.size, 0, none⟩)] wr fun e w' => ∃ ty x, e = .returned (.iface ty x) ∧ TreeP (NewB w w') w' (m + 1 + 1) t (.iface ty x) ∧ YBox w' ab lb fb rb a cap ls (ls.length - z.length) ∧ But ab w w') := by
      rintro wr q acc kd kv it xs ⟨rfl, rfl⟩ hkd hwh hkz hyb hbt hz hqN
      obtain ⟨hne, _⟩ := whole_kind HWV.out
      have hkd := hkd hne
      have hlen : l.length ≤ 4000 := by
        have h1 := (rowsY_len HRM.out).2
        rw [List.length_drop, HNN.out] at h1
        omega
      have hq2 : ls.length - (ls.drop q).length = q := by rw [List.length_drop, HNN.out]; omega
      rw [hq2]
      have hfin : ∀ w', Below wr.heap.size wr w' → YBox w' ab lb fb rb a cap ls q ∧ But ab w w' := fun w' hb => ⟨hyb.keep (But.of_below hb) ((hb.block ab (lt_heap hyb.pl)).trans hyb.pl), hbt.trans (But.of_below hb)⟩
      have hmono : ∀ {w' : World} {f : Nat} {t : VT} {v : Value}, TreeP (NewB W1 w') w' f t v → TreeP (NewB w w') w' f t v := fun h => h.keep (fun _ _ => rfl) (fun b hb => ⟨by have := hb.1; omega, hb.2⟩)
      rcases HKT.out with ⟨rfl, rfl⟩ | ⟨rfl, rfl⟩
      · subst hkd
        refine (value_list hwh (by rw [List.length_map]; omega)).mono ?_
        rintro e w' ⟨ty, x, rfl, ht, hb⟩
        exact ⟨ty, x, rfl, hmono ht, hfin w' hb⟩
      · subst hkd
        refine (value_map hwh (by rw [List.length_map]; omega) (by simp) (fun i hi => ?_) hz).mono ?_
        · rw [List.length_map] at hi
          have : keyAt (l.map (fun y => txt y.2.1)) i = txt l[i].2.1 := by
            unfold keyAt
            rw [List.getD_eq_getElem?_getD, List.getElem?_map, List.getElem?_eq_getElem hi]; rfl
          rw [this, txt_size]
          exact hkz _ (List.getElem_mem _)
        · rintro e w' ⟨ty, x, rfl, ht, hb⟩
          exact ⟨ty, x, rfl, hmono ht, hfin w' hb⟩
    go_enter Tryz.func86, Tryz.ntmps86
    go_wp2_with fail
    clear hW1 HW1
    go_loopw [7] (fun _ wr => ∃ (q : Nat) (acc : List (Int × List UInt8 × VT)) (kd : Int) (kv it : Value) (xs : List Value), p ≤ q ∧ q ≤ N ∧ acc.length + p ≤ q ∧ Hid (aheadR acc (rowsM ahead (ls.drop q)) = some (l, z)) ∧ Hid (acc ≠ [] → kd = kk) ∧ Wh W1 wr (m + 1) w.heap.size kd kv it (acc.map (fun y => y.2.2)) xs (acc.map (fun y => txt y.2.1)) ∧ Hid (∀ y ∈ acc, y.2.1.length ≤ 4000) ∧ YBox wr ab lb fb rb a cap ls q ∧ But ab w wr ∧ W1.heap.size ≤ wr.heap.size) (fun _ wr => N - placeOf0 wr ab)
    case atStart => exact ⟨p, [], 0, _, _, [], Nat.le_refl _, hp1, by simp, by rw [Hid, aheadR_nil]; exact HRM.out, fun h => absurd rfl h, HWH1.out, (fun y hy => nomatch hy : ∀ y ∈ ([] : List (Int × List UInt8 × VT)), y.2.1.length ≤ 4000), HBX1.out, HBT1.out, Nat.le_refl _⟩
    case round =>
      obtain ⟨q, acc, kd, kv, it, xs, hpq, hqN, haq, HAR, HKD, hwh, HKZ, hbx, hbt, hz⟩ := hrel
      have HWH := hideIt hwh
      have HBXr := hideIt hbx
      have HBT := hideIt hbt
      have cp : wr.cell? ⟨ab, 0, none⟩ = some (.int .i64 (q : Int)) := cellAt hbx.pl rfl
      have cl : wr.cell? ⟨lb, 0, none⟩ = some (.slice a N cap) := by
        have hli := hbx.li
        rw [HNN.out] at hli
        exact cellAt hli rfl
      have fp := Lib.frozen_of_heap hbx.pl 0
      have hbz := hbt.size
      have habr : ab < wr.heap.size := by omega
      clear hwh hbx hbt
      by_cases hq : q < N
      · have hq' : (q : Int) < (N : Int) := by omega
        obtain ⟨ha, hra, hrl, hcs⟩ := HBXr.out.row (by rw [HNN.out]; omega)
        obtain ⟨k0, k1, k2, k3⟩ := cells_at (ls := ls) (q := q) (by rw [HNN.out]; exact hq)
        obtain ⟨X, hX⟩ : ∃ X, ls[q]'(by rw [HNN.out]; exact hq) = X := ⟨_, rfl⟩
        rw [hX] at k0 k1 k2 k3
        have g0 := hcs _ _ k0
        have g1 := hcs _ _ k1
        have g2 := hcs _ _ k2
        have g3 := hcs _ _ k3
        subst ha
        clear k0 k1 k2 k3 hcs
        by_cases hX1 : X.ahead = ahead
        · have hX2 : ((X.ahead : Nat) : Int) = (ahead : Int) := by omega
          have hX3 : (((X.ahead : Nat) : Int) == (ahead : Int)) = true := by simpa using hX2
          obtain ⟨KB, hKB⟩ : ∃ KB, txt X.key = KB := ⟨_, rfl⟩
          obtain ⟨EB, hEB⟩ : ∃ EB, txt X.rest = EB := ⟨_, rfl⟩
          rw [hKB] at g2
          rw [hEB] at g3
          have HKB := hideIt hKB
          have HEB := hideIt hEB
          have HX := hideIt hX
          have HX1 := hideIt hX1
          clear hKB hEB hX hX1
          obtain ⟨t1, z1, k, hpm, hkn, hz1e⟩ := rows_part (by rw [HNN.out]; exact hq) (by rw [HX.out]; exact HX1.out) HAR.out
          have HST := hideIt (rows_step (acc := acc) (by rw [HNN.out]; exact hq) (by rw [HX.out]; exact HX1.out) hpm)
          rw [HX.out] at hpm HST
          rw [HNN.out] at hkn
          obtain ⟨W3, hW3⟩ : ∃ W3, (wr.setCell ⟨ab, 0, none⟩ (.int .i64 ((q : Int) + 1))).alloc (.cells #[.int .i64 (ahead : Int), .int .i64 X.kind, .string KB, .string EB] 128) = W3 := ⟨_, rfl⟩
          have hz3 : W3.heap.size = wr.heap.size + 1 := by rw [← hW3]; simp
          have HBT3 : Hid (But ab wr W3) := by rw [Hid, ← hW3]; exact (But.of_set 0 _).next ((Below.refl _ _).alloc (by simp) _)
          have HPL3 : Hid (W3.heap[ab]? = some (.cells #[.int .i64 ((q + 1 : Nat) : Int)] 3 (0, 0))) := by
            rw [Hid, ← hW3, Below.heap_alloc _ _ _ (by simpa using habr), set_heap HBXr.out.pl]; rfl
          have HBOX3 : Hid (W3.heap[wr.heap.size]? = some (.cells #[.int .i64 (ahead : Int), .int .i64 X.kind, .string KB, .string EB] 128 (0, 0))) := by
            rw [Hid, ← hW3]
            have := heap_alloc_new (wr.setCell ⟨ab, 0, none⟩ (.int .i64 ((q : Int) + 1))) (.cells #[.int .i64 (ahead : Int), .int .i64 X.kind, .string KB, .string EB] 128)
            simpa using this
          have HYB3 := hideIt (HBXr.out.keep HBT3.out HPL3.out)
          have HD3 : Hid (But ab W3 W3.drew) := But.of_below ((Below.refl _ _).drew)
          have HYB4 := hideIt (HYB3.out.keep HD3.out HPL3.out)
          have HWH4 := hideIt ((HWH.out.read HBT3.out (by omega) (by omega)).read HD3.out (by omega) (by omega))
          have HBT4 := hideIt ((HBT.out.trans HBT3.out).trans HD3.out)
          have HTB4 : Hid (TabB B W3.drew) := HTAB.out.next (((HBT4.out.below (by omega))).mono hBa)
          have cf : W3.cell? ⟨fb, 0, none⟩ = some (.func (.func 86) #[] #[.pointer (some ⟨ab, 0, none⟩), .pointer (some ⟨lb, 0, none⟩), .pointer (some ⟨fb, 0, none⟩)]) := cellAt HYB3.out.fu rfl
          have x0 : W3.cell? ⟨wr.heap.size, 0, none⟩ = some (.int .i64 (ahead : Int)) := cellAt HBOX3.out rfl
          have x1 : W3.cell? ⟨wr.heap.size, 1, none⟩ = some (.int .i64 X.kind) := cellAt HBOX3.out rfl
          have x2 : W3.cell? ⟨wr.heap.size, 2, none⟩ = some (.string KB) := cellAt HBOX3.out rfl
          have x3 : W3.cell? ⟨wr.heap.size, 3, none⟩ = some (.string EB) := cellAt HBOX3.out rfl
          have HBM := hideIt hpm
          have HZE := hideIt hz1e
          have HZ3 := hideIt hz3
          have HMEM : Hid (∀ y ∈ acc ++ [(X.kind, X.key, t1)], y ∈ l) := aheadR_mem (o := rowsM ahead z1) (HST.out.symm.trans HAR.out)
          have HXK : Hid (X.kind = kk) := HKK.out _ (HMEM.out (X.kind, X.key, t1) (by simp))
          have HTS : Hid (acc.map (fun y => y.2.2) ++ [t1] = (acc ++ [(X.kind, X.key, t1)]).map (fun y => y.2.2)) := by rw [Hid, List.map_append]; rfl
          have HKS : Hid (acc.map (fun y => txt y.2.1) ++ [KB] = (acc ++ [(X.kind, X.key, t1)]).map (fun y => txt y.2.1)) := by rw [Hid, List.map_append, ← HKB.out]; rfl
          have HXZ : Hid (X.key.length ≤ 4000 ∧ X.rest.length ≤ 4000) := by
            have := HSM.out.2 X (by rw [← HX.out]; exact List.getElem_mem _)
            exact this.2
          have HADD : Hid (∀ w4 ty x, TreeP (NewB W3.drew w4) w4 (m + 1) t1 (.iface ty x) → But ab W3.drew w4 → Calls Tryz.prog 87 #[.pointer (some ⟨w.heap.size, 0, none⟩), .agg #[.int .i64 (ahead : Int), .int .i64 X.kind, .string KB, .string EB], .iface ty x] w4 fun e w' => e = .returned (.tuple #[]) ∧ ∃ kv' it', Wh W1 w' (m + 1) w.heap.size X.kind kv' it' ((acc ++ [(X.kind, X.key, t1)]).map (fun y => y.2.2)) (xs ++ [.iface ty x]) ((acc ++ [(X.kind, X.key, t1)]).map (fun y => txt y.2.1)) ∧ Fr W1.heap.size w.heap.size w4 w') := fun w4 ty x ht hb => by
            have h3 := HZ3.out
            have hzd : W3.drew.heap.size = W3.heap.size := rfl
            have := add_yes (W1 := W1) (wr0 := W3.drew) (w2 := w4) (f := m + 1) (wb := w.heap.size) (k2 := X.kind) (key := KB) (rest := EB) (ahead := (ahead : Int)) (t := t1) (ty := ty) (xx := x) (HWH4.out.read hb (by omega) (by omega)) (by
              rw [List.length_map]
              rcases Nat.eq_zero_or_pos acc.length with e | e
              · exact .inl e
              · exact .inr (by rw [HXK.out, HKD.out (fun e2 => by rw [e2] at e; simp at e)])) (by simp) (by rw [List.length_map]; omega) (by omega) hb.size (fun b hb' => (HWH4.out.its.row.lt b hb').2) (fun b hb' => (HWH4.out.its.krow.lt b hb').2) ht
            rw [HTS.out, HKS.out] at this
            exact this
          have HNEXT : Hid (∀ w4 w5, YBox w4 ab lb fb rb (some ⟨rb, 0, none⟩) cap ls (q + 1 + k) → Fr W1.heap.size w.heap.size w4 w5 → YBox w5 ab lb fb rb (some ⟨rb, 0, none⟩) cap ls (q + 1 + k)) := fun w4 w5 h1 h2 => h1.fr h2 ⟨by omega, by omega⟩ ⟨by omega, by omega⟩ ⟨by omega, by omega⟩ (fun hl => by have := (HBX.out.row hl).2.2.1; exact ⟨by omega, by omega⟩)
          have HARN : Hid (aheadR (acc ++ [(X.kind, X.key, t1)]) (rowsM ahead (ls.drop (q + 1 + k))) = some (l, z)) := by rw [Hid, ← HZE.out]; exact HST.out.symm.trans HAR.out
          have HKZN : Hid (∀ y ∈ acc ++ [(X.kind, X.key, t1)], y.2.1.length ≤ 4000) := fun y hy => by
            rcases List.mem_append.1 hy with h1 | h1
            · exact HKZ.out y h1
            · obtain rfl : y = (X.kind, X.key, t1) := by simpa using h1
              exact HXZ.out.1
          clear hpm hz1e hz3
          by_cases hem : EB.toList.isEmpty = true
          · have hXr : X.rest = [] := by
              have h1 : EB.toList = [] := List.isEmpty_iff.1 hem
              rw [ByteArray.toList_eq, ← HEB.out, bytes_txt] at h1
              exact h1
            have hbm : blockM (ahead + 2) (ls.drop (q + 1)) = some (t1, z1) := by
              have hpm := HBM.out
              unfold partM at hpm
              rw [if_pos hXr] at hpm
              exact hpm
            have HCR := hideIt (IH.out (ahead + 2) (q + 1) t1 z1 W3.drew HYB4.out (by rw [HNN.out]; omega) (by rw [HNN.out]; omega) (by omega) HTB4.out hbm)
            have e2 : ((ahead + 2 : Nat) : Int) = IntKind.i64.wrap ((ahead : Int) + 2) := by rw [i64_wrap (by omega) (by omega)]; omega
            rw [e2] at HCR
            have HPZ : Hid (ls.length - z1.length = q + 1 + k) := by rw [Hid, HZE.out, List.length_drop, HNN.out]; omega
            rw [HPZ.out] at HCR
            clear hXr hbm e2
            go_wp2_with fail
            go_region_law
              (first
                | (refine step_callC (by rfl) 86 _ _ _ (.pointer (some ⟨ab, 0, none⟩)) (.pointer (some ⟨lb, 0, none⟩)) (.pointer (some ⟨fb, 0, none⟩)) (by rfl) (.int .i64 (IntKind.i64.wrap ((ahead : Int) + 2))) (by rfl) (by rfl) (call_ry _ _ _ _) HCR.out ?_; rintro e w4 ⟨ty, x, rfl, htr, hyb, hb4⟩; have x4 := (hb4.block wr.heap.size (by show wr.heap.size < W3.heap.size; have := HZ3.out; omega) (by omega)).trans HBOX3.out; have y0 : w4.cell? ⟨wr.heap.size, 0, none⟩ = some (.int .i64 (ahead : Int)) := cellAt x4 rfl; have y1 : w4.cell? ⟨wr.heap.size, 1, none⟩ = some (.int .i64 X.kind) := cellAt x4 rfl; have y2 : w4.cell? ⟨wr.heap.size, 2, none⟩ = some (.string KB) := cellAt x4 rfl; have y3 : w4.cell? ⟨wr.heap.size, 3, none⟩ = some (.string EB) := cellAt x4 rfl; refine ⟨_, rfl, ?_⟩)
                | (refine step_call3y (by rfl) 87 _ _ _ _ _ _ (by rfl) (.pointer (some ⟨w.heap.size, 0, none⟩)) (.agg #[.int .i64 (ahead : Int), .int .i64 X.kind, .string KB, .string EB]) (.iface ty x) (by rfl) (by rfl) (by rfl) (call_addY _ _ _) (HADD.out w4 ty x htr hb4) ?_; rintro e w5 ⟨rfl, kv2, it2, hwh2, hfr⟩; refine ⟨_, rfl, ?_⟩))
            all_goals
              have HYB5 : Hid (YBox w5 ab lb fb rb (some ⟨rb, 0, none⟩) cap ls (q + 1 + k)) := HNEXT.out w4 w5 hyb hfr
              have HWH5 := hideIt hwh2
              have HBT5 : Hid (But ab w w5) := (HBT4.out.trans hb4).fr hfr (by omega) (Nat.le_refl _)
              have hz5 : W1.heap.size ≤ w5.heap.size := by have h3 := HZ3.out; have h4 := hfr.size; have h5 : W3.heap.size ≤ w4.heap.size := hb4.size; omega
              clear htr hyb hb4 x4 y0 y1 y2 y3 hwh2 hfr
              go_wp2_with fail
              go_roundw
              case rel => exact ⟨q + 1 + k, acc ++ [(X.kind, X.key, t1)], X.kind, kv2, it2, _, by omega, by omega, by rw [List.length_append]; simp; omega, HARN.out, fun _ => HXK.out, HWH5.out, HKZN, HYB5.out, HBT5.out, hz5⟩
              case measure =>
                rw [HBXr.out.place, HYB5.out.place]; omega
          · have hem' : EB.toList.isEmpty = false := by simpa using hem
            have hEL : EB.data.toList = X.rest := by rw [← HEB.out, bytes_txt]
            have hXr : X.rest ≠ [] := by
              intro e
              rw [ByteArray.toList_eq, hEL, e] at hem'
              cases hem'
            have hpm := HBM.out
            unfold partM at hpm
            rw [if_neg hXr] at hpm
            cases hh : Lib.hasPrefix X.rest [32]
            · exfalso; rw [hh] at hpm; simp at hpm
            rw [if_pos hh] at hpm
            cases hsh : shortY (X.rest.drop 1) with
            | none => exfalso; simp only [hsh] at hpm; cases hpm
            | some t2 =>
            simp only [hsh, Option.some.injEq, Prod.mk.injEq] at hpm
            obtain ⟨rfl, hz1q⟩ := hpm
            have hk0 : k = 0 := by
              have h1 := congrArg List.length hz1q
              rw [HZE.out, List.length_drop, List.length_drop, HNN.out] at h1
              omega
            have HBB := hideIt (behindBlank_yes (s := EB) (by rw [hEL]; exact hh) W3.drew)
            rw [hEL] at HBB
            obtain ⟨DB, hDB⟩ : ∃ DB, txt (X.rest.drop 1) = DB := ⟨_, rfl⟩
            rw [hDB] at HBB
            have HSH := hideIt (readShort_yes (s := DB) (t := t2) (by rw [← hDB, txt_size, List.length_drop]; have := HXZ.out.2; omega) (by rw [← hDB, bytes_txt]; exact hsh) W3.drew (HTB4.out.wide (by show B ≤ W3.heap.size; have := HZ3.out; omega)))
            have HYBk : Hid (YBox W3.drew ab lb fb rb (some ⟨rb, 0, none⟩) cap ls (q + 1 + k)) := by rw [Hid, hk0]; exact HYB4.out
            clear hXr hh hsh hz1q hEL hDB hk0
            go_wp2_with fail
            go_region_law
              (first
                | (refine step_call1 (by rfl) 88 _ _ (by rfl) (.string EB) (by rfl) (call_behind _) HBB.out ?_; rintro e wq ⟨rfl, rfl⟩; refine ⟨_, rfl, ?_⟩)
                | (refine step_call1 (by rfl) 85 _ _ (by rfl) (.string DB) (by rfl) (call_short _) HSH.out ?_; rintro e w4 ⟨ty, x, rfl, hsv, hbl⟩; have hb4 : But ab W3.drew w4 := But.of_below hbl; have x4 := (hb4.block wr.heap.size (by show wr.heap.size < W3.heap.size; have := HZ3.out; omega) (by omega)).trans HBOX3.out; have y0 : w4.cell? ⟨wr.heap.size, 0, none⟩ = some (.int .i64 (ahead : Int)) := cellAt x4 rfl; have y1 : w4.cell? ⟨wr.heap.size, 1, none⟩ = some (.int .i64 X.kind) := cellAt x4 rfl; have y2 : w4.cell? ⟨wr.heap.size, 2, none⟩ = some (.string KB) := cellAt x4 rfl; have y3 : w4.cell? ⟨wr.heap.size, 3, none⟩ = some (.string EB) := cellAt x4 rfl; refine ⟨_, rfl, ?_⟩)
                | (refine step_call3y (by rfl) 87 _ _ _ _ _ _ (by rfl) (.pointer (some ⟨w.heap.size, 0, none⟩)) (.agg #[.int .i64 (ahead : Int), .int .i64 X.kind, .string KB, .string EB]) (.iface ty x) (by rfl) (by rfl) (by rfl) (call_addY _ _ _) (HADD.out w4 ty x (hsv _ _ m) hb4) ?_; rintro e w5 ⟨rfl, kv2, it2, hwh2, hfr⟩; refine ⟨_, rfl, ?_⟩))
            all_goals
              have HYB5 : Hid (YBox w5 ab lb fb rb (some ⟨rb, 0, none⟩) cap ls (q + 1 + k)) := HNEXT.out w4 w5 (HYBk.out.keep hb4 ((hbl.block ab (by show ab < W3.heap.size; have := HZ3.out; omega)).trans HYBk.out.pl)) hfr
              have HWH5 := hideIt hwh2
              have HBT5 : Hid (But ab w w5) := (HBT4.out.trans hb4).fr hfr (by omega) (Nat.le_refl _)
              have hz5 : W1.heap.size ≤ w5.heap.size := by have h3 := HZ3.out; have h4 := hfr.size; have h5 : W3.heap.size ≤ w4.heap.size := hb4.size; omega
              clear hsv hbl hb4 x4 y0 y1 y2 y3 hwh2 hfr
              go_wp2_with fail
              go_roundw
              case rel => exact ⟨q + 1 + k, acc ++ [(X.kind, X.key, t2)], X.kind, kv2, it2, _, by omega, by omega, by rw [List.length_append]; simp; omega, HARN.out, fun _ => HXK.out, HWH5.out, HKZN, HYB5.out, HBT5.out, hz5⟩
              case measure =>
                rw [HBXr.out.place, HYB5.out.place]; omega
        · have HEX : Hid (l = acc ∧ z = ls.drop q) := by
            have h1 := HAR.out
            rw [lines_at (by rw [HNN.out]; exact hq), rowsM_off (by rw [hX]; exact hX1), ← lines_at (by rw [HNN.out]; exact hq)] at h1
            simp only [aheadR, List.append_nil, Option.some.injEq, Prod.mk.injEq] at h1
            exact ⟨h1.1.symm, h1.2.symm⟩
          have hX2 : ¬ ((X.ahead : Nat) : Int) = (ahead : Int) := by omega
          have hX3 : (((X.ahead : Nat) : Int) == (ahead : Int)) = false := by simpa using hX2
          have HVAL := hideIt (HVALS.out wr q acc kd kv it xs HEX.out HKD.out HWH.out HKZ.out HBXr.out HBT.out hz hqN)
          clear hX2 hX hX1
          go_wp2_with fail
          refine HVAL.out.mono ?_
          rintro e w6 ⟨ty, x, rfl, htr, hyb, hbt6⟩
          have HT6 := hideIt htr
          have HY6 := hideIt hyb
          have HB6 := hideIt hbt6
          clear htr hyb hbt6
          go_wp2_with fail
          go_ret
          exact ⟨_, _, rfl, HT6.out, HY6.out, HB6.out⟩
      · have hq' : ¬ (q : Int) < (N : Int) := by omega
        have HEX : Hid (l = acc ∧ z = ls.drop q) := by
          have h1 := HAR.out
          have h2 : ls.drop q = [] := List.drop_eq_nil_of_le (by rw [HNN.out]; omega)
          rw [h2, rowsM_nil] at h1
          simp only [aheadR, List.append_nil, Option.some.injEq, Prod.mk.injEq] at h1
          exact ⟨h1.1.symm, by rw [h2]; exact h1.2.symm⟩
        have HVAL := hideIt (HVALS.out wr q acc kd kv it xs HEX.out HKD.out HWH.out HKZ.out HBXr.out HBT.out hz hqN)
        go_wp2_with fail
        refine HVAL.out.mono ?_
        rintro e w6 ⟨ty, x, rfl, htr, hyb, hbt6⟩
        have HT6 := hideIt htr
        have HY6 := hideIt hyb
        have HB6 := hideIt hbt6
        clear htr hyb hbt6
        go_wp2_with fail
        go_ret
        exact ⟨_, _, rfl, HT6.out, HY6.out, HB6.out⟩
end Go.Proofs.YtiamkmkbkehldaaGreatDoor
