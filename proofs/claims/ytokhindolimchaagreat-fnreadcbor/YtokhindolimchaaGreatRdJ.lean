/-
  Which type lies behind the interface: all pairs, in the order of a type switch.
-/
import Derived.Test.YtokhindolimchaaGreatProg
import Derived.WalkKit
import Derived.Test.YtokhindolimchaaGreatNmT
import Derived.Test.YtokhindolimchaaGreatStbN
import Derived.Test.YtokhindolimchaaGreatSMake
namespace Go.Proofs.YtokhindolimchaaGreat
open Go.RowKit
theorem tw_null_null (x : Value) (w : World) : (Instr.typeAssert (.iface 88 x) 54 88 true).run Tryz.prog w = .ok (.tuple #[x, .bool true]) w := by kernel_rfl
theorem tw_bool_null (x : Value) (w : World) : (Instr.typeAssert (.iface 90 x) 54 88 true).run Tryz.prog w = .ok (.tuple #[.agg #[], .bool false]) w := by kernel_rfl
theorem tw_bool_bool (x : Value) (w : World) : (Instr.typeAssert (.iface 90 x) 54 90 true).run Tryz.prog w = .ok (.tuple #[x, .bool true]) w := by kernel_rfl
theorem tw_int_null (x : Value) (w : World) : (Instr.typeAssert (.iface 92 x) 54 88 true).run Tryz.prog w = .ok (.tuple #[.agg #[], .bool false]) w := by kernel_rfl
theorem tw_int_bool (x : Value) (w : World) : (Instr.typeAssert (.iface 92 x) 54 90 true).run Tryz.prog w = .ok (.tuple #[.agg #[.int .i64 0], .bool false]) w := by kernel_rfl
theorem tw_int_int (x : Value) (w : World) : (Instr.typeAssert (.iface 92 x) 54 92 true).run Tryz.prog w = .ok (.tuple #[x, .bool true]) w := by kernel_rfl
theorem tw_text_null (x : Value) (w : World) : (Instr.typeAssert (.iface 95 x) 54 88 true).run Tryz.prog w = .ok (.tuple #[.agg #[], .bool false]) w := by kernel_rfl
theorem tw_text_bool (x : Value) (w : World) : (Instr.typeAssert (.iface 95 x) 54 90 true).run Tryz.prog w = .ok (.tuple #[.agg #[.int .i64 0], .bool false]) w := by kernel_rfl
theorem tw_text_int (x : Value) (w : World) : (Instr.typeAssert (.iface 95 x) 54 92 true).run Tryz.prog w = .ok (.tuple #[.agg #[.int .i64 0], .bool false]) w := by kernel_rfl
theorem tw_text_text (x : Value) (w : World) : (Instr.typeAssert (.iface 95 x) 54 95 true).run Tryz.prog w = .ok (.tuple #[x, .bool true]) w := by kernel_rfl
theorem tw_list_null (x : Value) (w : World) : (Instr.typeAssert (.iface 113 x) 54 88 true).run Tryz.prog w = .ok (.tuple #[.agg #[], .bool false]) w := by kernel_rfl
theorem tw_list_bool (x : Value) (w : World) : (Instr.typeAssert (.iface 113 x) 54 90 true).run Tryz.prog w = .ok (.tuple #[.agg #[.int .i64 0], .bool false]) w := by kernel_rfl
theorem tw_list_int (x : Value) (w : World) : (Instr.typeAssert (.iface 113 x) 54 92 true).run Tryz.prog w = .ok (.tuple #[.agg #[.int .i64 0], .bool false]) w := by kernel_rfl
theorem tw_list_text (x : Value) (w : World) : (Instr.typeAssert (.iface 113 x) 54 95 true).run Tryz.prog w = .ok (.tuple #[.agg #[.string ByteArray.empty], .bool false]) w := by kernel_rfl
theorem tw_list_list (x : Value) (w : World) : (Instr.typeAssert (.iface 113 x) 54 113 true).run Tryz.prog w = .ok (.tuple #[x, .bool true]) w := by kernel_rfl
theorem tw_map_null (x : Value) (w : World) : (Instr.typeAssert (.iface 116 x) 54 88 true).run Tryz.prog w = .ok (.tuple #[.agg #[], .bool false]) w := by kernel_rfl
theorem tw_map_bool (x : Value) (w : World) : (Instr.typeAssert (.iface 116 x) 54 90 true).run Tryz.prog w = .ok (.tuple #[.agg #[.int .i64 0], .bool false]) w := by kernel_rfl
theorem tw_map_int (x : Value) (w : World) : (Instr.typeAssert (.iface 116 x) 54 92 true).run Tryz.prog w = .ok (.tuple #[.agg #[.int .i64 0], .bool false]) w := by kernel_rfl
theorem tw_map_text (x : Value) (w : World) : (Instr.typeAssert (.iface 116 x) 54 95 true).run Tryz.prog w = .ok (.tuple #[.agg #[.string ByteArray.empty], .bool false]) w := by kernel_rfl
theorem tw_map_list (x : Value) (w : World) : (Instr.typeAssert (.iface 116 x) 54 113 true).run Tryz.prog w = .ok (.tuple #[.agg #[.slice none 0 0], .bool false]) w := by kernel_rfl
theorem tw_map_map (x : Value) (w : World) : (Instr.typeAssert (.iface 116 x) 54 116 true).run Tryz.prog w = .ok (.tuple #[x, .bool true]) w := by kernel_rfl
end Go.Proofs.YtokhindolimchaaGreat

/-
  The program's readItems and readPairs, over whatever reads a value.
-/
namespace Go.Proofs.YtokhindolimchaaGreat
open Go.RowKit
set_option linter.unusedSimpArgs false
set_option linter.unusedVariables false

/-- While values (and keys) are gathered: two rows of one's own, the trees beside them. -/
structure Its (w wr : World) (f : Nat) (it kv : Value) (ts : List VT) (xs : List Value) (ks : List ByteArray) : Prop where
  row : wr.ownsRow w.heap.size 54 1 it ts.length xs
  len : xs.length = ts.length
  krow : wr.ownsRow w.heap.size 9 1 kv ks.length (ks.map Value.string)
  trees : ∀ j, j < ts.length → ∃ ty x, xs[j]? = some (.iface ty x) ∧ TreeP (fun b => NewB w wr b ∧ it.ownBlock ≠ some b ∧ kv.ownBlock ≠ some b) wr f (kidT ts j) (.iface ty x)
theorem Its.nil (w : World) (f : Nat) : Its w w f (.slice none 0 0) (.slice none 0 0) [] [] [] :=
  ⟨World.ownsRow_nil _ _ _ _, rfl, World.ownsRow_nil _ _ _ _, fun j hj => absurd hj (by simp)⟩
theorem from_but {rb base : Nat} {a b : World} (h : But rb a b) (hr : rb < base) : From base a b := ⟨h.size, fun c h1 h2 => h.block c h2 (by omega)⟩
theorem Its.read {w wr w2 : World} {f rb : Nat} {it kv : Value} {ts : List VT} {xs : List Value} {ks : List ByteArray} (h : Its w wr f it kv ts xs ks) (hb : But rb wr w2) (hr : rb < w.heap.size) : Its w w2 f it kv ts xs ks := by
  refine ⟨own_from h.row (from_but hb hr), h.len, own_from h.krow (from_but hb hr), fun j hj => ?_⟩
  obtain ⟨ty, x, h1, h2⟩ := h.trees j hj
  exact ⟨ty, x, h1, h2.keep (fun b hb' => hb.block b hb'.1.2 (by have := hb'.1.1; omega)) (fun b hb' => ⟨⟨hb'.1.1, Nat.lt_of_lt_of_le hb'.1.2 hb.size⟩, hb'.2⟩)⟩
theorem kid_snoc_last (l : List VT) (t : VT) : kidT (l ++ [t]) l.length = t := by simp [kidT]
theorem kid_snoc_old {l : List VT} {t : VT} {j : Nat} (h : j < l.length) : kidT (l ++ [t]) j = kidT l j := by simp [kidT, List.getElem?_append_left h]
theorem Its.item {w wr w2 w5 : World} {f : Nat} {it kv v' : Value} {ts : List VT} {xs : List Value} {ks : List ByteArray} {t : VT} {ty : TypeId} {x : Value} {o : Obj} (h : Its w w2 f it kv ts xs ks) (hwr : w.heap.size ≤ wr.heap.size) (hit : ∀ b, it.ownBlock = some b → b < wr.heap.size) (hkv : ∀ b, kv.ownBlock = some b → b < wr.heap.size)
    (ht : TreeP (NewB wr w2) w2 f t (.iface ty x)) (hown : w5.ownsRow w.heap.size 54 1 v' (ts.length + 1) (xs ++ [.iface ty x])) (hg : (w2.alloc o).grownBy w5 it.ownBlock) (hat : v'.ownBlock = it.ownBlock ∨ v'.ownBlock = some (w2.heap.size + 1)) :
    Its w w5 f v' kv (ts ++ [t]) (xs ++ [.iface ty x]) ks := by
  have hg1 : w2.grownBy w5 it.ownBlock := (World.grownBy_alloc w2 o _).trans hg
  have hz : w2.heap.size ≤ w5.heap.size := hg1.size
  have hv : ∀ b, b < w2.heap.size → it.ownBlock ≠ some b → v'.ownBlock ≠ some b := fun b hb hne e => by
    rcases hat with h1 | h1
    · exact hne (h1 ▸ e)
    · rw [h1] at e
      simp at e
      omega
  refine ⟨by rw [List.length_append]; exact hown, by simp [h.len], h.krow.kept hg1 (own_apart h.krow h.row (by decide)), fun j hj => ?_⟩
  rw [List.length_append, List.length_cons, List.length_nil] at hj
  by_cases e : j < ts.length
  · obtain ⟨ty', x', h1, h2⟩ := h.trees j e
    refine ⟨ty', x', by rw [List.getElem?_append_left (by have := h.len; omega)]; exact h1, ?_⟩
    rw [kid_snoc_old e]
    exact h2.keep (fun b hb' => hg1.block b hb'.1.2 (fun e' => hb'.2.1 e'.symm)) (fun b hb' => ⟨⟨hb'.1.1, Nat.lt_of_lt_of_le hb'.1.2 hz⟩, hv b hb'.1.2 hb'.2.1, hb'.2.2⟩)
  · obtain rfl : j = ts.length := by omega
    refine ⟨ty, x, by rw [List.getElem?_append_right (by have := h.len; omega)]; simp [h.len], ?_⟩
    rw [kid_snoc_last]
    exact ht.keep (fun b hb' => hg1.block b hb'.2 (fun e' => by have := hit b e'.symm; have := hb'.1; omega)) (fun b hb' => ⟨⟨Nat.le_trans hwr hb'.1, Nat.lt_of_lt_of_le hb'.2 hz⟩, hv b hb'.2 (fun e' => by have := hit b e'; have := hb'.1; omega), fun e' => by have := hkv b e'; have := hb'.1; omega⟩)
theorem Its.key {w w2 w5 : World} {f : Nat} {it kv v' : Value} {ts : List VT} {xs : List Value} {ks : List ByteArray} {s : ByteArray} {o : Obj} (h : Its w w2 f it kv ts xs ks)
    (hown : w5.ownsRow w.heap.size 9 1 v' (ks.length + 1) (ks.map Value.string ++ [.string s])) (hg : (w2.alloc o).grownBy w5 kv.ownBlock) (hat : v'.ownBlock = kv.ownBlock ∨ v'.ownBlock = some (w2.heap.size + 1)) :
    Its w w5 f it v' ts xs (ks ++ [s]) := by
  have hg1 : w2.grownBy w5 kv.ownBlock := (World.grownBy_alloc w2 o _).trans hg
  have hz : w2.heap.size ≤ w5.heap.size := hg1.size
  refine ⟨h.row.kept hg1 (own_apart h.row h.krow (by decide)), h.len, by rw [List.length_append, List.map_append]; exact hown, fun j hj => ?_⟩
  obtain ⟨ty', x', h1, h2⟩ := h.trees j hj
  refine ⟨ty', x', h1, h2.keep (fun b hb' => hg1.block b hb'.1.2 (fun e' => hb'.2.2 e'.symm)) (fun b hb' => ⟨⟨hb'.1.1, Nat.lt_of_lt_of_le hb'.1.2 hz⟩, hb'.2.1, fun e => ?_⟩)⟩
  rcases hat with h3 | h3
  · exact hb'.2.2 (h3 ▸ e)
  · rw [h3] at e
    simp at e
    have := hb'.1.2
    omega
theorem Its.alloc {w wr : World} {f : Nat} {it kv : Value} {ts : List VT} {xs : List Value} {ks : List ByteArray} (h : Its w wr f it kv ts xs ks) (o : Obj) : Its w (wr.alloc o) f it kv ts xs ks := by
  have hb : Below wr.heap.size wr (wr.alloc o) := (Below.refl _ _).alloc (Nat.le_refl _) _
  refine ⟨h.row.alloc _, h.len, h.krow.alloc _, fun j hj => ?_⟩
  obtain ⟨ty, x, h1, h2⟩ := h.trees j hj
  exact ⟨ty, x, h1, h2.keep (fun b hb' => hb.block b hb'.1.2) (fun b hb' => ⟨⟨hb'.1.1, Nat.lt_of_lt_of_le hb'.1.2 hb.size⟩, hb'.2⟩)⟩
/-- The list of what was gathered. -/
theorem Its.list {w wr : World} {f : Nat} {it kv : Value} {ts : List VT} {xs : List Value} {ks : List ByteArray} (h : Its w wr f it kv ts xs ks) (hn : ts.length ≤ 100000) : TreeP (NewB w wr) wr (f + 1) (listT ts) (.iface 113 (.agg #[it])) := by
  refine .inr (.inr (.inr (.inr (.inl ⟨rfl, rfl, rfl, rfl, it, rfl, hn, ?_⟩))))
  obtain ⟨a, c, e⟩ := own_slice h.row
  refine ⟨a, c, e, fun hp => ?_⟩
  obtain ⟨g, cap, e2, hge, hlt⟩ := h.row.form hp
  have ea : a = some ⟨g, 0, none⟩ := by rw [e2] at e; injection e with e _ _; exact e.symm
  refine ⟨g, ea, ⟨hge, hlt⟩, fun j hj => ?_⟩
  obtain ⟨ty, x, h1, h2⟩ := h.trees j hj
  refine ⟨ty, x, ?_, h2.keep (fun b _ => rfl) (fun b hb' => hb'.1)⟩
  have := h.row
  rw [e2] at this
  rw [this.cellAt j (by omega)]
  exact h1
/-- As ReadOr, the reader perhaps where it was. -/
def RowOr (r : Option (VT × Nat)) (f rb : Nat) (s : ByteArray) (p : Nat) (w : World) (e : Ending) (w' : World) : Prop :=
  (∃ t q x, r = some (t, q) ∧ e = .returned x ∧ TreeP (NewB w w') w' f t x ∧ BrAt w' rb s q ∧ But rb w w' ∧ p ≤ q) ∨ (r = none ∧ e = gup ∧ But rb w w')
theorem But.grown {rb base : Nat} {w a b : World} {row : Option Nat} (h : But rb w a) (hg : a.grownBy b row) (hr : ∀ x, row = some x → w.heap.size ≤ x) : But rb w b :=
  ⟨hg.os.trans h.os, hg.tape.trans h.tape, hg.output.trans h.output, Nat.le_trans h.size hg.size, fun c hc hn => (hg.block c (Nat.lt_of_lt_of_le hc h.size) (fun e => by have := hr c e.symm; omega)).trans (h.block c hc hn)⟩
theorem BrAt.grown {w a b : World} {rb q : Nat} {s : ByteArray} {row : Option Nat} (h : BrAt a rb s q) (hg : a.grownBy b row) (hr : ∀ x, row = some x → rb < x) : BrAt b rb s q :=
  h.keep (hg.block rb h.lt (fun e => by have := hr rb e.symm; omega)) hg.size

set_option maxRecDepth 100000 in
set_option maxHeartbeats 3200000 in
theorem readItems_any (G : FuncId) (L : List UInt8) (R : Nat → Option (VT × Nat)) (f rb : Nat) (s : ByteArray) (hG : GAll G L R f rb s) (hcf : ∀ w, (callFunc G #[.pointer (some ⟨rb, 0, none⟩)]).run Tryz.prog w = .ok (.enter G #[.pointer (some ⟨rb, 0, none⟩)]) w) (n p : Nat) (w : World) (h : BrAt w rb s p) (hf : s.size < p + f) (hn : n ≤ 1000000000000000) (hs : s.size ≤ 4000) :
    Calls Tryz.prog 58 #[.int .i64 n, .func (.func G) #[.pointer (some ⟨rb, 0, none⟩)] #[]] w (RowOr (rowT R false n p) (f + 1) rb s p w) := by
  have H := hideIt h
  have HG := hideIt hG
  have hrb := h.lt
  obtain ⟨i1, hi1, hz1, hs1, hy1⟩ := info_parts infoV1
  clear h hG
  go_enter Tryz.func58, Tryz.ntmps58
  go_wp2_with fail
  go_loopw [5, 7] (fun it i wr => ∃ (k q : Nat) (ts : List VT) (xs : List Value), k ≤ n ∧ i = .int .i64 k ∧ rdItems R k p = some (ts, q) ∧ BrAt wr rb s q ∧ But rb w wr ∧ Its w wr f it (.slice none 0 0) ts xs [] ∧ p + k ≤ q) (fun _ i _ => n - (intOf i).toNat)
  case atStart => exact ⟨0, p, [], [], Nat.zero_le _, rfl, rfl, H.out, But.refl _ _, Its.nil w f, Nat.le_refl _⟩
  case round =>
    obtain ⟨k, q, ts, xs, hk, rfl, hrd, hbr, hbt, hit, hpq⟩ := hrel
    have HRD := hideIt hrd
    have HBR := hideIt hbr
    have HBT := hideIt hbt
    have HIT := hideIt hit
    have hqs := hbr.le
    have hlen := items_len hrd
    have zr := hbt.size
    obtain ⟨ai, ci, ei⟩ := own_slice hit.row
    rw [hlen] at ei
    subst ei
    clear hrd hbr hbt hit
    by_cases hlt : k < n
    · have hlt' : (k : Int) < (n : Int) := by omega
      have HC := hideIt (HG.out q wr HBR.out (by omega))
      go_wp2_with fail
      refine HC.out.mono ?_
      rintro e w2 (⟨t, q2, x, hr, rfl, htr, hb2, hbt2, hq2⟩ | ⟨hr, rfl, hbt2⟩)
      · obtain ⟨ty, xx, rfl⟩ := htr.iface
        have HTR := hideIt htr
        have HRD2 := hideIt (items_snoc HRD.out hr)
        have HIT2 := hideIt (HIT.out.read hbt2 hrb)
        have HBT2 := hideIt (HBT.out.trans hbt2)
        have HBR2 := hideIt hb2
        have z2 := hbt2.size
        have HLT : Hid (∀ b, (Value.slice ai k ci).ownBlock = some b → w.heap.size ≤ b ∧ b < wr.heap.size) := fun b hb' => HIT.out.row.lt b hb'
        have HRO : Hid (w2.ownsRow w.heap.size 54 1 (.slice ai k ci) k xs) := by have := HIT2.out.row; rw [hlen] at this; exact this
        clear htr hr hb2 hbt2
        go_wp2_with (at_builtin; refine wpList_append_own_at _ rfl _ _ 104 rfl w.heap.size 54 i1 .nilIface 1 16 Tryz.underlying104 hi1 hz1 hs1 hy1 rfl (by decide) _ _ _ rfl (HRO.out.alloc _) ⟨w2.heap.size, 0, none⟩ 1 1 [.iface ty xx] rfl rfl ?c1 ?c2 ?c3 ?c4 ?c5 ?_)
        case c1 => exact cell_one_new _ _ _
        case c2 => intro u hu; simp at hu; subst hu; rfl
        case c3 => unfold maxLen; omega
        case c4 => omega
        case c5 => simp; omega
        intro v' w5 hown hgrow _ hat
        have HIT5 := hideIt (HIT2.out.item (wr := wr) zr (fun b hb' => (HLT.out b (by rw [← hb'])).2) (fun b hb' => by simp [Value.ownBlock] at hb') HTR.out (by rw [hlen]; exact hown) (by exact hgrow) (by exact hat))
        have hga := (World.grownBy_alloc w2 (.cells #[.iface ty xx] 54) (Value.slice ai k ci).ownBlock).trans hgrow
        have HBT5 := hideIt (HBT2.out.grown (base := 0) hga (fun x hx => (HLT.out x hx).1))
        have HBR5 := hideIt (HBR2.out.grown (w := w) hga (fun x hx => by have := (HLT.out x hx).1; omega))
        clear hown hgrow hat hga
        go_wp2_with fail
        go_roundw
        case rel => exact ⟨k + 1, q2, _, _, by omega, by go_num, HRD2.out, HBR5.out, HBT5.out, HIT5.out, by omega⟩
        case measure => simp [intOf]; omega
      · have HST := hideIt (items_stop HRD.out hr hlt)
        have HB2 := hideIt (HBT.out.trans hbt2)
        clear hr hbt2
        unfold gup
        go_wp2_with fail
        exact ⟨rfl, .inr ⟨by simp [rowT, HST.out], rfl, HB2.out⟩⟩
    · obtain rfl : k = n := by omega
      have HL := hideIt (HIT.out.list (by omega))
      go_wp2_with fail
      go_ret
      exact .inl ⟨listT ts, q, _, by simp [rowT, HRD.out], rfl, HL.out, HBR.out, HBT.out, by omega⟩
end Go.Proofs.YtokhindolimchaaGreat

/-
  The program's readPairs, over whatever reads a value.
-/
namespace Go.Proofs.YtokhindolimchaaGreat
open Go.RowKit
set_option linter.unusedSimpArgs false
set_option linter.unusedVariables false

theorem tw_null_text (x : Value) (w : World) : (Instr.typeAssert (.iface 88 x) 54 95 true).run Tryz.prog w = .ok (.tuple #[.agg #[.string ByteArray.empty], .bool false]) w := by kernel_rfl
theorem tw_bool_text (x : Value) (w : World) : (Instr.typeAssert (.iface 90 x) 54 95 true).run Tryz.prog w = .ok (.tuple #[.agg #[.string ByteArray.empty], .bool false]) w := by kernel_rfl
theorem tw_int_text (x : Value) (w : World) : (Instr.typeAssert (.iface 92 x) 54 95 true).run Tryz.prog w = .ok (.tuple #[.agg #[.string ByteArray.empty], .bool false]) w := by kernel_rfl
/-- Is it a text? -/
theorem TreeP.text {P : Nat → Prop} {w : World} {f : Nat} {t : VT} {v : Value} (h : TreeP P w f t v) : (∃ z, textOf t = some z ∧ v = .iface 95 (.agg #[.string z])) ∨ (textOf t = none ∧ ∀ w, (Instr.typeAssert v 54 95 true).run Tryz.prog w = .ok (.tuple #[.agg #[.string ByteArray.empty], .bool false]) w) := by
  cases f with
  | zero => exact h.elim
  | succ f =>
    obtain ⟨kind, n, s, keys, kids⟩ := t
    rcases h with ⟨rfl, _, _, _, _, rfl⟩ | ⟨rfl, _, _, _, rfl⟩ | ⟨rfl, _, _, _, rfl⟩ | ⟨rfl, _, _, _, rfl⟩ | ⟨rfl, _, _, _, _, rfl, _⟩ | ⟨rfl, _, _, _, _, rfl, _⟩
    · exact .inr ⟨rfl, tw_null_text _⟩
    · exact .inr ⟨rfl, tw_bool_text _⟩
    · exact .inr ⟨rfl, tw_int_text _⟩
    · exact .inl ⟨s, rfl, rfl⟩
    · exact .inr ⟨rfl, tw_list_text _⟩
    · exact .inr ⟨rfl, tw_map_text _⟩
theorem getD_vals {xs : List Value} {n j : Nat} {ty : TypeId} {x : Value} (h : xs[j]? = some (.iface ty x)) : xs.getD j .nilIface = .iface ty x := by rw [List.getD_eq_getElem?_getD, h]; rfl
/-- The rows as sortedMap reads them. -/
theorem Its.strs {w wr : World} {f : Nat} {it kv : Value} {ts : List VT} {xs : List Value} {ks : List ByteArray} (h : Its w wr f it kv ts xs ks) (hn : ks.length ≤ 100000) (hz : ∀ i, i < ks.length → (keyAt ks i).size ≤ 100000) : StrsAt wr.heap.size wr kv ks := by
  obtain ⟨a, c, e⟩ := own_slice h.krow
  refine ⟨by omega, fun i hi => by have := hz i hi; omega, a, c, e, fun hp => ?_⟩
  obtain ⟨g, cap, e2, hge, hlt⟩ := h.krow.form hp
  have ea : a = some ⟨g, 0, none⟩ := by rw [e2] at e; injection e with e _ _; exact e.symm
  refine ⟨g, 0, ea, hlt, fun i hi => ?_⟩
  have := h.krow
  rw [e2] at this
  rw [Nat.zero_add, this.cellAt i (by omega), List.getElem?_map, List.getElem?_eq_getElem hi]
  simp [keyAt, hi]
theorem Its.its {w wr : World} {f : Nat} {it kv : Value} {ts : List VT} {xs : List Value} {ks : List ByteArray} (h : Its w wr f it kv ts xs ks) : ItsAt wr it ts.length (fun j => xs.getD j .nilIface) := by
  obtain ⟨a, c, e⟩ := own_slice h.row
  refine ⟨a, c, e, fun hp => ?_⟩
  obtain ⟨g, cap, e2, hge, hlt⟩ := h.row.form hp
  have ea : a = some ⟨g, 0, none⟩ := by rw [e2] at e; injection e with e _ _; exact e.symm
  refine ⟨g, ea, hlt, fun j hj => ?_⟩
  obtain ⟨ty, x, h1, _⟩ := h.trees j hj
  have := h.row
  rw [e2] at this
  have e9 : (fun j => xs.getD j Value.nilIface) j = .iface ty x := getD_vals (n := 0) h1
  rw [this.cellAt j (by omega), h1, e9]
  exact ⟨rfl, ty, x, rfl⟩
theorem keysTo_at {l : List ByteArray} {g : Nat → Int} {n i : Nat} (h : i < n) : (keysTo l g n)[i]? = some (.string (keyAt l (g i).toNat)) := by simp [keysTo, h]
theorem itemsTo_at {V : Nat → Value} {g : Nat → Int} {n i : Nat} (h : i < n) : (itemsTo V g n)[i]? = some (V (g i).toNat) := by simp [itemsTo, h]
/-- The map of what was gathered. -/
theorem Its.map {w wr w' : World} {f : Nat} {it kv k2 i2 : Value} {ts : List VT} {xs : List Value} {ks : List ByteArray} {g : Nat → Int} (h : Its w wr f it kv ts xs ks) (hl : ks.length = ts.length) (hw : w.heap.size ≤ wr.heap.size) (hn : ts.length ≤ 100000) (hz : ∀ i, i < ks.length → (keyAt ks i).size ≤ 100000)
    (hg : Blk (RK ks) (fun p => (p : Int)) g 0 ks.length) (hk : w'.ownsRow wr.heap.size 9 1 k2 ks.length (keysTo ks g ks.length)) (hi : w'.ownsRow wr.heap.size 54 1 i2 ks.length (itemsTo (fun j => xs.getD j .nilIface) g ks.length)) (hb : Below wr.heap.size wr w') :
    TreeP (NewB w w') w' (f + 1) (mapT ks ts) (.iface 116 (.agg #[k2, i2])) := by
  have hsl := srt_len ks
  have hgj : ∀ j, j < ks.length → (g j).toNat = (srt ks).getD j 0 := fun j hj => by rw [blk_at hg hj, Int.toNat_natCast]
  refine .inr (.inr (.inr (.inr (.inr ⟨rfl, rfl, rfl, k2, i2, rfl, ?_, ?_⟩))))
  · obtain ⟨a, c, e⟩ := own_slice hk
    have hat : ∀ j, j < ks.length → keyAt ((srt ks).map (keyAt ks)) j = keyAt ks ((srt ks).getD j 0) := fun j hj => by
      conv => lhs; unfold keyAt
      rw [List.getD_eq_getElem?_getD, List.getElem?_map, List.getElem?_eq_getElem (by omega), List.getD_eq_getElem?_getD (l := srt ks), List.getElem?_eq_getElem (show j < (srt ks).length by omega)]
      rfl
    refine ⟨by rw [List.length_map, hsl]; omega, fun i hi' => ?_, a, c, by rw [List.length_map, hsl]; exact e, fun hp => ?_⟩
    · rw [List.length_map, hsl] at hi'
      rw [hat i hi']
      have := hz _ (srt_lt hi')
      omega
    · rw [List.length_map, hsl] at hp
      obtain ⟨b, cap, e2, hge, hlt⟩ := hk.form hp
      have ea : a = some ⟨b, 0, none⟩ := by rw [e2] at e; injection e with e _ _; exact e.symm
      refine ⟨b, 0, ea, ⟨Nat.le_trans hw hge, hlt⟩, fun i hi' => ?_⟩
      rw [List.length_map, hsl] at hi'
      rw [hat i hi']
      have := hk
      rw [e2] at this
      rw [Nat.zero_add, this.cellAt i (by omega), keysTo_at hi', hgj i hi']
  · rw [List.length_map, hsl]
    obtain ⟨a, c, e⟩ := own_slice hi
    refine ⟨by omega, a, c, e, fun hp => ?_⟩
    obtain ⟨b, cap, e2, hge, hlt⟩ := hi.form hp
    have ea : a = some ⟨b, 0, none⟩ := by rw [e2] at e; injection e with e _ _; exact e.symm
    refine ⟨b, ea, ⟨Nat.le_trans hw hge, hlt⟩, fun j hj => ?_⟩
    have hsj := srt_lt hj
    obtain ⟨ty, x, h1, h2⟩ := h.trees ((srt ks).getD j 0) (by omega)
    refine ⟨ty, x, ?_, ?_⟩
    · have := hi
      rw [e2] at this
      rw [this.cellAt j (by omega), itemsTo_at hj, hgj j hj, getD_vals (n := 0) h1]
    · show TreeP (NewB w w') w' f (kidT ((srt ks).map (kidT ts)) j) (.iface ty x)
      rw [kid_srt hj]
      exact h2.keep (fun b hb' => hb.block b hb'.1.2) (fun b hb' => ⟨hb'.1.1, Nat.lt_of_lt_of_le hb'.1.2 hb.size⟩)

theorem key_snoc_le {ks : List ByteArray} {s : ByteArray} {N : Nat} (h : ∀ i, i < ks.length → (keyAt ks i).size ≤ N) (hs : s.size ≤ N) : ∀ i, i < (ks ++ [s]).length → (keyAt (ks ++ [s]) i).size ≤ N := by
  intro i hi
  rw [List.length_append, List.length_cons, List.length_nil] at hi
  by_cases e : i < ks.length
  · have : keyAt (ks ++ [s]) i = keyAt ks i := by simp [keyAt, List.getElem?_append_left e]
    rw [this]; exact h i e
  · obtain rfl : i = ks.length := by omega
    have : keyAt (ks ++ [s]) ks.length = s := by simp [keyAt]
    rw [this]; exact hs

set_option maxRecDepth 100000 in
set_option maxHeartbeats 6400000 in
theorem readPairs_any (G : FuncId) (L : List UInt8) (R : Nat → Option (VT × Nat)) (f rb : Nat) (s : ByteArray) (hG : GAll G L R f rb s) (hfu : ∀ p t q, R p = some (t, q) → FullT f t) (hTx : ∀ p t q z, R p = some (t, q) → textOf t = some z → z.size ≤ 4000) (hcf : ∀ w, (callFunc G #[.pointer (some ⟨rb, 0, none⟩)]).run Tryz.prog w = .ok (.enter G #[.pointer (some ⟨rb, 0, none⟩)]) w) (n p : Nat) (w : World) (h : BrAt w rb s p) (hf : s.size < p + f) (hn : n ≤ 1000000000000000) (hs : s.size ≤ 4000) :
    Calls Tryz.prog 59 #[.int .i64 n, .func (.func G) #[.pointer (some ⟨rb, 0, none⟩)] #[]] w (RowOr (rowT R true n p) (f + 1) rb s p w) := by
  have H := hideIt h
  have HG := hideIt hG
  have HTX := hideIt hTx
  have HFU := hideIt hfu
  have hrb := h.lt
  obtain ⟨i1, hi1, hz1, hs1, hy1⟩ := info_parts infoV1
  obtain ⟨j1, hj1, hzj, hsj, hyj⟩ := info_parts infoS1
  clear h hG hTx hfu
  go_enter Tryz.func59, Tryz.ntmps59
  go_wp2_with fail
  go_loopw [5, 6, 7, 8, 10] (fun kv it _ _ i wr => ∃ (k q : Nat) (ts : List VT) (xs : List Value) (ks : List ByteArray), k ≤ n ∧ i = .int .i64 k ∧ rdPairs R k p = some (ks, ts, q) ∧ BrAt wr rb s q ∧ But rb w wr ∧ Its w wr f it kv ts xs ks ∧ p + k ≤ q ∧ (∀ i, i < ks.length → (keyAt ks i).size ≤ 4000)) (fun _ _ _ _ i _ => n - (intOf i).toNat)
  case atStart => exact ⟨0, p, [], [], [], Nat.zero_le _, rfl, rfl, H.out, But.refl _ _, Its.nil w f, Nat.le_refl _, fun i hi => absurd hi (by simp)⟩
  case round =>
    obtain ⟨k, q, ts, xs, ks, hk, rfl, hrd, hbr, hbt, hit, hpq, hkz⟩ := hrel
    have HRD := hideIt hrd
    have HBR := hideIt hbr
    have HBT := hideIt hbt
    have HIT := hideIt hit
    have HKZ := hideIt hkz
    have hqs := hbr.le
    obtain ⟨hlk, hlt0, _⟩ := pairs_full HFU.out hrd
    have zr := hbt.size
    obtain ⟨ai, ci, ei⟩ := own_slice hit.row
    obtain ⟨ak, ck, ek⟩ := own_slice hit.krow
    rw [hlt0] at ei
    rw [hlk] at ek
    subst ei ek
    clear hrd hbr hbt hit hkz
    by_cases hlt : k < n
    · have hlt' : (k : Int) < (n : Int) := by omega
      have HC := hideIt (HG.out q wr HBR.out (by omega))
      go_wp2_with fail
      refine HC.out.mono ?_
      rintro e w2 (⟨t, q2, x, hr, rfl, htr, hb2, hbt2, hq2⟩ | ⟨hr, rfl, hbt2⟩)
      · rcases htr.text with ⟨z, hz, rfl⟩ | ⟨hz, htw⟩
        · have hzz := HTX.out q t q2 z hr hz
          have HR1 := hideIt hr
          have HZ := hideIt hz
          have HIT2 := hideIt ((HIT.out.read hbt2 hrb).alloc (.cells #[.string z] 95))
          have HBT2 := hideIt ((HBT.out.trans hbt2).next (((Below.refl _ _).alloc (Nat.le_refl _) (.cells #[.string z] 95)).mono (Nat.le_trans zr hbt2.size)))
          have HBR2 := hideIt (hb2.below ((Below.refl _ _).alloc (Nat.le_refl _) (.cells #[.string z] 95)))
          have z2 := hbt2.size
          have t4 := tw_text_text
          clear htr hr hz hb2 hbt2
          have HRO : Hid ((w2.alloc (.cells #[.string z] 95)).ownsRow w.heap.size 9 1 (.slice ak k ck) k (ks.map Value.string)) := by have := HIT2.out.krow; rw [hlk] at this; exact this
          have HLK : Hid (∀ b, (Value.slice ak k ck).ownBlock = some b → w.heap.size ≤ b ∧ b < wr.heap.size) := fun b hb' => HIT.out.krow.lt b hb'
          have HLI : Hid (∀ b, (Value.slice ai k ci).ownBlock = some b → w.heap.size ≤ b ∧ b < wr.heap.size) := fun b hb' => HIT.out.row.lt b hb'
          go_wp2_with (at_builtin; refine wpList_append_own_at _ rfl _ _ 37 rfl w.heap.size 9 j1 (.string ByteArray.empty) 1 16 Tryz.underlying37 hj1 hzj hsj hyj rfl (by decide) _ _ _ rfl (HRO.out.alloc _) ⟨w2.heap.size + 1, 0, none⟩ 1 1 [.string z] rfl rfl ?c1 ?c2 ?c3 ?c4 ?c5 ?_)
          case c1 => have := cell_one_new (w2.alloc (.cells #[.string z] 95)) (.string z) 9; simpa using this
          case c2 => intro u hu; simp at hu; subst hu; rfl
          case c3 => unfold maxLen; omega
          case c4 => omega
          case c5 => simp; omega
          intro v' w5 hown hgrow _ hat
          have HIT5 := hideIt (HIT2.out.key (s := z) (by rw [hlk]; exact hown) (by exact hgrow) (by simpa using hat))
          have hga := (World.grownBy_alloc (w2.alloc (.cells #[.string z] 95)) (.cells #[.string z] 9) (Value.slice ak k ck).ownBlock).trans hgrow
          have HBT5 := hideIt (HBT2.out.grown (base := 0) hga (fun x hx => (HLK.out x hx).1))
          have HBR5 := hideIt (HBR2.out.grown (w := w) hga (fun x hx => by have := (HLK.out x hx).1; omega))
          have z5 := hga.size
          have HKB : Hid (∀ b, v'.ownBlock = some b → b < w5.heap.size) := fun b hb' => (hown.lt b hb').2
          obtain ⟨ak5, ck5, ek5⟩ := own_slice hown
          subst ek5
          clear hown hgrow hat hga
          go_wp2_with fail
          refine (HG.out q2 w5 HBR5.out (by omega)).mono ?_
          rintro e w6 (⟨u, q3, y, hr2, rfl, htr2, hb6, hbt6, hq3⟩ | ⟨hr2, rfl, hbt6⟩)
          · obtain ⟨ty, yy, rfl⟩ := htr2.iface
            have HTR := hideIt htr2
            have HRD2 := hideIt (pairs_snoc HRD.out HR1.out HZ.out hr2)
            have HIT6 := hideIt (HIT5.out.read hbt6 hrb)
            have HBT6 := hideIt (HBT5.out.trans hbt6)
            have HBR6 := hideIt hb6
            have z6 := hbt6.size
            have HRO2 : Hid (w6.ownsRow w.heap.size 54 1 (.slice ai k ci) k xs) := by have := HIT6.out.row; rw [hlt0] at this; exact this
            have HKZ2 := hideIt (key_snoc_le HKZ.out hzz)
            clear htr2 hr2 hb6 hbt6
            have hz52 : wr.heap.size ≤ w5.heap.size := by simp at z5; omega
            go_wp2_with (at_builtin; refine wpList_append_own_at _ rfl _ _ 104 rfl w.heap.size 54 i1 .nilIface 1 16 Tryz.underlying104 hi1 hz1 hs1 hy1 rfl (by decide) _ _ _ rfl (HRO2.out.alloc _) ⟨w6.heap.size, 0, none⟩ 1 1 [.iface ty yy] rfl rfl ?c1 ?c2 ?c3 ?c4 ?c5 ?_)
            case c1 => exact cell_one_new _ _ _
            case c2 => intro u hu; simp at hu; subst hu; rfl
            case c3 => unfold maxLen; omega
            case c4 => omega
            case c5 => simp; omega
            intro v6 w7 hown hgrow _ hat
            have HIT7 := hideIt (HIT6.out.item (wr := w5) (Nat.le_trans zr hz52) (fun b hb' => Nat.lt_of_lt_of_le (HLI.out b (by rw [← hb'])).2 hz52) (fun b hb' => HKB.out b hb') HTR.out (by rw [hlt0]; exact hown) (by exact hgrow) (by exact hat))
            have hga := (World.grownBy_alloc w6 (.cells #[.iface ty yy] 54) (Value.slice ai k ci).ownBlock).trans hgrow
            have HBT7 := hideIt (HBT6.out.grown (base := 0) hga (fun x hx => (HLI.out x hx).1))
            have HBR7 := hideIt (HBR6.out.grown (w := w) hga (fun x hx => by have := (HLI.out x hx).1; omega))
            clear hown hgrow hat hga
            go_wp2_with fail
            go_roundw
            case rel => exact ⟨k + 1, q3, _, _, _, by omega, by go_num, HRD2.out, HBR7.out, HBT7.out, HIT7.out, by omega, HKZ2.out⟩
            case measure => simp [intOf]; omega
          · have HST := hideIt (pairs_stop HRD.out (.inr ⟨t, q2, HR1.out, .inr hr2⟩) hlt)
            have HB2 := hideIt (HBT5.out.trans hbt6)
            clear hr2 hbt6
            unfold gup
            go_wp2_with fail
            exact ⟨rfl, .inr ⟨by simp [rowT, HST.out], rfl, HB2.out⟩⟩
        · have HST := hideIt (pairs_stop HRD.out (.inr ⟨t, q2, hr, .inl hz⟩) hlt)
          obtain ⟨ty, xx, rfl⟩ := htr.iface
          have HB2 := hideIt ((HBT.out.trans hbt2).next (((Below.refl _ _).alloc (Nat.le_refl _) (.cells #[.string ⟨#[]⟩] 95)).mono (Nat.le_trans zr hbt2.size)))
          clear hr hz htr hb2 hbt2
          go_wp2_with fail
          exact ⟨rfl, .inr ⟨by simp [rowT, HST.out], rfl, HB2.out⟩⟩
      · have HST := hideIt (pairs_stop HRD.out (.inl hr) hlt)
        have HB2 := hideIt (HBT.out.trans hbt2)
        clear hr hbt2
        unfold gup
        go_wp2_with fail
        exact ⟨rfl, .inr ⟨by simp [rowT, HST.out], rfl, HB2.out⟩⟩
    · obtain rfl : k = n := by omega
      have hk4 : k ≤ 4000 := by omega
      have HS := hideIt (HIT.out.strs (by omega) (fun i hi => by have := HKZ.out i hi; omega))
      have HI : Hid (ItsAt wr (.slice ai k ci) ks.length (fun j => xs.getD j .nilIface)) := by have := HIT.out.its; rw [hlt0, ← hlk] at this; rw [← hlk]; exact this
      go_wp2_with fail
      refine (sortedMap_any wr.heap.size _ _ ks _ wr HS.out HI.out (Nat.le_refl _) (by omega)).mono ?_
      rintro e w2 ⟨g, k2, i2, rfl, hg, hok, hoi, hb2⟩
      have HM := hideIt (HIT.out.map (by omega) zr (by omega) (fun i hi => by have := HKZ.out i hi; omega) hg hok hoi hb2)
      have HB2 := hideIt (HBT.out.next (hb2.mono zr))
      have HR2 := hideIt (HBR.out.below hb2)
      clear hg hok hoi hb2
      go_wp2_with fail
      go_ret
      exact .inl ⟨mapT ks ts, q, _, by simp [rowT, HRD.out], rfl, HM.out, HR2.out, HB2.out, by omega⟩
end Go.Proofs.YtokhindolimchaaGreat
