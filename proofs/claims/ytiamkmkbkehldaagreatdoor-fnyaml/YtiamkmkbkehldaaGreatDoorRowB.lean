/-
  append of a slice that came in, nil or not, onto a row of one's own: what the row is then, and where it lies.
-/
import Derived.Test.YtiamkmkbkehldaaGreatDoorNest
import Derived.Maps.AppendAt
import Derived.Laws.OwnMore
import Derived.Test.YtiamkmkbkehldaaGreatDoorPhase
import Derived.Test.YtiamkmkbkehldaaGreatDoorSpc3
import Derived.Test.YtiamkmkbkehldaaGreatDoorVal
import Derived.Test.YtiamkmkbkehldaaGreatDoorMarkM
import Derived.Test.YtiamkmkbkehldaaGreatDoorPure
import Derived.Lib.ItoaNum
import Derived.Lib.ItoaLen
import Derived.Test.YtiamkmkbkehldaaGreatDoorProg
import Derived.WideShapes
import Derived.Below
import Derived.Lib.FrozenHead
namespace Go.Proofs.YtiamkmkbkehldaaGreatDoor
open Go.RowKit
set_option linter.unusedSimpArgs false
set_option linter.unusedVariables false

theorem run_append_none_any {P : Program} {w : World} (base : Nat) (t ty e : TypeId) (i : TypeInfo) (size c : Nat) (ht : P.underlying t = some (.slice e)) (hi : P.info? e = some i)
    (v : Value) (n : Nat) (xs : List Value) (hown : w.ownsRow base e size v n xs) :
    (Builtin.append_ #[t, t] ty #[v, .slice none 0 c]).run P w = .ok v w := by
  rcases hown.2 with ⟨rfl, rfl⟩ | ⟨g, cap, cur, rfl, _, _, hnc, _⟩
  · simp [Builtin.append_, run_underlying ht, sizeOf, typeInfo, hi, Builtin.lenOf, Builtin.firstCells]
  · simp [Builtin.append_, run_underlying ht, sizeOf, typeInfo, hi, Builtin.lenOf, Builtin.firstCells, hnc, storeCells]

theorem wpList_append_src {P : Program} {w : World} {ops : Array Oper} {rest : List Oper} {o : Oper} {a : Act} {Q : Exit → Act → World → Prop} (hgd : o.guard = none) (s x : Operand) (t : TypeId)
    (ho : o.op = .call { callee := .builtin .append, args := #[s, x], argTypes := #[t, t] })
    (base : Nat) (e : TypeId) (i : TypeInfo) (z : Value) (size bytes : Nat) (ht : P.underlying t = some (.slice e)) (hi : P.info? e = some i) (hz : i.zero = some z)
    (hsize : i.size = size) (hby : i.bytes = bytes) (hzs : z.cells.size = size) (hsz : 0 < size)
    (v : Value) (n : Nat) (xs : List Value) (hs : a.eval s = v) (hown : w.ownsRow base e size v n xs)
    (ax : Option Addr) (m c : Nat) (news : List Value) (hx : a.eval x = .slice ax m c) (hl : news.length = m * size) (hsrc : 0 < m → ∃ ad, ax = some ad ∧ ∀ j u, news[j]? = some u → w.cell? (ad.add j) = some u) (h1 : ∀ u ∈ news, u.oneCell' = true)
    (h63 : n + m ≤ maxLen) (hbytes : (n + m) * bytes ≤ 140737488355328) (hbase : base ≤ w.heap.size)
    (h : ∀ v' w', w'.ownsRow base e size v' (n + m) (xs ++ news) → w.grownBy w' v.ownBlock → (v'.ownBlock = v.ownBlock ∨ v'.ownBlock = some w.heap.size) → wpList P ops Q rest (a.put o.dst v') w') : wpList P ops Q (o :: rest) a w := by
  rcases Nat.eq_zero_or_pos m with e0 | e0
  · subst e0
    obtain rfl : news = [] := List.eq_nil_of_length_eq_zero (by simpa using hl)
    cases ax with
    | none =>
      refine wpList_plain hgd fun K hK => ?_
      have hrun := run_append_none_any (P := P) (w := w) base t o.type e i size c ht hi v n xs hown
      unfold Oper.wp
      simp [execOp, ho, resolve, invoke, builtin, hs, hx, hrun, Result.andThen]
      exact hK _ _ (h v w (by simpa using hown) ⟨rfl, rfl, rfl, Nat.le_refl _, fun _ _ _ => rfl⟩ (Or.inl rfl))
    | some ad =>
      exact wpList_append_own_at w hgd s x t ho base e i z size bytes ht hi hz hsize hby hzs hsz v n xs hs hown ad 0 c [] hx hl (fun j u hj => by simp at hj) h1 h63 hbytes hbase (fun v' w' h2 h3 _ h5 => h v' w' h2 h3 h5)
  · obtain ⟨ad, rfl, hc⟩ := hsrc e0
    exact wpList_append_own_at w hgd s x t ho base e i z size bytes ht hi hz hsize hby hzs hsz v n xs hs hown ad m c news hx hl hc h1 h63 hbytes hbase (fun v' w' h2 h3 _ h5 => h v' w' h2 h3 h5)
end Go.Proofs.YtiamkmkbkehldaaGreatDoor

/-
  The specification's part of a value: nodes from the part's first on, in new memory.
-/
namespace Go.Proofs.YtiamkmkbkehldaaGreatDoor
open Go.RowKit
set_option linter.unusedSimpArgs false
set_option linter.unusedVariables false

theorem own_below {w w' : World} {base e s n : Nat} {v : Value} {xs : List Value} {B : Nat} (h : w.ownsRow base e s v n xs) (hb : Below B w w') (hB : ∀ x, v.ownBlock = some x → x < B) : w'.ownsRow base e s v n xs := by
  refine ⟨h.1, ?_⟩
  rcases h.2 with hn | ⟨g, cap, cur, rfl, hg, hgg, rest⟩
  · exact .inl hn
  · exact .inr ⟨g, cap, cur, rfl, hg, (hb.block g (hB g rfl)).trans hgg, rest⟩

theorem Nest.below {base : Nat} {w w' : World} {v : Value} {vs : List VN} {KV IV : Nat → Value} (h : Nest base w v vs KV IV) (hb : Below w.heap.size w w') : Nest base w' v vs KV IV :=
  ⟨own_below h.row hb (fun x hx => (h.row.lt x hx).2), fun i hi => own_below (h.rk i hi) hb (fun x hx => ((h.rk i hi).lt x hx).2), fun i hi => own_below (h.ri i hi) hb (fun x hx => ((h.ri i hi).lt x hx).2), h.dkk, h.dii⟩

theorem own_mono {w : World} {base base' e s n : Nat} {v : Value} {xs : List Value} (h : w.ownsRow base e s v n xs) (hb : base' ≤ base) : w.ownsRow base' e s v n xs := by
  refine ⟨h.1, ?_⟩
  rcases h.2 with hn | ⟨g, cap, cur, rfl, hg, rest⟩
  · exact .inl hn
  · exact .inr ⟨g, cap, cur, rfl, by omega, rest⟩

theorem own_set {w : World} {base e s n : Nat} {v : Value} {xs : List Value} (h : w.ownsRow base e s v n xs) {b o : Nat} (u : Value) (hne : ∀ x, v.ownBlock = some x → x ≠ b) : (w.setCell ⟨b, o, none⟩ u).ownsRow base e s v n xs := by
  refine ⟨h.1, ?_⟩
  rcases h.2 with hn | ⟨g, cap, cur, rfl, hg, hgg, rest⟩
  · exact .inl hn
  · exact .inr ⟨g, cap, cur, rfl, hg, (Below.heap_setCell w _ u g (hne g rfl)).trans hgg, rest⟩

def shifted (l : List Int) (d : Int) (k : Nat) : List Value := (l.take k).map (fun q => .int .i64 (q + d))
theorem own_slice {w : World} {base e s n : Nat} {v : Value} {xs : List Value} (h : w.ownsRow base e s v n xs) : ∃ a c, v = .slice a n c := by
  rcases h.2 with ⟨rfl, rfl⟩ | ⟨g, cap, cur, rfl, _⟩
  · exact ⟨_, _, rfl⟩
  · exact ⟨_, _, rfl⟩

end Go.Proofs.YtiamkmkbkehldaaGreatDoor

/-
  A part's nodes: plain mathematics.
-/
namespace Go.Proofs.YtiamkmkbkehldaaGreatDoor
open Go.RowKit
set_option linter.unusedSimpArgs false
set_option linter.unusedVariables false

/-- The part's nodes. -/
def partOf (vs : List VN) (n : Nat) : List VN := run vs (-(trF (tr (kidsOf vs) n))) (trF (tr (kidsOf vs) n)).toNat (n + 1 - (trF (tr (kidsOf vs) n)).toNat)

theorem keys_few {vs : List VN} (h : okB vs = true) : ∀ k, k < vs.length → kidsIn vs k = true ∧ (nodeAt vs k).kids.length ≤ 80 ∧ (nodeAt vs k).keys.length ≤ 80 := by
  intro k hk
  obtain ⟨h1, h2, _, h4⟩ := okB_parts h
  have hn := h2 k hk
  have := h4 k hk
  refine ⟨hn.2, by omega, ?_⟩
  by_cases e : (nodeAt vs k).kind = 6
  · have hb := hn.1
    unfold nodeB namedB at hb
    simp [e] at hb
    omega
  · have hb := hn.1
    unfold nodeB unnamedB at hb
    simp [e] at hb
    have := hb.1.1.2
    simp [this]

theorem lay_part {vs : List VN} (hok : okB vs = true) {f m : Nat} (hf : m < f) (hm : m < vs.length) : layT f (treeOf vs f m) 0 = partOf vs m ∧ (partOf vs m).length ≤ 80 := by
  obtain ⟨p1, _, p3, _⟩ := okB_parts hok
  obtain ⟨⟨a0, h0⟩, htr⟩ := p3 m hm
  have e : partOf vs m = run vs (-(a0 : Int)) a0 (m + 1 - a0) := by rw [partOf, htr]; simp [trF]
  rw [← lay_tree, lay_run vs f m 0 a0 h0 hf htr, e]
  exact ⟨by simp, by rw [run_length]; omega⟩

end Go.Proofs.YtiamkmkbkehldaaGreatDoor

/-
  Plain: MessagePack's bytes of a tree.
-/
namespace Go.Proofs.YtiamkmkbkehldaaGreatDoor
open Go.RowKit
set_option linter.unusedSimpArgs false
set_option linter.unusedVariables false

/-- What a right node says. -/
theorem node_says {vs : List VN} (hok : okB vs = true) {i : Nat} (hi : i < vs.length) :
    (nodeAt vs i).kind = 1 ∨ ((nodeAt vs i).kind = 2 ∧ 0 ≤ (nodeAt vs i).n ∧ (nodeAt vs i).n ≤ 1) ∨ ((nodeAt vs i).kind = 3 ∧ -1000000000000000 ≤ (nodeAt vs i).n ∧ (nodeAt vs i).n ≤ 1000000000000000) ∨ ((nodeAt vs i).kind = 4 ∧ (nodeAt vs i).s.size ≤ 60) ∨
    ((nodeAt vs i).kind = 5) ∨ ((nodeAt vs i).kind = 6 ∧ (nodeAt vs i).keys.length = (nodeAt vs i).kids.length ∧ ∀ j, j < (nodeAt vs i).keys.length → (keyAt (nodeAt vs i).keys j).size ≤ 60) := by
  obtain ⟨p1, p2, _, p4⟩ := okB_parts hok
  have hn := (p2 i hi).1
  unfold nodeB namedB at hn
  simp only [Bool.and_eq_true] at hn
  have h2 := hn.2
  by_cases k1 : (nodeAt vs i).kind = 1
  · exact Or.inl k1
  by_cases k2 : (nodeAt vs i).kind = 2
  · simp [k2] at h2; exact Or.inr (Or.inl ⟨k2, by omega, by omega⟩)
  by_cases k3 : (nodeAt vs i).kind = 3
  · simp [k3] at h2; exact Or.inr (Or.inr (Or.inl ⟨k3, by omega, by omega⟩))
  by_cases k4 : (nodeAt vs i).kind = 4
  · simp [k4, textB] at h2; exact Or.inr (Or.inr (Or.inr (Or.inl ⟨k4, h2.1⟩)))
  by_cases k5 : (nodeAt vs i).kind = 5
  · exact Or.inr (Or.inr (Or.inr (Or.inr (Or.inl k5))))
  by_cases k6 : (nodeAt vs i).kind = 6
  · simp [k6] at h2
    refine Or.inr (Or.inr (Or.inr (Or.inr (Or.inr ⟨k6, h2.1, fun j hj => ?_⟩))))
    have := List.all_eq_true.1 h2.2 j (List.mem_range.2 hj)
    unfold riseAt at this
    simp [textB] at this
    exact this.1.1
  simp [k1, k2, k3, k4, k5, k6] at h2
end Go.Proofs.YtiamkmkbkehldaaGreatDoor

/-
  Plain: JSON's bytes of a tree, in one line or in lines.
-/
namespace Go.Proofs.YtiamkmkbkehldaaGreatDoor
open Go.RowKit
set_option linter.unusedSimpArgs false
set_option linter.unusedVariables false

/-- Where a line begins. -/
def lineJ (lines : Bool) (deep : Nat) : List UInt8 := if lines = true then 10 :: List.replicate (2 * deep) 32 else []
def keyJ (lines : Bool) (key : ByteArray) : List UInt8 := quoT key ++ 58 :: (if lines = true then [32] else [])
/-- The first 'k' parts. -/
def partsJ (F : VT → List UInt8) (lines named : Bool) (deep : Nat) (keys : List ByteArray) (kids : List VT) : Nat → List UInt8
  | 0 => []
  | k + 1 => partsJ F lines named deep keys kids k ++ (if k = 0 then [] else [44]) ++ lineJ lines (deep + 1) ++ (if named = true then keyJ lines (keyAt keys k) else []) ++ F (kidT kids k)
def wholeJ (F : VT → List UInt8) (lines named : Bool) (deep : Nat) (keys : List ByteArray) (kids : List VT) : List UInt8 :=
  if kids.length = 0 then [] else partsJ F lines named deep keys kids kids.length ++ lineJ lines deep
def jsonT (lines : Bool) : Nat → Nat → VT → List UInt8
  | 0, _, _ => []
  | f + 1, deep, .mk kind n s keys kids =>
    if kind = 1 then [110, 117, 108, 108] else if kind = 2 then (if n = 1 then [116, 114, 117, 101] else [102, 97, 108, 115, 101]) else if kind = 3 then Lib.itoa n else if kind = 4 then quoT s
    else if kind = 5 then 91 :: (wholeJ (jsonT lines f (deep + 1)) lines false deep keys kids ++ [93])
    else 123 :: (wholeJ (jsonT lines f (deep + 1)) lines true deep keys kids ++ [125])
theorem jsonT_leaf (lines : Bool) (f deep : Nat) {kind n : Int} {s : ByteArray} {keys : List ByteArray} {kids : List VT} :
    (kind = 1 → jsonT lines (f + 1) deep (.mk kind n s keys kids) = [110, 117, 108, 108]) ∧ (kind = 2 → jsonT lines (f + 1) deep (.mk kind n s keys kids) = if n = 1 then [116, 114, 117, 101] else [102, 97, 108, 115, 101]) ∧ (kind = 3 → jsonT lines (f + 1) deep (.mk kind n s keys kids) = Lib.itoa n) ∧ (kind = 4 → jsonT lines (f + 1) deep (.mk kind n s keys kids) = quoT s) ∧
    (kind = 5 → jsonT lines (f + 1) deep (.mk kind n s keys kids) = 91 :: (wholeJ (jsonT lines f (deep + 1)) lines false deep keys kids ++ [93])) ∧ (kind = 6 → jsonT lines (f + 1) deep (.mk kind n s keys kids) = 123 :: (wholeJ (jsonT lines f (deep + 1)) lines true deep keys kids ++ [125])) := by
  refine ⟨?_, ?_, ?_, ?_, ?_, ?_⟩ <;> (intro h; subst h; rw [jsonT]; simp)
theorem lineJ_len (lines : Bool) (deep : Nat) : (lineJ lines deep).length ≤ 2 * deep + 1 := by
  unfold lineJ; split <;> simp
theorem keyJ_len (lines : Bool) (key : ByteArray) : (keyJ lines key).length ≤ 6 * key.size + 4 := by
  have := (quoT_len key).2
  unfold keyJ; rw [List.length_append, List.length_cons]; split <;> simp <;> omega
theorem partsJ_mono (F : VT → List UInt8) (lines named : Bool) (deep : Nat) (keys : List ByteArray) (kids : List VT) {j k : Nat} (h : j ≤ k) : (partsJ F lines named deep keys kids j).length ≤ (partsJ F lines named deep keys kids k).length := by
  induction k with
  | zero => obtain rfl : j = 0 := by omega
            exact Nat.le_refl _
  | succ k ih =>
    by_cases e : j = k + 1
    · subst e; exact Nat.le_refl _
    · have := ih (by omega)
      rw [partsJ]; simp only [List.length_append]; omega
end Go.Proofs.YtiamkmkbkehldaaGreatDoor

/-
  Plain: how long JSON's bytes of a right tree are.
-/
namespace Go.Proofs.YtiamkmkbkehldaaGreatDoor
open Go.RowKit
set_option linter.unusedSimpArgs false
set_option linter.unusedVariables false

theorem dec_pos (u : Nat) : 1 ≤ (Lib.decDigits u).length := by
  rw [Lib.decDigits]
  split <;> simp
theorem itoa_pos (n : Int) : 1 ≤ (Lib.itoa n).length := by
  unfold Lib.itoa
  split
  · simp
  · exact dec_pos _
/-- No more than so many bytes a node. -/
theorem jsonT_le {vs : List VN} (hok : okB vs = true) (lines : Bool) : ∀ (f deep i : Nat) (sh : Nat), i < vs.length → i < f → deep + i ≤ 100 → (jsonT lines f deep (treeOf vs f i)).length + 600 ≤ 1200 * (layT f (treeOf vs f i) sh).length := by
  intro f
  induction f with
  | zero => intro deep i sh hi hf; omega
  | succ f ih =>
    intro deep i sh hi hf hd
    rw [treeOf]
    have hl := jsonT_leaf lines f deep (kind := (nodeAt vs i).kind) (n := (nodeAt vs i).n) (s := (nodeAt vs i).s) (keys := (nodeAt vs i).keys) (kids := (nodeAt vs i).kids.map fun k => treeOf vs f k.toNat)
    rw [layT_eq]
    have hkid : ∀ (named : Bool), (named = true → ∀ j, j < (nodeAt vs i).kids.length → (keyAt (nodeAt vs i).keys j).size ≤ 60) → ∀ k, k ≤ (nodeAt vs i).kids.length →
        (partsJ (jsonT lines f (deep + 1)) lines named deep (nodeAt vs i).keys ((nodeAt vs i).kids.map fun k => treeOf vs f k.toNat) k).length ≤ 1200 * (accT f sh ((nodeAt vs i).kids.map fun k => treeOf vs f k.toNat) k).length := by
      intro named hkey k
      induction k with
      | zero => intro _; simp [partsJ]
      | succ k ihk =>
        intro hk
        have h1 := ihk (by omega)
        rw [partsJ, accT_succ f sh (by rw [List.length_map]; omega)]
        simp only [List.length_append]
        rw [kidT_map (by omega)]
        obtain ⟨_, p2, _, _⟩ := okB_parts hok
        have hki := kidsIn_get (p2 i hi).2 (j := k) (by omega)
        have h2 := ih (deep + 1) (intAt (nodeAt vs i).kids k).toNat (sh + (accT f sh ((nodeAt vs i).kids.map fun k => treeOf vs f k.toNat) k).length) (by omega) (by omega) (by omega)
        have h3 : (if named = true then keyJ lines (keyAt (nodeAt vs i).keys k) else []).length ≤ 364 := by
          cases named
          · simp
          · have := keyJ_len lines (keyAt (nodeAt vs i).keys k)
            have := hkey rfl k (by omega)
            simp only [if_true]; omega
        have h4 : (if k = 0 then ([] : List UInt8) else [44]).length ≤ 1 := by split <;> simp
        have h5 := lineJ_len lines (deep + 1)
        omega
    have hw : ∀ (named : Bool), (named = true → ∀ j, j < (nodeAt vs i).kids.length → (keyAt (nodeAt vs i).keys j).size ≤ 60) →
        (wholeJ (jsonT lines f (deep + 1)) lines named deep (nodeAt vs i).keys ((nodeAt vs i).kids.map fun k => treeOf vs f k.toNat)).length ≤ 1200 * (accT f sh ((nodeAt vs i).kids.map fun k => treeOf vs f k.toNat) (nodeAt vs i).kids.length).length + 201 := by
      intro named hkey
      have h1 := hkid named hkey _ (Nat.le_refl _)
      have h2 := lineJ_len lines deep
      unfold wholeJ
      rw [List.length_map]
      split
      · simp
      · rw [List.length_append]; omega
    simp only [List.length_append, List.length_cons, List.length_nil, List.length_map]
    rcases node_says hok hi with k | ⟨k, _⟩ | ⟨k, h1, h2⟩ | ⟨k, hs⟩ | k | ⟨k, hkk, hks⟩
    · rw [hl.1 k]; simp; omega
    · rw [hl.2.1 k]; split <;> (simp; omega)
    · rw [hl.2.2.1 k]; have := Lib.itoa_length_le (nodeAt vs i).n (by omega) (by omega); omega
    · rw [hl.2.2.2.1 k]; have := (quoT_len (nodeAt vs i).s).2; omega
    · rw [hl.2.2.2.2.1 k]
      have h2 := hw false (by simp)
      simp only [List.length_append, List.length_cons, List.length_nil] at h2 ⊢
      omega
    · rw [hl.2.2.2.2.2 k]
      have h2 := hw true (fun _ j hj => hks j (by omega))
      simp only [List.length_append, List.length_cons, List.length_nil] at h2 ⊢
      omega
end Go.Proofs.YtiamkmkbkehldaaGreatDoor

/-
  Plain: numbers, texts and keys of a tree within their bounds.
-/
namespace Go.Proofs.YtiamkmkbkehldaaGreatDoor
open Go.RowKit
set_option linter.unusedSimpArgs false
set_option linter.unusedVariables false

/-- Numbers, texts and keys of a tree within their bounds. -/
def TFit : Nat → VT → Prop
  | 0, _ => True
  | f + 1, .mk kind n s keys kids => (kind = 2 → 0 ≤ n ∧ n ≤ 1) ∧ (kind = 3 → -1000000000000000 ≤ n ∧ n ≤ 1000000000000000) ∧ (kind = 4 → s.size ≤ 60) ∧ kids.length ≤ 80 ∧ (kind = 6 → keys.length = kids.length ∧ ∀ j, j < keys.length → (keyAt keys j).size ≤ 60) ∧ ∀ j, j < kids.length → TFit f (kidT kids j)
theorem tfit_of {vs : List VN} (hok : okB vs = true) : ∀ (f i : Nat), i < vs.length → TFit f (treeOf vs f i) := by
  intro f
  induction f with
  | zero => intro i _; trivial
  | succ f ih =>
    intro i hi
    rw [treeOf]
    have hs := node_says hok hi
    have hk := (keys_few hok i hi)
    refine ⟨fun k => ?_, fun k => ?_, fun k => ?_, by rw [List.length_map]; exact hk.2.1, fun k => ?_, fun j hj => ?_⟩
    · rcases hs with h | ⟨h, a, b⟩ | ⟨h, a, b⟩ | ⟨h, a⟩ | h | ⟨h, a, b⟩ <;> first | exact ⟨a, b⟩ | omega
    · rcases hs with h | ⟨h, a, b⟩ | ⟨h, a, b⟩ | ⟨h, a⟩ | h | ⟨h, a, b⟩ <;> first | omega | exact ⟨a, b⟩
    · rcases hs with h | ⟨h, a, b⟩ | ⟨h, a, b⟩ | ⟨h, a⟩ | h | ⟨h, a, b⟩ <;> first | omega | exact a
    · rcases hs with h | ⟨h, a, b⟩ | ⟨h, a, b⟩ | ⟨h, a⟩ | h | ⟨h, a, b⟩ <;> first | omega | exact ⟨by rw [List.length_map]; exact a, b⟩
    · rw [List.length_map] at hj
      rw [kidT_map hj]
      obtain ⟨_, p2, _, _⟩ := okB_parts hok
      have hki := kidsIn_get (p2 i hi).2 hj
      exact ih _ (by omega)

end Go.Proofs.YtiamkmkbkehldaaGreatDoor

/-
  Rows of bytes laid by appending.
-/
namespace Go.Proofs.YtiamkmkbkehldaaGreatDoor
open Go.RowKit Go.WideShapes
set_option linter.unusedSimpArgs false
set_option linter.unusedVariables false

/-- 'v' is a row of one's own (its memory from block 'base' on) that holds the bytes 'l'. -/
def RowB (base : Nat) (w : World) (v : Value) (l : List UInt8) : Prop := w.ownsRow base 5 1 v l.length (Lib.byteCells l)
theorem RowB.slice {base : Nat} {w : World} {v : Value} {l : List UInt8} (h : RowB base w v l) : ∃ a c, v = .slice a l.length c := by
  rcases h.2 with ⟨rfl, h0⟩ | ⟨g, cap, cur, rfl, _⟩
  · rw [h0]; exact ⟨_, _, rfl⟩
  · exact ⟨_, _, rfl⟩
theorem info_byte : (Tryz.prog.info? 5).map (fun i => (i.zero, i.size, i.bytes)) = some (some (.int .u8 0), 1, 1) := by kernel_rfl
theorem info_three {P : Program} {t : TypeId} {z : Option Value} {s b : Nat} (h : (P.info? t).map (fun i => (i.zero, i.size, i.bytes)) = some (z, s, b)) : ∃ i, P.info? t = some i ∧ i.zero = z ∧ i.size = s ∧ i.bytes = b := by
  cases hi : P.info? t with
  | none => simp [hi] at h
  | some i => simp [hi] at h; exact ⟨i, rfl, h.1, h.2.1, h.2.2⟩
theorem byte_new (w : World) (c : UInt8) : ∀ j u, [Value.int .u8 (c.toNat : Int)][j]? = some u → (w.alloc (.cells #[.int .u8 (c.toNat : Int)] 5)).cell? ((⟨w.heap.size, 0, none⟩ : Addr).add j) = some u := by
  intro j u hj
  match j, hj with
  | 0, hj => simp at hj; subst hj; simp [Addr.add]
theorem row_end {base : Nat} {w w' : World} {v v' : Value} {l : List UInt8} {c : UInt8} (hbase : base ≤ w.heap.size) (hrow : RowB base w v l)
    (hown : w'.ownsRow base 5 1 v' (l.length + 1) (Lib.byteCells l ++ [.int .u8 (c.toNat : Int)])) (hgrow : (w.alloc (.cells #[.int .u8 (c.toNat : Int)] 5)).grownBy w' v.ownBlock) : RowB base w' v' (l ++ [c]) ∧ Below base w w' := by
  refine ⟨?_, ?_⟩
  · unfold RowB
    have e : Lib.byteCells (l ++ [c]) = Lib.byteCells l ++ [.int .u8 (c.toNat : Int)] := by simp [Lib.byteCells]
    rw [e, List.length_append]
    exact hown
  · exact ((Below.refl base w).alloc hbase _).grown hgrow (by simp; omega) (fun k hk => (hrow.lt k hk).1)
/-- string(row) -/
theorem RowB.text {base : Nat} {w : World} {a : Option Addr} {cap : Nat} {l : List UInt8} {n : Nat} (hn : l.length = n) (h : RowB base w (.slice a n cap) l) :
    (convert 22 9 (.slice a n cap)).run Tryz.prog w = .ok (.string (txt l)) w := by
  subst hn
  rcases h.2 with ⟨hv, h0⟩ | ⟨g, cap', cur, hv, _⟩
  · obtain rfl : l = [] := List.eq_nil_of_length_eq_zero h0
    cases hv
    kernel_rfl
  · cases hv
    exact run_convert_bytes_back (P := Tryz.prog) w 22 9 5 ⟨g, 0, none⟩ cap l Tryz.underlying22 Tryz.underlying5 Tryz.underlying9 (fun j hj => h.cells rfl j _ (by simp [Lib.byteCells, hj]))
theorem RowB.drew {base : Nat} {w : World} {v : Value} {l : List UInt8} (h : RowB base w v l) : RowB base w.drew v l := h
theorem RowB.below {base : Nat} {w w' : World} {v : Value} {l : List UInt8} (h : RowB base w v l) (hb : Below w.heap.size w w') : RowB base w' v l := by
  refine ⟨h.1, ?_⟩
  rcases h.2 with ⟨hv, h0⟩ | ⟨g, cap, cur, hv, h1, h2, h3⟩
  · exact .inl ⟨hv, h0⟩
  · refine .inr ⟨g, cap, cur, hv, h1, ?_, h3⟩
    rw [hb.block g ?_]
    · exact h2
    · rcases Nat.lt_or_ge g w.heap.size with h' | h'
      · exact h'
      · rw [Array.getElem?_eq_none h'] at h2; cases h2
end Go.Proofs.YtiamkmkbkehldaaGreatDoor
