/-
  Plain: JSON's bytes of a tree, in one line or in lines.
-/
import Derived.Test.YtehihemfepbmfaaGreatDoorPkP
import Derived.Test.YtehihemfepbmfaaGreatDoorPkT
import Derived.Lib.ItoaNum
import Derived.Lib.ItoaLen
import Derived.Test.YtehihemfepbmfaaGreatDoorProg
import Derived.Test.YtehihemfepbmfaaGreatDoorStepC
import Derived.WideShapes
import Derived.Below
import Derived.Lib.FrozenHead
namespace Go.Proofs.YtehihemfepbmfaaGreatDoor
open Go.RowKit
set_option linter.unusedSimpArgs false
set_option linter.unusedVariables false

/-- Where a line begins. -/
def lineJ (lines : Bool) (deep : Nat) : List UInt8 := if lines = true then 10 :: List.replicate (2 * deep) 32 else []
def keyJ (lines : Bool) (key : ByteArray) : List UInt8 := quoT key ++ 58 :: (if lines = true then [32] else [])
/-- The first 'k' parts. -/
def partsJ (F : VT → List UInt8) (lines named : Bool) (deep : Nat) (keys : List ByteArray) (kids : List VT) : Nat → List UInt8
  | 0 => []
  | k + 1 => partsJ F lines named deep keys kids k ++ (if k = 0 then [] else [44]) ++ lineJ lines (deep + 1) ++ (if named = true then keyJ lines (keyAt keys k) else []) ++ F (kidT kids k)
def wholeJ (F : VT → List UInt8) (lines named : Bool) (deep : Nat) (keys : List ByteArray) (kids : List VT) : List UInt8 :=
  if kids.length = 0 then [] else partsJ F lines named deep keys kids kids.length ++ lineJ lines deep
def jsonT (lines : Bool) : Nat → Nat → VT → List UInt8
  | 0, _, _ => []
  | f + 1, deep, .mk kind n s keys kids =>
    if kind = 1 then [110, 117, 108, 108] else if kind = 2 then (if n = 1 then [116, 114, 117, 101] else [102, 97, 108, 115, 101]) else if kind = 3 then Lib.itoa n else if kind = 4 then quoT s
    else if kind = 5 then 91 :: (wholeJ (jsonT lines f (deep + 1)) lines false deep keys kids ++ [93])
    else 123 :: (wholeJ (jsonT lines f (deep + 1)) lines true deep keys kids ++ [125])
theorem jsonT_leaf (lines : Bool) (f deep : Nat) {kind n : Int} {s : ByteArray} {keys : List ByteArray} {kids : List VT} :
    (kind = 1 → jsonT lines (f + 1) deep (.mk kind n s keys kids) = [110, 117, 108, 108]) ∧ (kind = 2 → jsonT lines (f + 1) deep (.mk kind n s keys kids) = if n = 1 then [116, 114, 117, 101] else [102, 97, 108, 115, 101]) ∧ (kind = 3 → jsonT lines (f + 1) deep (.mk kind n s keys kids) = Lib.itoa n) ∧ (kind = 4 → jsonT lines (f + 1) deep (.mk kind n s keys kids) = quoT s) ∧
    (kind = 5 → jsonT lines (f + 1) deep (.mk kind n s keys kids) = 91 :: (wholeJ (jsonT lines f (deep + 1)) lines false deep keys kids ++ [93])) ∧ (kind = 6 → jsonT lines (f + 1) deep (.mk kind n s keys kids) = 123 :: (wholeJ (jsonT lines f (deep + 1)) lines true deep keys kids ++ [125])) := by
  refine ⟨?_, ?_, ?_, ?_, ?_, ?_⟩ <;> (intro h; subst h; rw [jsonT]; simp)
theorem lineJ_len (lines : Bool) (deep : Nat) : (lineJ lines deep).length ≤ 2 * deep + 1 := by
  unfold lineJ; split <;> simp
theorem keyJ_len (lines : Bool) (key : ByteArray) : (keyJ lines key).length ≤ 6 * key.size + 4 := by
  have := (quoT_len key).2
  unfold keyJ; rw [List.length_append, List.length_cons]; split <;> simp <;> omega
theorem partsJ_mono (F : VT → List UInt8) (lines named : Bool) (deep : Nat) (keys : List ByteArray) (kids : List VT) {j k : Nat} (h : j ≤ k) : (partsJ F lines named deep keys kids j).length ≤ (partsJ F lines named deep keys kids k).length := by
  induction k with
  | zero => obtain rfl : j = 0 := by omega
            exact Nat.le_refl _
  | succ k ih =>
    by_cases e : j = k + 1
    · subst e; exact Nat.le_refl _
    · have := ih (by omega)
      rw [partsJ]; simp only [List.length_append]; omega
end Go.Proofs.YtehihemfepbmfaaGreatDoor

/-
  Plain: how long JSON's bytes of a right tree are.
-/
namespace Go.Proofs.YtehihemfepbmfaaGreatDoor
open Go.RowKit
set_option linter.unusedSimpArgs false
set_option linter.unusedVariables false

theorem dec_pos (u : Nat) : 1 ≤ (Lib.decDigits u).length := by
  rw [Lib.decDigits]
  split <;> simp
theorem itoa_pos (n : Int) : 1 ≤ (Lib.itoa n).length := by
  unfold Lib.itoa
  split
  · simp
  · exact dec_pos _
theorem jsonT_pos {vs : List VN} (hok : okB vs = true) (lines : Bool) (f deep : Nat) {i : Nat} (hi : i < vs.length) : 1 ≤ (jsonT lines (f + 1) deep (treeOf vs (f + 1) i)).length := by
  rw [treeOf]
  have hl := jsonT_leaf lines f deep (kind := (nodeAt vs i).kind) (n := (nodeAt vs i).n) (s := (nodeAt vs i).s) (keys := (nodeAt vs i).keys) (kids := (nodeAt vs i).kids.map fun k => treeOf vs f k.toNat)
  rcases node_says hok hi with k | ⟨k, _⟩ | ⟨k, _⟩ | ⟨k, _⟩ | k | ⟨k, _⟩
  · rw [hl.1 k]; simp
  · rw [hl.2.1 k]; split <;> simp
  · rw [hl.2.2.1 k]; exact itoa_pos _
  · rw [hl.2.2.2.1 k]; have := (quoT_len (nodeAt vs i).s).1; omega
  · rw [hl.2.2.2.2.1 k]; simp
  · rw [hl.2.2.2.2.2 k]; simp
/-- No more than so many bytes a node. -/
theorem jsonT_le {vs : List VN} (hok : okB vs = true) (lines : Bool) : ∀ (f deep i : Nat) (sh : Nat), i < vs.length → i < f → deep + i ≤ 100 → (jsonT lines f deep (treeOf vs f i)).length + 600 ≤ 1200 * (layT f (treeOf vs f i) sh).length := by
  intro f
  induction f with
  | zero => intro deep i sh hi hf; omega
  | succ f ih =>
    intro deep i sh hi hf hd
    rw [treeOf]
    have hl := jsonT_leaf lines f deep (kind := (nodeAt vs i).kind) (n := (nodeAt vs i).n) (s := (nodeAt vs i).s) (keys := (nodeAt vs i).keys) (kids := (nodeAt vs i).kids.map fun k => treeOf vs f k.toNat)
    rw [layT_eq]
    have hkid : ∀ (named : Bool), (named = true → ∀ j, j < (nodeAt vs i).kids.length → (keyAt (nodeAt vs i).keys j).size ≤ 60) → ∀ k, k ≤ (nodeAt vs i).kids.length →
        (partsJ (jsonT lines f (deep + 1)) lines named deep (nodeAt vs i).keys ((nodeAt vs i).kids.map fun k => treeOf vs f k.toNat) k).length ≤ 1200 * (accT f sh ((nodeAt vs i).kids.map fun k => treeOf vs f k.toNat) k).length := by
      intro named hkey k
      induction k with
      | zero => intro _; simp [partsJ]
      | succ k ihk =>
        intro hk
        have h1 := ihk (by omega)
        rw [partsJ, accT_succ f sh (by rw [List.length_map]; omega)]
        simp only [List.length_append]
        rw [kidT_map (by omega)]
        obtain ⟨_, p2, _, _⟩ := okB_parts hok
        have hki := kidsIn_get (p2 i hi).2 (j := k) (by omega)
        have h2 := ih (deep + 1) (intAt (nodeAt vs i).kids k).toNat (sh + (accT f sh ((nodeAt vs i).kids.map fun k => treeOf vs f k.toNat) k).length) (by omega) (by omega) (by omega)
        have h3 : (if named = true then keyJ lines (keyAt (nodeAt vs i).keys k) else []).length ≤ 364 := by
          cases named
          · simp
          · have := keyJ_len lines (keyAt (nodeAt vs i).keys k)
            have := hkey rfl k (by omega)
            simp only [if_true]; omega
        have h4 : (if k = 0 then ([] : List UInt8) else [44]).length ≤ 1 := by split <;> simp
        have h5 := lineJ_len lines (deep + 1)
        omega
    have hw : ∀ (named : Bool), (named = true → ∀ j, j < (nodeAt vs i).kids.length → (keyAt (nodeAt vs i).keys j).size ≤ 60) →
        (wholeJ (jsonT lines f (deep + 1)) lines named deep (nodeAt vs i).keys ((nodeAt vs i).kids.map fun k => treeOf vs f k.toNat)).length ≤ 1200 * (accT f sh ((nodeAt vs i).kids.map fun k => treeOf vs f k.toNat) (nodeAt vs i).kids.length).length + 201 := by
      intro named hkey
      have h1 := hkid named hkey _ (Nat.le_refl _)
      have h2 := lineJ_len lines deep
      unfold wholeJ
      rw [List.length_map]
      split
      · simp
      · rw [List.length_append]; omega
    simp only [List.length_append, List.length_cons, List.length_nil, List.length_map]
    rcases node_says hok hi with k | ⟨k, _⟩ | ⟨k, h1, h2⟩ | ⟨k, hs⟩ | k | ⟨k, hkk, hks⟩
    · rw [hl.1 k]; simp; omega
    · rw [hl.2.1 k]; split <;> (simp; omega)
    · rw [hl.2.2.1 k]; have := Lib.itoa_length_le (nodeAt vs i).n (by omega) (by omega); omega
    · rw [hl.2.2.2.1 k]; have := (quoT_len (nodeAt vs i).s).2; omega
    · rw [hl.2.2.2.2.1 k]
      have h2 := hw false (by simp)
      simp only [List.length_append, List.length_cons, List.length_nil] at h2 ⊢
      omega
    · rw [hl.2.2.2.2.2 k]
      have h2 := hw true (fun _ j hj => hks j (by omega))
      simp only [List.length_append, List.length_cons, List.length_nil] at h2 ⊢
      omega
theorem jsonT_100k {vs : List VN} (hok : okB vs = true) (lines : Bool) {f i : Nat} (hi : i < vs.length) (hf : i < f) : (jsonT lines f 0 (treeOf vs f i)).length ≤ 100000 := by
  obtain ⟨p1, _⟩ := okB_parts hok
  have h1 := jsonT_le hok lines f 0 i 0 hi hf (by omega)
  have h2 := lay_part hok hf hi
  rw [h2.1] at h1
  have := h2.2
  omega
end Go.Proofs.YtehihemfepbmfaaGreatDoor

/-
  Plain: numbers, texts and keys of a tree within their bounds.
-/
namespace Go.Proofs.YtehihemfepbmfaaGreatDoor
open Go.RowKit
set_option linter.unusedSimpArgs false
set_option linter.unusedVariables false

/-- Numbers, texts and keys of a tree within their bounds. -/
def TFit : Nat → VT → Prop
  | 0, _ => True
  | f + 1, .mk kind n s keys kids => (kind = 2 → 0 ≤ n ∧ n ≤ 1) ∧ (kind = 3 → -1000000000000000 ≤ n ∧ n ≤ 1000000000000000) ∧ (kind = 4 → s.size ≤ 60) ∧ kids.length ≤ 80 ∧ (kind = 6 → keys.length = kids.length ∧ ∀ j, j < keys.length → (keyAt keys j).size ≤ 60) ∧ ∀ j, j < kids.length → TFit f (kidT kids j)
theorem tfit_of {vs : List VN} (hok : okB vs = true) : ∀ (f i : Nat), i < vs.length → TFit f (treeOf vs f i) := by
  intro f
  induction f with
  | zero => intro i _; trivial
  | succ f ih =>
    intro i hi
    rw [treeOf]
    have hs := node_says hok hi
    have hk := (keys_few hok i hi)
    refine ⟨fun k => ?_, fun k => ?_, fun k => ?_, by rw [List.length_map]; exact hk.2.1, fun k => ?_, fun j hj => ?_⟩
    · rcases hs with h | ⟨h, a, b⟩ | ⟨h, a, b⟩ | ⟨h, a⟩ | h | ⟨h, a, b⟩ <;> first | exact ⟨a, b⟩ | omega
    · rcases hs with h | ⟨h, a, b⟩ | ⟨h, a, b⟩ | ⟨h, a⟩ | h | ⟨h, a, b⟩ <;> first | omega | exact ⟨a, b⟩
    · rcases hs with h | ⟨h, a, b⟩ | ⟨h, a, b⟩ | ⟨h, a⟩ | h | ⟨h, a, b⟩ <;> first | omega | exact a
    · rcases hs with h | ⟨h, a, b⟩ | ⟨h, a, b⟩ | ⟨h, a⟩ | h | ⟨h, a, b⟩ <;> first | omega | exact ⟨by rw [List.length_map]; exact a, b⟩
    · rw [List.length_map] at hj
      rw [kidT_map hj]
      obtain ⟨_, p2, _, _⟩ := okB_parts hok
      have hki := kidsIn_get (p2 i hi).2 hj
      exact ih _ (by omega)

end Go.Proofs.YtehihemfepbmfaaGreatDoor

/-
  Rows of bytes laid by appending.
-/
namespace Go.Proofs.YtehihemfepbmfaaGreatDoor
open Go.RowKit Go.WideShapes
set_option linter.unusedSimpArgs false
set_option linter.unusedVariables false

/-- 'v' is a row of one's own (its memory from block 'base' on) that holds the bytes 'l'. -/
def RowB (base : Nat) (w : World) (v : Value) (l : List UInt8) : Prop := w.ownsRow base 5 1 v l.length (Lib.byteCells l)
theorem RowB.slice {base : Nat} {w : World} {v : Value} {l : List UInt8} (h : RowB base w v l) : ∃ a c, v = .slice a l.length c := by
  rcases h.2 with ⟨rfl, h0⟩ | ⟨g, cap, cur, rfl, _⟩
  · rw [h0]; exact ⟨_, _, rfl⟩
  · exact ⟨_, _, rfl⟩
theorem rowB_new (w : World) : RowB w.heap.size (w.alloc (.cells #[] 5)) (.slice (some ⟨w.heap.size, 0, none⟩) 0 0) [] := by
  have := World.ownsRow_lit (base := w.heap.size) (e := 5) (size := 1) w #[] 0 (Nat.le_refl _) (by simp [maxLen]) rfl
  simpa [RowB, Lib.byteCells] using this
theorem info_byte : (Tryz.prog.info? 5).map (fun i => (i.zero, i.size, i.bytes)) = some (some (.int .u8 0), 1, 1) := by kernel_rfl
theorem info_three {P : Program} {t : TypeId} {z : Option Value} {s b : Nat} (h : (P.info? t).map (fun i => (i.zero, i.size, i.bytes)) = some (z, s, b)) : ∃ i, P.info? t = some i ∧ i.zero = z ∧ i.size = s ∧ i.bytes = b := by
  cases hi : P.info? t with
  | none => simp [hi] at h
  | some i => simp [hi] at h; exact ⟨i, rfl, h.1, h.2.1, h.2.2⟩
theorem byte_new (w : World) (c : UInt8) : ∀ j u, [Value.int .u8 (c.toNat : Int)][j]? = some u → (w.alloc (.cells #[.int .u8 (c.toNat : Int)] 5)).cell? ((⟨w.heap.size, 0, none⟩ : Addr).add j) = some u := by
  intro j u hj
  match j, hj with
  | 0, hj => simp at hj; subst hj; simp [Addr.add]
theorem row_end {base : Nat} {w w' : World} {v v' : Value} {l : List UInt8} {c : UInt8} (hbase : base ≤ w.heap.size) (hrow : RowB base w v l)
    (hown : w'.ownsRow base 5 1 v' (l.length + 1) (Lib.byteCells l ++ [.int .u8 (c.toNat : Int)])) (hgrow : (w.alloc (.cells #[.int .u8 (c.toNat : Int)] 5)).grownBy w' v.ownBlock) : RowB base w' v' (l ++ [c]) ∧ Below base w w' := by
  refine ⟨?_, ?_⟩
  · unfold RowB
    have e : Lib.byteCells (l ++ [c]) = Lib.byteCells l ++ [.int .u8 (c.toNat : Int)] := by simp [Lib.byteCells]
    rw [e, List.length_append]
    exact hown
  · exact ((Below.refl base w).alloc hbase _).grown hgrow (by simp; omega) (fun k hk => (hrow.lt k hk).1)
/-- append(row, c) -/
theorem wpList_push {ops : Array Oper} {rest : List Oper} {o : Oper} {a : Act} {Q : Exit → Act → World → Prop} {w : World} (hgd : o.guard = none) (s x : Operand)
    (ho : o.op = .call { callee := .builtin .append, args := #[s, x], argTypes := #[22, 22] }) (base : Nat) (l : List UInt8) (v : Value) (hs : a.eval s = v) (hrow : RowB base w v l) (c : UInt8)
    (hx : a.eval x = .slice (some ⟨w.heap.size, 0, none⟩) 1 1) (hlen : l.length + 1 ≤ 70368744177664) (hbase : base ≤ w.heap.size)
    (h : ∀ v' w', RowB base w' v' (l ++ [c]) → Below base w w' → wpList Tryz.prog ops Q rest (a.put o.dst v') w') : wpList Tryz.prog ops Q (o :: rest) a (w.alloc (.cells #[.int .u8 (c.toNat : Int)] 5)) := by
  obtain ⟨i0, hi0, hz0, hs0, hy0⟩ := info_three info_byte
  refine wpList_append_own _ hgd s x 22 ho base 5 i0 (.int .u8 0) 1 1 Tryz.underlying22 hi0 hz0 hs0 hy0 rfl (by decide) v l.length (Lib.byteCells l) hs (hrow.alloc _) ⟨w.heap.size, 0, none⟩ 1 1 [.int .u8 (c.toNat : Int)] hx rfl (byte_new w c) (by intro u hu; simp at hu; subst hu; rfl) (by unfold maxLen; omega) (by omega) (by simp; omega) ?_
  intro v' w' hown hgrow _
  have := row_end hbase hrow hown hgrow
  exact h v' w' this.1 this.2
/-- append(row, c), as a step of a statement whose order is open. -/
theorem step_push {ops : Array Oper} {o : Oper} {a : Act} {K : Act → World → Prop} {Q : Exit → Act → World → Prop} {E : Prop} {w : World} (hgd : o.guard = none) (s x : Operand)
    (ho : o.op = .call { callee := .builtin .append, args := #[s, x], argTypes := #[22, 22] }) (base : Nat) (l : List UInt8) (v : Value) (hs : a.eval s = v) (hrow : RowB base w v l) (c : UInt8)
    (hx : a.eval x = .slice (some ⟨w.heap.size, 0, none⟩) 1 1) (hlen : l.length + 1 ≤ 70368744177664) (hbase : base ≤ w.heap.size)
    (h : ∀ v' w', RowB base w' v' (l ++ [c]) → Below base w w' → K (a.put o.dst v') w') : if Region.wanted o (yielded ops a.tmps) = true then Oper.wp Tryz.prog o a (w.alloc (.cells #[.int .u8 (c.toNat : Int)] 5)) K Q else E := by
  obtain ⟨i0, hi0, hz0, hs0, hy0⟩ := info_three info_byte
  refine step_append_lies _ hgd s x 22 ho base 5 i0 (.int .u8 0) 1 1 Tryz.underlying22 hi0 hz0 hs0 hy0 rfl (by decide) v l.length (Lib.byteCells l) hs (hrow.alloc _) ⟨w.heap.size, 0, none⟩ 1 1 [.int .u8 (c.toNat : Int)] hx rfl (byte_new w c) (by intro u hu; simp at hu; subst hu; rfl) (by omega) (by unfold maxLen; omega) (by omega) (by simp; omega) (w.heap.size + 1) (by simp) ?_
  intro g cap w' hown hgrow _ _
  have := row_end hbase hrow hown hgrow
  exact h _ w' this.1 this.2
/-- string(row) -/
theorem RowB.text {base : Nat} {w : World} {a : Option Addr} {cap : Nat} {l : List UInt8} {n : Nat} (hn : l.length = n) (h : RowB base w (.slice a n cap) l) :
    (convert 22 9 (.slice a n cap)).run Tryz.prog w = .ok (.string (txt l)) w := by
  subst hn
  rcases h.2 with ⟨hv, h0⟩ | ⟨g, cap', cur, hv, _⟩
  · obtain rfl : l = [] := List.eq_nil_of_length_eq_zero h0
    cases hv
    kernel_rfl
  · cases hv
    exact run_convert_bytes_back (P := Tryz.prog) w 22 9 5 ⟨g, 0, none⟩ cap l Tryz.underlying22 Tryz.underlying5 Tryz.underlying9 (fun j hj => h.cells rfl j _ (by simp [Lib.byteCells, hj]))
theorem RowB.drew {base : Nat} {w : World} {v : Value} {l : List UInt8} (h : RowB base w v l) : RowB base w.drew v l := h
theorem RowB.below {base : Nat} {w w' : World} {v : Value} {l : List UInt8} (h : RowB base w v l) (hb : Below w.heap.size w w') : RowB base w' v l := by
  refine ⟨h.1, ?_⟩
  rcases h.2 with ⟨hv, h0⟩ | ⟨g, cap, cur, hv, h1, h2, h3⟩
  · exact .inl ⟨hv, h0⟩
  · refine .inr ⟨g, cap, cur, hv, h1, ?_, h3⟩
    rw [hb.block g ?_]
    · exact h2
    · rcases Nat.lt_or_ge g w.heap.size with h' | h'
      · exact h'
      · rw [Array.getElem?_eq_none h'] at h2; cases h2
end Go.Proofs.YtehihemfepbmfaaGreatDoor
