/-
  Plain: JSON's bytes of a tree, in one line or in lines.
-/
import Derived.Test.YtiamkmkbkehldaaGreatDoorPure
import Derived.Test.YtiamkmkbkehldaaGreatDoorPkT
import Derived.Lib.ItoaNum
import Derived.Lib.ItoaLen
import Derived.Test.YtiamkmkbkehldaaGreatDoorProg
import Derived.Test.YtiamkmkbkehldaaGreatDoorStepC
import Derived.WideShapes
import Derived.Below
import Derived.Lib.FrozenHead
import Derived.Lib.AppendStr
import Derived.Lib.UnsafeStr
import Derived.Shelf.RegionOpenPlain
namespace Go.Proofs.YtiamkmkbkehldaaGreatDoor
open Go.RowKit
set_option linter.unusedSimpArgs false
set_option linter.unusedVariables false

/-- Where a line begins. -/
def lineJ (lines : Bool) (deep : Nat) : List UInt8 := if lines = true then 10 :: List.replicate (2 * deep) 32 else []
def keyJ (lines : Bool) (key : ByteArray) : List UInt8 := quoT key ++ 58 :: (if lines = true then [32] else [])
/-- The first 'k' parts. -/
def partsJ (F : VT → List UInt8) (lines named : Bool) (deep : Nat) (keys : List ByteArray) (kids : List VT) : Nat → List UInt8
  | 0 => []
  | k + 1 => partsJ F lines named deep keys kids k ++ (if k = 0 then [] else [44]) ++ lineJ lines (deep + 1) ++ (if named = true then keyJ lines (keyAt keys k) else []) ++ F (kidT kids k)
def wholeJ (F : VT → List UInt8) (lines named : Bool) (deep : Nat) (keys : List ByteArray) (kids : List VT) : List UInt8 :=
  if kids.length = 0 then [] else partsJ F lines named deep keys kids kids.length ++ lineJ lines deep
def jsonT (lines : Bool) : Nat → Nat → VT → List UInt8
  | 0, _, _ => []
  | f + 1, deep, .mk kind n s keys kids =>
    if kind = 1 then [110, 117, 108, 108] else if kind = 2 then (if n = 1 then [116, 114, 117, 101] else [102, 97, 108, 115, 101]) else if kind = 3 then Lib.itoa n else if kind = 4 then quoT s
    else if kind = 5 then 91 :: (wholeJ (jsonT lines f (deep + 1)) lines false deep keys kids ++ [93])
    else 123 :: (wholeJ (jsonT lines f (deep + 1)) lines true deep keys kids ++ [125])
theorem jsonT_leaf (lines : Bool) (f deep : Nat) {kind n : Int} {s : ByteArray} {keys : List ByteArray} {kids : List VT} :
    (kind = 1 → jsonT lines (f + 1) deep (.mk kind n s keys kids) = [110, 117, 108, 108]) ∧ (kind = 2 → jsonT lines (f + 1) deep (.mk kind n s keys kids) = if n = 1 then [116, 114, 117, 101] else [102, 97, 108, 115, 101]) ∧ (kind = 3 → jsonT lines (f + 1) deep (.mk kind n s keys kids) = Lib.itoa n) ∧ (kind = 4 → jsonT lines (f + 1) deep (.mk kind n s keys kids) = quoT s) ∧
    (kind = 5 → jsonT lines (f + 1) deep (.mk kind n s keys kids) = 91 :: (wholeJ (jsonT lines f (deep + 1)) lines false deep keys kids ++ [93])) ∧ (kind = 6 → jsonT lines (f + 1) deep (.mk kind n s keys kids) = 123 :: (wholeJ (jsonT lines f (deep + 1)) lines true deep keys kids ++ [125])) := by
  refine ⟨?_, ?_, ?_, ?_, ?_, ?_⟩ <;> (intro h; subst h; rw [jsonT]; simp)
theorem lineJ_len (lines : Bool) (deep : Nat) : (lineJ lines deep).length ≤ 2 * deep + 1 := by
  unfold lineJ; split <;> simp
theorem keyJ_len (lines : Bool) (key : ByteArray) : (keyJ lines key).length ≤ 6 * key.size + 4 := by
  have := (quoT_len key).2
  unfold keyJ; rw [List.length_append, List.length_cons]; split <;> simp <;> omega
theorem partsJ_mono (F : VT → List UInt8) (lines named : Bool) (deep : Nat) (keys : List ByteArray) (kids : List VT) {j k : Nat} (h : j ≤ k) : (partsJ F lines named deep keys kids j).length ≤ (partsJ F lines named deep keys kids k).length := by
  induction k with
  | zero => obtain rfl : j = 0 := by omega
            exact Nat.le_refl _
  | succ k ih =>
    by_cases e : j = k + 1
    · subst e; exact Nat.le_refl _
    · have := ih (by omega)
      rw [partsJ]; simp only [List.length_append]; omega
end Go.Proofs.YtiamkmkbkehldaaGreatDoor

/-
  Plain: how long JSON's bytes of a right tree are.
-/
namespace Go.Proofs.YtiamkmkbkehldaaGreatDoor
open Go.RowKit
set_option linter.unusedSimpArgs false
set_option linter.unusedVariables false

theorem dec_pos (u : Nat) : 1 ≤ (Lib.decDigits u).length := by
  rw [Lib.decDigits]
  split <;> simp
theorem itoa_pos (n : Int) : 1 ≤ (Lib.itoa n).length := by
  unfold Lib.itoa
  split
  · simp
  · exact dec_pos _
theorem jsonT_pos {vs : List VN} (hok : okB vs = true) (lines : Bool) (f deep : Nat) {i : Nat} (hi : i < vs.length) : 1 ≤ (jsonT lines (f + 1) deep (treeOf vs (f + 1) i)).length := by
  rw [treeOf]
  have hl := jsonT_leaf lines f deep (kind := (nodeAt vs i).kind) (n := (nodeAt vs i).n) (s := (nodeAt vs i).s) (keys := (nodeAt vs i).keys) (kids := (nodeAt vs i).kids.map fun k => treeOf vs f k.toNat)
  rcases node_says hok hi with k | ⟨k, _⟩ | ⟨k, _⟩ | ⟨k, _⟩ | k | ⟨k, _⟩
  · rw [hl.1 k]; simp
  · rw [hl.2.1 k]; split <;> simp
  · rw [hl.2.2.1 k]; exact itoa_pos _
  · rw [hl.2.2.2.1 k]; have := (quoT_len (nodeAt vs i).s).1; omega
  · rw [hl.2.2.2.2.1 k]; simp
  · rw [hl.2.2.2.2.2 k]; simp
/-- No more than so many bytes a node. -/
theorem jsonT_le {vs : List VN} (hok : okB vs = true) (lines : Bool) : ∀ (f deep i : Nat) (sh : Nat), i < vs.length → i < f → deep + i ≤ 100 → (jsonT lines f deep (treeOf vs f i)).length + 600 ≤ 1200 * (layT f (treeOf vs f i) sh).length := by
  intro f
  induction f with
  | zero => intro deep i sh hi hf; omega
  | succ f ih =>
    intro deep i sh hi hf hd
    rw [treeOf]
    have hl := jsonT_leaf lines f deep (kind := (nodeAt vs i).kind) (n := (nodeAt vs i).n) (s := (nodeAt vs i).s) (keys := (nodeAt vs i).keys) (kids := (nodeAt vs i).kids.map fun k => treeOf vs f k.toNat)
    rw [layT_eq]
    have hkid : ∀ (named : Bool), (named = true → ∀ j, j < (nodeAt vs i).kids.length → (keyAt (nodeAt vs i).keys j).size ≤ 60) → ∀ k, k ≤ (nodeAt vs i).kids.length →
        (partsJ (jsonT lines f (deep + 1)) lines named deep (nodeAt vs i).keys ((nodeAt vs i).kids.map fun k => treeOf vs f k.toNat) k).length ≤ 1200 * (accT f sh ((nodeAt vs i).kids.map fun k => treeOf vs f k.toNat) k).length := by
      intro named hkey k
      induction k with
      | zero => intro _; simp [partsJ]
      | succ k ihk =>
        intro hk
        have h1 := ihk (by omega)
        rw [partsJ, accT_succ f sh (by rw [List.length_map]; omega)]
        simp only [List.length_append]
        rw [kidT_map (by omega)]
        obtain ⟨_, p2, _, _⟩ := okB_parts hok
        have hki := kidsIn_get (p2 i hi).2 (j := k) (by omega)
        have h2 := ih (deep + 1) (intAt (nodeAt vs i).kids k).toNat (sh + (accT f sh ((nodeAt vs i).kids.map fun k => treeOf vs f k.toNat) k).length) (by omega) (by omega) (by omega)
        have h3 : (if named = true then keyJ lines (keyAt (nodeAt vs i).keys k) else []).length ≤ 364 := by
          cases named
          · simp
          · have := keyJ_len lines (keyAt (nodeAt vs i).keys k)
            have := hkey rfl k (by omega)
            simp only [if_true]; omega
        have h4 : (if k = 0 then ([] : List UInt8) else [44]).length ≤ 1 := by split <;> simp
        have h5 := lineJ_len lines (deep + 1)
        omega
    have hw : ∀ (named : Bool), (named = true → ∀ j, j < (nodeAt vs i).kids.length → (keyAt (nodeAt vs i).keys j).size ≤ 60) →
        (wholeJ (jsonT lines f (deep + 1)) lines named deep (nodeAt vs i).keys ((nodeAt vs i).kids.map fun k => treeOf vs f k.toNat)).length ≤ 1200 * (accT f sh ((nodeAt vs i).kids.map fun k => treeOf vs f k.toNat) (nodeAt vs i).kids.length).length + 201 := by
      intro named hkey
      have h1 := hkid named hkey _ (Nat.le_refl _)
      have h2 := lineJ_len lines deep
      unfold wholeJ
      rw [List.length_map]
      split
      · simp
      · rw [List.length_append]; omega
    simp only [List.length_append, List.length_cons, List.length_nil, List.length_map]
    rcases node_says hok hi with k | ⟨k, _⟩ | ⟨k, h1, h2⟩ | ⟨k, hs⟩ | k | ⟨k, hkk, hks⟩
    · rw [hl.1 k]; simp; omega
    · rw [hl.2.1 k]; split <;> (simp; omega)
    · rw [hl.2.2.1 k]; have := Lib.itoa_length_le (nodeAt vs i).n (by omega) (by omega); omega
    · rw [hl.2.2.2.1 k]; have := (quoT_len (nodeAt vs i).s).2; omega
    · rw [hl.2.2.2.2.1 k]
      have h2 := hw false (by simp)
      simp only [List.length_append, List.length_cons, List.length_nil] at h2 ⊢
      omega
    · rw [hl.2.2.2.2.2 k]
      have h2 := hw true (fun _ j hj => hks j (by omega))
      simp only [List.length_append, List.length_cons, List.length_nil] at h2 ⊢
      omega
theorem jsonT_100k {vs : List VN} (hok : okB vs = true) (lines : Bool) {f i : Nat} (hi : i < vs.length) (hf : i < f) : (jsonT lines f 0 (treeOf vs f i)).length ≤ 100000 := by
  obtain ⟨p1, _⟩ := okB_parts hok
  have h1 := jsonT_le hok lines f 0 i 0 hi hf (by omega)
  have h2 := lay_part hok hf hi
  rw [h2.1] at h1
  have := h2.2
  omega
end Go.Proofs.YtiamkmkbkehldaaGreatDoor

/-
  Plain: numbers, texts and keys of a tree within their bounds.
-/
namespace Go.Proofs.YtiamkmkbkehldaaGreatDoor
open Go.RowKit
set_option linter.unusedSimpArgs false
set_option linter.unusedVariables false

/-- Numbers, texts and keys of a tree within their bounds. -/
def TFit : Nat → VT → Prop
  | 0, _ => True
  | f + 1, .mk kind n s keys kids => (kind = 2 → 0 ≤ n ∧ n ≤ 1) ∧ (kind = 3 → -1000000000000000 ≤ n ∧ n ≤ 1000000000000000) ∧ (kind = 4 → s.size ≤ 60) ∧ kids.length ≤ 80 ∧ (kind = 6 → keys.length = kids.length ∧ ∀ j, j < keys.length → (keyAt keys j).size ≤ 60) ∧ ∀ j, j < kids.length → TFit f (kidT kids j)
theorem tfit_of {vs : List VN} (hok : okB vs = true) : ∀ (f i : Nat), i < vs.length → TFit f (treeOf vs f i) := by
  intro f
  induction f with
  | zero => intro i _; trivial
  | succ f ih =>
    intro i hi
    rw [treeOf]
    have hs := node_says hok hi
    have hk := (keys_few hok i hi)
    refine ⟨fun k => ?_, fun k => ?_, fun k => ?_, by rw [List.length_map]; exact hk.2.1, fun k => ?_, fun j hj => ?_⟩
    · rcases hs with h | ⟨h, a, b⟩ | ⟨h, a, b⟩ | ⟨h, a⟩ | h | ⟨h, a, b⟩ <;> first | exact ⟨a, b⟩ | omega
    · rcases hs with h | ⟨h, a, b⟩ | ⟨h, a, b⟩ | ⟨h, a⟩ | h | ⟨h, a, b⟩ <;> first | omega | exact ⟨a, b⟩
    · rcases hs with h | ⟨h, a, b⟩ | ⟨h, a, b⟩ | ⟨h, a⟩ | h | ⟨h, a, b⟩ <;> first | omega | exact a
    · rcases hs with h | ⟨h, a, b⟩ | ⟨h, a, b⟩ | ⟨h, a⟩ | h | ⟨h, a, b⟩ <;> first | omega | exact ⟨by rw [List.length_map]; exact a, b⟩
    · rw [List.length_map] at hj
      rw [kidT_map hj]
      obtain ⟨_, p2, _, _⟩ := okB_parts hok
      have hki := kidsIn_get (p2 i hi).2 hj
      exact ih _ (by omega)

end Go.Proofs.YtiamkmkbkehldaaGreatDoor

/-
  Rows of bytes laid by appending.
-/
namespace Go.Proofs.YtiamkmkbkehldaaGreatDoor
open Go.RowKit Go.WideShapes
set_option linter.unusedSimpArgs false
set_option linter.unusedVariables false

/-- 'v' is a row of one's own (its memory from block 'base' on) that holds the bytes 'l'. -/
def RowB (base : Nat) (w : World) (v : Value) (l : List UInt8) : Prop := w.ownsRow base 5 1 v l.length (Lib.byteCells l)
theorem RowB.slice {base : Nat} {w : World} {v : Value} {l : List UInt8} (h : RowB base w v l) : ∃ a c, v = .slice a l.length c := by
  rcases h.2 with ⟨rfl, h0⟩ | ⟨g, cap, cur, rfl, _⟩
  · rw [h0]; exact ⟨_, _, rfl⟩
  · exact ⟨_, _, rfl⟩
theorem info_byte : (Tryz.prog.info? 5).map (fun i => (i.zero, i.size, i.bytes)) = some (some (.int .u8 0), 1, 1) := by kernel_rfl
theorem info_three {P : Program} {t : TypeId} {z : Option Value} {s b : Nat} (h : (P.info? t).map (fun i => (i.zero, i.size, i.bytes)) = some (z, s, b)) : ∃ i, P.info? t = some i ∧ i.zero = z ∧ i.size = s ∧ i.bytes = b := by
  cases hi : P.info? t with
  | none => simp [hi] at h
  | some i => simp [hi] at h; exact ⟨i, rfl, h.1, h.2.1, h.2.2⟩
theorem byte_new (w : World) (c : UInt8) : ∀ j u, [Value.int .u8 (c.toNat : Int)][j]? = some u → (w.alloc (.cells #[.int .u8 (c.toNat : Int)] 5)).cell? ((⟨w.heap.size, 0, none⟩ : Addr).add j) = some u := by
  intro j u hj
  match j, hj with
  | 0, hj => simp at hj; subst hj; simp [Addr.add]
theorem row_end {base : Nat} {w w' : World} {v v' : Value} {l : List UInt8} {c : UInt8} (hbase : base ≤ w.heap.size) (hrow : RowB base w v l)
    (hown : w'.ownsRow base 5 1 v' (l.length + 1) (Lib.byteCells l ++ [.int .u8 (c.toNat : Int)])) (hgrow : (w.alloc (.cells #[.int .u8 (c.toNat : Int)] 5)).grownBy w' v.ownBlock) : RowB base w' v' (l ++ [c]) ∧ Below base w w' := by
  refine ⟨?_, ?_⟩
  · unfold RowB
    have e : Lib.byteCells (l ++ [c]) = Lib.byteCells l ++ [.int .u8 (c.toNat : Int)] := by simp [Lib.byteCells]
    rw [e, List.length_append]
    exact hown
  · exact ((Below.refl base w).alloc hbase _).grown hgrow (by simp; omega) (fun k hk => (hrow.lt k hk).1)
/-- string(row) -/
theorem RowB.text {base : Nat} {w : World} {a : Option Addr} {cap : Nat} {l : List UInt8} {n : Nat} (hn : l.length = n) (h : RowB base w (.slice a n cap) l) :
    (convert 22 9 (.slice a n cap)).run Tryz.prog w = .ok (.string (txt l)) w := by
  subst hn
  rcases h.2 with ⟨hv, h0⟩ | ⟨g, cap', cur, hv, _⟩
  · obtain rfl : l = [] := List.eq_nil_of_length_eq_zero h0
    cases hv
    kernel_rfl
  · cases hv
    exact run_convert_bytes_back (P := Tryz.prog) w 22 9 5 ⟨g, 0, none⟩ cap l Tryz.underlying22 Tryz.underlying5 Tryz.underlying9 (fun j hj => h.cells rfl j _ (by simp [Lib.byteCells, hj]))
theorem RowB.drew {base : Nat} {w : World} {v : Value} {l : List UInt8} (h : RowB base w v l) : RowB base w.drew v l := h
theorem RowB.below {base : Nat} {w w' : World} {v : Value} {l : List UInt8} (h : RowB base w v l) (hb : Below w.heap.size w w') : RowB base w' v l := by
  refine ⟨h.1, ?_⟩
  rcases h.2 with ⟨hv, h0⟩ | ⟨g, cap, cur, hv, h1, h2, h3⟩
  · exact .inl ⟨hv, h0⟩
  · refine .inr ⟨g, cap, cur, hv, h1, ?_, h3⟩
    rw [hb.block g ?_]
    · exact h2
    · rcases Nat.lt_or_ge g w.heap.size with h' | h'
      · exact h'
      · rw [Array.getElem?_eq_none h'] at h2; cases h2
end Go.Proofs.YtiamkmkbkehldaaGreatDoor

/-
  A strings.Builder as the first field of a struct (the writers): WriteByte, WriteString, String, in terms of the bytes written.
-/
namespace Go.Proofs.YtiamkmkbkehldaaGreatDoor
open Go.RowKit Go.Shelf
set_option linter.unusedSimpArgs false
set_option linter.unusedVariables false

/-- A type whose first field is a builder, with 'n' cells behind it. -/
structure FT (T : TypeId) (n : Nat) : Prop where
  lies : liesAt Tryz.prog Tryz.prog.depth T ((n + 2) / Tryz.prog.cellsOf T) 0 52 1 = true
  ne : T ≠ 5
/-- In block 'b' lies such a struct, its builder (memory from block 'B' on) has written 'l'; 'rest': its other cells. -/
def FB (T : TypeId) (B b : Nat) (rest : List Value) (l : List UInt8) (w : World) : Prop :=
  B ≤ b ∧ ∃ p v, (p = .pointer none ∨ p = .pointer (some ⟨b, 0, none⟩)) ∧ w.heap[b]? = some (.cells (p :: v :: rest).toArray T (0, 0)) ∧ RowB B w v l ∧ v.ownBlock ≠ some b

theorem cellAt {w : World} {b i : Nat} {cs : Array Value} {T : TypeId} {z : Nat × Nat} {x : Value} (h : w.heap[b]? = some (.cells cs T z)) (hx : cs[i]? = some x) : w.cell? ⟨b, i, none⟩ = some x := by
  rw [Lib.cell_of_heap h]; exact hx
theorem lt_heap {w : World} {b : Nat} {o : Obj} (h : w.heap[b]? = some o) : b < w.heap.size := by
  rcases Nat.lt_or_ge b w.heap.size with h' | h'
  · exact h'
  · rw [Array.getElem?_eq_none h'] at h; cases h
theorem set_heap {w : World} {b i : Nat} {cs : Array Value} {T : TypeId} {z : Nat × Nat} (h : w.heap[b]? = some (.cells cs T z)) (u : Value) : (w.setCell ⟨b, i, none⟩ u).heap[b]? = some (.cells (cs.setIfInBounds i u) T z) := by
  simp [World.setCell, Array.getElem?_modify, h]
theorem row_other {B b i : Nat} {w : World} {v : Value} {l : List UInt8} (h : RowB B w v l) (hne : v.ownBlock ≠ some b) (u : Value) : RowB B (w.setCell ⟨b, i, none⟩ u) v l :=
  World.ownsRow.kept (row := some b) h ⟨rfl, rfl, rfl, by simp [World.setCell], fun k _ hk => Below.heap_setCell _ _ _ _ (fun e => hk (by simp [e]))⟩ (Or.inr hne)
theorem row_ne {B b : Nat} {w : World} {v : Value} {l : List UInt8} {cs : Array Value} {T : TypeId} {z : Nat × Nat} (h : RowB B w v l) (hb : w.heap[b]? = some (.cells cs T z)) (hT : T ≠ 5) : v.ownBlock ≠ some b := by
  rcases h.2 with ⟨hv, _⟩ | ⟨g, cap, cur, hv, _, hg, _⟩
  · rw [hv]; simp [Value.ownBlock]
  · rw [hv]
    intro e
    simp [Value.ownBlock] at e
    subst e
    rw [hg] at hb
    injection hb with hb
    injection hb with _ h2
    exact hT h2.symm

/-- No block but 'b' and rows of bytes has turned. -/
def Beside (b : Nat) (w w' : World) : Prop := w.heap.size ≤ w'.heap.size ∧ ∀ c, c < w.heap.size → c ≠ b → (∀ cs z, w.heap[c]? ≠ some (.cells cs 5 z)) → w'.heap[c]? = w.heap[c]?
theorem Beside.refl (b : Nat) (w : World) : Beside b w w := ⟨Nat.le_refl _, fun _ _ _ _ => rfl⟩
theorem Beside.trans {b : Nat} {x y z : World} (h : Beside b x y) (k : Beside b y z) : Beside b x z :=
  ⟨Nat.le_trans h.1 k.1, fun c h1 h2 h3 => (k.2 c (Nat.lt_of_lt_of_le h1 h.1) h2 (fun cs z e => h3 cs z ((h.2 c h1 h2 h3) ▸ e))).trans (h.2 c h1 h2 h3)⟩
theorem Beside.set (b i : Nat) (w : World) (u : Value) : Beside b w (w.setCell ⟨b, i, none⟩ u) := ⟨by simp, fun c _ h2 _ => Below.heap_setCell _ _ _ _ h2⟩
theorem Beside.alloc (b : Nat) (w : World) (o : Obj) : Beside b w (w.alloc o) := ⟨by simp, fun c h1 _ _ => Below.heap_alloc _ _ _ h1⟩
theorem Beside.grown {b B : Nat} {w w' : World} {v : Value} {l : List UInt8} (hr : RowB B w v l) (hg : w.grownBy w' v.ownBlock) : Beside b w w' := by
  refine ⟨hg.size, fun c h1 _ h3 => hg.block c h1 (fun e => ?_)⟩
  rcases hr.2 with ⟨hv, _⟩ | ⟨g, cap, cur, hv, _, hgg, _⟩
  · rw [hv] at e; simp [Value.ownBlock] at e
  · rw [hv] at e
    simp [Value.ownBlock] at e
    subst e
    exact h3 _ _ hgg
theorem Beside.below {b : Nat} {w w' : World} (h : Below w.heap.size w w') : Beside b w w' := ⟨h.size, fun c h1 _ _ => h.block c h1⟩

/-- The same, when it has been written to. -/
def FU (T : TypeId) (B b : Nat) (rest : List Value) (l : List UInt8) (w : World) : Prop :=
  B ≤ b ∧ ∃ v, w.heap[b]? = some (.cells (.pointer (some ⟨b, 0, none⟩) :: v :: rest).toArray T (0, 0)) ∧ RowB B w v l ∧ v.ownBlock ≠ some b
theorem FU.fb {T : TypeId} {B b : Nat} {rest : List Value} {l : List UInt8} {w : World} (h : FU T B b rest l w) : FB T B b rest l w := by
  obtain ⟨h1, v, h2, h3⟩ := h
  exact ⟨h1, _, v, .inr rfl, h2, h3⟩

theorem info_builder : ∃ j, Tryz.prog.info? 52 = some j ∧ j.size = 2 := Option.map_eq_some_iff.1 (show (Tryz.prog.info? 52).map (·.size) = some 2 by kernel_rfl)

set_option maxRecDepth 100000 in
set_option maxHeartbeats 1600000 in
theorem fb_check {T : TypeId} {B b : Nat} {rest : List Value} {l : List UInt8} {w : World} (hT : FT T rest.length) (h : FB T B b rest l w) :
    Calls Tryz.prog 74 #[.pointer (some ⟨b, 0, none⟩)] w fun e w' => e = .returned (.tuple #[]) ∧ FU T B b rest l w' ∧ Below B w w' ∧ Beside b w w' := by
  obtain ⟨hB, p, v, hp, hb, hrow, hne⟩ := h
  obtain ⟨j, hj, hjs⟩ := info_builder
  have h0 := cellAt hb (i := 0) (x := p) (by simp)
  have hsh : w.shape? b = some (T, rest.length + 2) := by simp [World.shape?, hb]
  have hf : w.frozen? ⟨b, 0, none⟩ = false := Lib.frozen_of_heap hb 0
  rcases hp with rfl | rfl
  · go_enter Tryz.func74, Tryz.ntmps74
    go_wp2
    rw [Lib.run_to_unsafe w ⟨b, 0, none⟩ Tryz.underlying50 Tryz.underlying188 hj (by rw [hjs]; decide) hsh (by simp)]
    simp only [Result.andThen]
    rw [Oper.upon_value]
    go_wp2
    rw [run_callFunc_extern Tryz.func139 (by kernel_rfl) (by kernel_rfl) (by kernel_rfl) (e := Extern.AbiNoEscape.same) (by kernel_rfl)]
    rw [Lib.run_noEscape]
    simp only [Result.andThen]
    rw [Oper.upon_value]
    go_wp2
    rw [Lib.run_from_unsafe w ⟨b, 0, none⟩ Tryz.underlying188 Tryz.underlying50 hj hsh hT.lies]
    simp only [Result.andThen]
    rw [Oper.upon_value]
    go_wp2
    go_end0
    refine ⟨rfl, ⟨hB, v, ?_, row_other hrow hne _, hne⟩, (Below.refl _ _).setCell hB _, Beside.set _ _ _ _⟩
    rw [set_heap hb]
    simp
  · go_enter Tryz.func74, Tryz.ntmps74
    go_wp2
    rw [Lib.run_neq_ptr_same w _ Tryz.underlying50 hj]
    go_wp2
    go_end0
    exact ⟨rfl, ⟨hB, v, hb, hrow, hne⟩, Below.refl _ _, Beside.refl _ _⟩
theorem byteCellsApp (l m : List UInt8) : Lib.byteCells (l ++ m) = Lib.byteCells l ++ Lib.byteCells m := by simp [Lib.byteCells]
theorem strCellsB (s : ByteArray) : Lib.strCells s = Lib.byteCells s.data.toList := by simp [Lib.strCells, Lib.byteCells]

set_option maxRecDepth 100000 in
set_option maxHeartbeats 2000000 in
theorem fb_byte {T : TypeId} {B b : Nat} {rest : List Value} {l : List UInt8} {w : World} (hT : FT T rest.length) (h : FB T B b rest l w) (x : UInt8) (hlen : l.length + 1 ≤ 1000000000) (hBw : B ≤ w.heap.size) :
    Calls Tryz.prog 38 #[.pointer (some ⟨b, 0, none⟩), .int .u8 (x.toNat : Int)] w fun e w' => e = .returned .nilIface ∧ FB T B b rest (l ++ [x]) w' ∧ Below B w w' ∧ Beside b w w' := by
  go_enter Tryz.func38, Tryz.ntmps38
  go_wp2_with (go_at_call 74; refine (fb_check hT h).mono ?_)
  rintro e w1 ⟨rfl, ⟨hB, v, hb, hrow, hne⟩, hb1, hk1⟩
  have HK1 := hideB hk1
  clear hk1
  have c1 := cellAt hb (i := 1) (x := v) (by simp)
  have z1 := hb1.size
  obtain ⟨av, cv, ev⟩ := hrow.slice
  have HR := hideB hrow
  have HB := hideB hb
  have HNE := hideB hne
  have hlt := lt_heap hb
  obtain ⟨n, hn⟩ : ∃ n, l.length = n := ⟨_, rfl⟩
  have HN := hideB hn
  rw [hn] at ev hlen
  subst ev
  clear hb hrow hne hn
  obtain ⟨i0, hi0, hz0, hs0, hy0⟩ := info_three info_byte
  go_wp2_with (at_builtin; refine wpList_append_own _ rfl _ _ 22 rfl B 5 i0 (.int .u8 0) 1 1 Tryz.underlying22 hi0 hz0 hs0 hy0 rfl (by decide) _ _ _ rfl (HR.out.alloc _) ⟨w1.heap.size, 0, none⟩ 1 1 [.int .u8 (x.toNat : Int)] rfl rfl (byte_new w1 x) ?c1 ?c2 ?c3 ?c4 ?_)
  case c1 => intro u hu; simp at hu; subst hu; rfl
  case c2 => rw [HN.out]; unfold maxLen; omega
  case c3 => rw [HN.out]; omega
  case c4 => simp; omega
  intro v' w2 hown hgrow _
  obtain ⟨av2, cv2, ev2⟩ : ∃ a c, v' = .slice a (l.length + 1) c := by
    rcases hown.2 with ⟨_, h0⟩ | ⟨g, cap, cur, hv, _⟩
    · omega
    · exact ⟨_, _, hv⟩
  have hr2 := row_end (by omega) HR.out hown hgrow
  have HK2 := hideB (((HK1.out.trans (Beside.alloc _ _ _)).trans (Beside.grown (HR.out.alloc _) hgrow)).trans (Beside.set b 1 _ v'))
  have hb2 : w2.heap[b]? = some (.cells (.pointer (some ⟨b, 0, none⟩) :: .slice av n cv :: rest).toArray T (0, 0)) := by
    rw [hgrow.block b (by simp; omega) (fun e => HNE.out e.symm), Below.heap_alloc _ _ _ hlt]
    exact HB.out
  have hne2 := row_ne hr2.1 hb2 hT.ne
  have d1 := cellAt hb2 (i := 1) (x := .slice av n cv) (by simp)
  have f1 : w2.frozen? ⟨b, 1, none⟩ = false := Lib.frozen_of_heap hb2 1
  rw [HN.out] at ev2
  subst ev2
  have HR2 := hideB hr2.1
  have HBL := hideB ((hb1.trans (hr2.2)).setCell (p := ⟨b, 1, none⟩) hB (.slice av2 (n + 1) cv2))
  have HB2 := hideB hb2
  have HNE2 := hideB hne2
  clear hown hgrow hr2 hb2 hne2
  go_wp2
  go_ret
  refine ⟨rfl, ⟨hB, _, _, .inr rfl, ?_, row_other HR2.out HNE2.out _, HNE2.out⟩, HBL.out, HK2.out⟩
  rw [set_heap HB2.out]
  simp

set_option maxRecDepth 100000 in
set_option maxHeartbeats 2000000 in
theorem fb_text {T : TypeId} {B b : Nat} {rest : List Value} {l : List UInt8} {w : World} (hT : FT T rest.length) (h : FB T B b rest l w) (s : ByteArray) (hlen : l.length + s.size ≤ 1000000000) (hBw : B ≤ w.heap.size) :
    Calls Tryz.prog 35 #[.pointer (some ⟨b, 0, none⟩), .string s] w fun e w' => e = .returned (.tuple #[.int .i64 s.size, .nilIface]) ∧ FB T B b rest (l ++ s.data.toList) w' ∧ Below B w w' ∧ Beside b w w' := by
  go_enter Tryz.func35, Tryz.ntmps35
  go_wp2_with (go_at_call 74; refine (fb_check hT h).mono ?_)
  rintro e w1 ⟨rfl, ⟨hB, v, hb, hrow, hne⟩, hb1, hk1⟩
  have HK1 := hideB hk1
  clear hk1
  have c1 := cellAt hb (i := 1) (x := v) (by simp)
  have z1 := hb1.size
  obtain ⟨av, cv, ev⟩ := hrow.slice
  have HR := hideB hrow
  have HB := hideB hb
  have HNE := hideB hne
  have hlt := lt_heap hb
  obtain ⟨n, hn⟩ : ∃ n, l.length = n := ⟨_, rfl⟩
  have HN := hideB hn
  rw [hn] at ev hlen
  subst ev
  clear hb hrow hne hn
  obtain ⟨i0, hi0, hz0, hs0, hy0⟩ := info_three info_byte
  go_wp2_with (at_builtin; refine Lib.wpList_append_own_string _ rfl _ _ 22 9 rfl B 5 i0 Tryz.underlying22 Tryz.underlying9 hi0 hz0 hs0 hy0 _ _ _ rfl HR.out s rfl ?c2 ?c3 ?c4 ?_)
  case c2 => rw [HN.out]; unfold maxLen; omega
  case c3 => rw [HN.out]; omega
  case c4 => omega
  intro v' w2 hown hgrow _
  obtain ⟨av2, cv2, m2, ev2⟩ : ∃ a c m, v' = .slice a m c := by
    rcases hown.2 with ⟨hv, h0⟩ | ⟨g, cap, cur, hv, _⟩
    · exact ⟨_, _, _, hv⟩
    · exact ⟨_, _, _, hv⟩
  have hr2 : RowB B w2 v' (l ++ s.data.toList) := by
    unfold RowB
    rw [byteCellsApp, ← strCellsB, List.length_append, len_is]
    exact hown
  have HK2 := hideB ((HK1.out.trans (Beside.grown HR.out hgrow)).trans (Beside.set b 1 _ v'))
  have hbl : Below B w1 w2 := (Below.refl _ _).grown hgrow (by omega) (fun k hk => (HR.out.lt k hk).1)
  have hb2 : w2.heap[b]? = some (.cells (.pointer (some ⟨b, 0, none⟩) :: .slice av n cv :: rest).toArray T (0, 0)) := by
    rw [hgrow.block b hlt (fun e => HNE.out e.symm)]
    exact HB.out
  have hne2 := row_ne hr2 hb2 hT.ne
  have d1 := cellAt hb2 (i := 1) (x := .slice av n cv) (by simp)
  have f1 : w2.frozen? ⟨b, 1, none⟩ = false := Lib.frozen_of_heap hb2 1
  subst ev2
  have HR2 := hideB hr2
  have HBL := hideB ((hb1.trans hbl).setCell (p := ⟨b, 1, none⟩) hB (.slice av2 m2 cv2))
  have HB2 := hideB hb2
  have HNE2 := hideB hne2
  clear hown hgrow hr2 hb2 hne2 hbl
  go_wp2
  go_ret2
  refine ⟨rfl, ⟨hB, _, _, .inr rfl, ?_, row_other HR2.out HNE2.out _, HNE2.out⟩, HBL.out, HK2.out⟩
  rw [set_heap HB2.out]
  simp

theorem cells_byte : Tryz.prog.cellsOf 5 = 1 := by kernel_rfl
set_option maxRecDepth 100000 in
set_option maxHeartbeats 2000000 in
theorem fb_string {T : TypeId} {B b : Nat} {rest : List Value} {l : List UInt8} {w : World} (h : FB T B b rest l w) (hl0 : l ≠ []) :
    Calls Tryz.prog 39 #[.pointer (some ⟨b, 0, none⟩)] w fun e w' => e = .returned (.string (txt l)) ∧ Below B w w' := by
  obtain ⟨hB, p, v, hp, hb, hrow, hne⟩ := h
  have hl : l.length ≠ 0 := by simpa using hl0
  have mixed : Tryz.prog.follows .mixedOrders = true := by kernel_rfl
  obtain ⟨g, cap, cur, rfl, hbg, hg, hnc, hcm, hcs, htake⟩ : ∃ g cap cur, v = .slice (some ⟨g, 0, none⟩) l.length cap ∧ B ≤ g ∧ w.heap[g]? = some (.cells cur 5 (0, 0)) ∧ l.length ≤ cap ∧ cap ≤ maxLen ∧ cur.size = cap * 1 ∧ cur.toList.take (l.length * 1) = Lib.byteCells l := by
    rcases hrow.2 with ⟨_, hz⟩ | ⟨g, cap, cur, hv, r⟩
    · exact absurd hz hl
    · exact ⟨g, cap, cur, hv, r⟩
  have hb' : w.drew.heap[b]? = some (.cells (p :: .slice (some ⟨g, 0, none⟩) l.length cap :: rest).toArray T (0, 0)) := hb
  have hg' : w.drew.heap[g]? = some (.cells cur 5 (0, 0)) := hg
  have c1 : w.drew.cell? ⟨b, 1, none⟩ = some (.slice (some ⟨g, 0, none⟩) l.length cap) := cellAt hb' (by simp)
  have hSD : (Builtin.unsafeSliceData_ #[22] 121 #[.slice (some ⟨g, 0, none⟩) l.length cap]).run Tryz.prog w.drew = .ok (.pointer (some ⟨g, 0, none⟩)) w.drew :=
    Lib.run_unsafeSliceData_row _ _ _ _ _ _ (by omega)
  have hUS : (Builtin.unsafeString_ #[121, 3] 9 #[.pointer (some ⟨g, 0, none⟩), .int .i64 l.length]).run Tryz.prog w.drew = .ok (.string ⟨l.toArray⟩) (w.drew.freeze ⟨g, 0, none⟩ l.length) := by
    refine Lib.run_unsafeString_row w.drew 121 3 9 5 Tryz.underlying121 cells_byte g cur.size (by simp [World.shape?, hg']) l hl0 (by omega) (by unfold maxLen at hcm; omega) ?_
    intro j x hx
    exact hrow.cells (g := g) rfl j (.int .u8 x.toNat) (by simp [Lib.byteCells, hx])
  have HE := hideB (show Below B w (w.drew.freeze ⟨g, 0, none⟩ l.length) from Lib.below_freeze (Below.drew (Below.refl B w)) (p := ⟨g, 0, none⟩) hbg _)
  clear hrow htake hcs hcm hb' hg'
  go_enter Tryz.func39, Tryz.ntmps39
  go_wp2
  go_region_o
  all_goals (go_wp2; go_ret; exact ⟨rfl, HE.out⟩)
end Go.Proofs.YtiamkmkbkehldaaGreatDoor
