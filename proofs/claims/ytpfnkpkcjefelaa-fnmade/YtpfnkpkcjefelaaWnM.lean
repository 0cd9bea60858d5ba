/-
  Values as trees: how one lies behind the interface, and which nodes are laid for it.
-/
import Derived.Test.YtpfnkpkcjefelaaKp
import Derived.Test.YtpfnkpkcjefelaaStepC
import Derived.Test.YtpfnkpkcjefelaaSPart
import Derived.Maps.Range
namespace Go.Proofs.Ytpfnkpkcjefelaa
open Go.RowKit
set_option linter.unusedSimpArgs false
set_option linter.unusedVariables false

inductive VT where
  | mk (kind n : Int) (s : ByteArray) (keys : List ByteArray) (kids : List VT)

def VT.zero : VT := .mk 0 0 ByteArray.empty [] []
def kidT (l : List VT) (j : Nat) : VT := l.getD j VT.zero

def TItems (B : Nat) (w : World) (it : Value) (n : Nat) (P : Nat → Value → Prop) : Prop :=
  n ≤ 100000 ∧ ∃ a cap, it = .slice a n cap ∧ (0 < n → ∃ b, a = some ⟨b, 0, none⟩ ∧ b < B ∧ ∀ j, j < n → ∃ t x, w.cell? ⟨b, j, none⟩ = some (.iface t x) ∧ P j (.iface t x))

/-- The value of a tree; its rows lie below block B. -/
def TreeAt (B : Nat) (w : World) : Nat → VT → Value → Prop
  | 0, _, _ => False
  | f + 1, .mk kind n s keys kids, v =>
    (kind = 1 ∧ n = 0 ∧ s = ByteArray.empty ∧ keys = [] ∧ kids = [] ∧ v = .iface 135 (.agg #[])) ∨
    (kind = 2 ∧ s = ByteArray.empty ∧ keys = [] ∧ kids = [] ∧ v = .iface 121 (.agg #[.int .i64 n])) ∨
    (kind = 3 ∧ s = ByteArray.empty ∧ keys = [] ∧ kids = [] ∧ v = .iface 122 (.agg #[.int .i64 n])) ∨
    (kind = 4 ∧ n = 0 ∧ keys = [] ∧ kids = [] ∧ v = .iface 124 (.agg #[.string s])) ∨
    (kind = 5 ∧ n = 0 ∧ s = ByteArray.empty ∧ keys = [] ∧ ∃ it, v = .iface 93 (.agg #[it]) ∧ TItems B w it kids.length (fun j u => TreeAt B w f (kidT kids j) u)) ∨
    (kind = 6 ∧ n = 0 ∧ s = ByteArray.empty ∧ ∃ ks it, v = .iface 95 (.agg #[ks, it]) ∧ StrsAt B w ks keys ∧ TItems B w it kids.length (fun j u => TreeAt B w f (kidT kids j) u))

theorem TreeAt.keep {B B' : Nat} {w w' : World} (hk : ∀ k, k < B → w'.heap[k]? = w.heap[k]?) (hB : B ≤ B') : ∀ {f : Nat} {t : VT} {v : Value}, TreeAt B w f t v → TreeAt B' w' f t v := by
  intro f
  induction f with
  | zero => intro t v h; exact h.elim
  | succ f ih =>
    intro t v h
    obtain ⟨kind, n, s, keys, kids⟩ := t
    have hc : ∀ b j, b < B → w'.cell? ⟨b, j, none⟩ = w.cell? ⟨b, j, none⟩ := fun b j hb => World.cell?_of_block (hk b hb)
    have hit : ∀ it, TItems B w it kids.length (fun j u => TreeAt B w f (kidT kids j) u) → TItems B' w' it kids.length (fun j u => TreeAt B' w' f (kidT kids j) u) := by
      rintro it ⟨h0, a, cap, e, hx⟩
      refine ⟨h0, a, cap, e, fun hn => ?_⟩
      obtain ⟨b, ea, h2, h3⟩ := hx hn
      refine ⟨b, ea, by omega, fun j hj => ?_⟩
      obtain ⟨t, x, hcc, hv⟩ := h3 j hj
      exact ⟨t, x, (hc b j h2).trans hcc, ih hv⟩
    rcases h with h | h | h | h | ⟨h1, h2, h3, h4, it, e, hi⟩ | ⟨h1, h2, h3, ks, it, e, hs, hi⟩
    · exact Or.inl h
    · exact Or.inr (Or.inl h)
    · exact Or.inr (Or.inr (Or.inl h))
    · exact Or.inr (Or.inr (Or.inr (Or.inl h)))
    · exact Or.inr (Or.inr (Or.inr (Or.inr (Or.inl ⟨h1, h2, h3, h4, it, e, hit it hi⟩))))
    · exact Or.inr (Or.inr (Or.inr (Or.inr (Or.inr ⟨h1, h2, h3, ks, it, e, (hs.keep (lo := B) (B := B) (fun k _ hk' => hk k hk') (Nat.le_refl _)).wide hB, hit it hi⟩))))

theorem TreeAt.more {B : Nat} {w : World} : ∀ {f g : Nat} {t : VT} {v : Value}, f ≤ g → TreeAt B w f t v → TreeAt B w g t v := by
  intro f
  induction f with
  | zero => intro g t v _ h; exact h.elim
  | succ f ih =>
    intro g t v hfg h
    match g, hfg with
    | g + 1, hfg =>
      obtain ⟨kind, n, s, keys, kids⟩ := t
      have hit : ∀ it, TItems B w it kids.length (fun j u => TreeAt B w f (kidT kids j) u) → TItems B w it kids.length (fun j u => TreeAt B w g (kidT kids j) u) := by
        rintro it ⟨h0, a, cap, e, hx⟩
        refine ⟨h0, a, cap, e, fun hn => ?_⟩
        obtain ⟨b, ea, h2, h3⟩ := hx hn
        refine ⟨b, ea, by omega, fun j hj => ?_⟩
        obtain ⟨t, x, hcc, hv⟩ := h3 j hj
        exact ⟨t, x, hcc, ih (by omega) hv⟩
      rcases h with h | h | h | h | ⟨h1, h2, h3, h4, it, e, hi⟩ | ⟨h1, h2, h3, ks, it, e, hs, hi⟩
      · exact Or.inl h
      · exact Or.inr (Or.inl h)
      · exact Or.inr (Or.inr (Or.inl h))
      · exact Or.inr (Or.inr (Or.inr (Or.inl h)))
      · exact Or.inr (Or.inr (Or.inr (Or.inr (Or.inl ⟨h1, h2, h3, h4, it, e, hit it hi⟩))))
      · exact Or.inr (Or.inr (Or.inr (Or.inr (Or.inr ⟨h1, h2, h3, ks, it, e, hs, hit it hi⟩))))

/-! ### The nodes that are laid -/
def layKidsT (F : VT → Nat → List VN) (sh : Nat) : List VT → List VN → List Int → List VN × List Int
  | [], acc, ks => (acc, ks)
  | k :: r, acc, ks => layKidsT F sh r (acc ++ F k (sh + acc.length)) (ks ++ [((sh + (acc ++ F k (sh + acc.length)).length : Nat) : Int) - 1])

def layT : Nat → VT → Nat → List VN
  | 0, _, _ => []
  | f + 1, .mk kind n s keys kids, sh => (layKidsT (layT f) sh kids [] []).1 ++ [{ kind := kind, n := n, s := s, keys := keys, kids := (layKidsT (layT f) sh kids [] []).2 }]

theorem layKidsT_append (F : VT → Nat → List VN) (sh : Nat) : ∀ (l m : List VT) (acc : List VN) (ks : List Int), layKidsT F sh (l ++ m) acc ks = layKidsT F sh m (layKidsT F sh l acc ks).1 (layKidsT F sh l acc ks).2 := by
  intro l
  induction l with
  | nil => intro m acc ks; rfl
  | cons k r ih => intro m acc ks; exact ih m _ _

theorem layKidsT_grow (F : VT → Nat → List VN) (sh : Nat) : ∀ (l : List VT) (acc : List VN) (ks : List Int), acc.length ≤ (layKidsT F sh l acc ks).1.length := by
  intro l
  induction l with
  | nil => intro acc ks; exact Nat.le_refl _
  | cons k r ih => intro acc ks; exact Nat.le_trans (by simp) (ih _ _)

theorem layKidsT_kids (F : VT → Nat → List VN) (sh : Nat) : ∀ (l : List VT) (acc : List VN) (ks : List Int), (layKidsT F sh l acc ks).2.length = ks.length + l.length := by
  intro l
  induction l with
  | nil => intro acc ks; rfl
  | cons k r ih => intro acc ks; rw [layKidsT, ih]; simp; omega

/-- After the first k parts. -/
def accT (f sh : Nat) (l : List VT) (k : Nat) : List VN := (layKidsT (layT f) sh (l.take k) [] []).1
def ksT (f sh : Nat) (l : List VT) (k : Nat) : List Int := (layKidsT (layT f) sh (l.take k) [] []).2

theorem accT_zero (f sh : Nat) (l : List VT) : accT f sh l 0 = [] := by simp [accT, layKidsT]
theorem ksT_zero (f sh : Nat) (l : List VT) : ksT f sh l 0 = [] := by simp [ksT, layKidsT]
theorem ksT_len (f sh : Nat) (l : List VT) {k : Nat} (h : k ≤ l.length) : (ksT f sh l k).length = k := by
  unfold ksT; rw [layKidsT_kids]; simp; omega

theorem take_kid {l : List VT} {k : Nat} (h : k < l.length) : l.take (k + 1) = l.take k ++ [kidT l k] := by
  rw [List.take_add_one, List.getElem?_eq_getElem h]
  simp [kidT, h]

theorem accT_succ (f sh : Nat) {l : List VT} {k : Nat} (h : k < l.length) : accT f sh l (k + 1) = accT f sh l k ++ layT f (kidT l k) (sh + (accT f sh l k).length) := by
  unfold accT; rw [take_kid h, layKidsT_append]; rfl
theorem ksT_succ (f sh : Nat) {l : List VT} {k : Nat} (h : k < l.length) : ksT f sh l (k + 1) = ksT f sh l k ++ [((sh + (accT f sh l (k + 1)).length : Nat) : Int) - 1] := by
  rw [accT_succ f sh h]; unfold ksT accT; rw [take_kid h, layKidsT_append]; rfl

theorem accT_le (f sh : Nat) (l : List VT) (k : Nat) : (accT f sh l k).length ≤ (accT f sh l l.length).length := by
  have e : l.take l.length = l.take k ++ l.drop k := by simp
  have h := layKidsT_append (layT f) sh (l.take k) (l.drop k) [] []
  unfold accT
  rw [e, h]
  exact layKidsT_grow _ _ _ _ _

theorem layT_eq (f : Nat) (kind n : Int) (s : ByteArray) (keys : List ByteArray) (kids : List VT) (sh : Nat) :
    layT (f + 1) (.mk kind n s keys kids) sh = accT f sh kids kids.length ++ [{ kind := kind, n := n, s := s, keys := keys, kids := ksT f sh kids kids.length }] := by
  simp [layT, accT, ksT]

theorem layT_pos {B : Nat} {w : World} {f : Nat} {t : VT} {v : Value} (h : TreeAt B w f t v) (sh : Nat) : 0 < (layT f t sh).length := by
  cases f with
  | zero => exact h.elim
  | succ f => obtain ⟨kind, n, s, keys, kids⟩ := t; rw [layT_eq]; simp

/-! ### Nodes as trees -/
def treeOf (vs : List VN) : Nat → Nat → VT
  | 0, _ => VT.zero
  | f + 1, i => .mk (nodeAt vs i).kind (nodeAt vs i).n (nodeAt vs i).s (nodeAt vs i).keys ((nodeAt vs i).kids.map fun k => treeOf vs f k.toNat)

theorem layKids_tree (vs : List VN) (f sh : Nat) (ih : ∀ i s, lay vs f i s = layT f (treeOf vs f i) s) : ∀ (l : List Int) (acc : List VN) (ks : List Int), layKids (lay vs f) sh l acc ks = layKidsT (layT f) sh (l.map fun k => treeOf vs f k.toNat) acc ks := by
  intro l
  induction l with
  | nil => intro acc ks; rfl
  | cons k r ihr => intro acc ks; rw [layKids, List.map_cons, layKidsT, ihr, ih]

theorem lay_tree (vs : List VN) : ∀ (f i sh : Nat), lay vs f i sh = layT f (treeOf vs f i) sh := by
  intro f
  induction f with
  | zero => intro i sh; rfl
  | succ f ih =>
    intro i sh
    rw [lay, treeOf, layT, layKids_tree vs f sh ih]

theorem kidT_map {l : List Int} {g : Int → VT} {j : Nat} (h : j < l.length) : kidT (l.map g) j = g (intAt l j) := by
  rw [intAt_get h]; simp [kidT, h]

theorem ValIs.tree {lo B : Nat} {w : World} {vs : List VN} (hlo : lo ≤ B) (hr : ∀ k, k < vs.length → nodeB (nodeAt vs k) = true ∧ kidsIn vs k = true) (hk : ∀ k, k < vs.length → (nodeAt vs k).kids.length ≤ k) (h80 : vs.length ≤ 80) : ∀ {f i : Nat} {v : Value}, i < vs.length → ValIs lo B w vs f i v → TreeAt B w f (treeOf vs f i) v := by
  intro f
  induction f with
  | zero => intro i v _ h; exact h.elim
  | succ f ih =>
    intro i v hi h
    have hit : ∀ it, ItemsAt lo B w it (nodeAt vs i).kids.length (fun j u => ValIs lo B w vs f (intAt (nodeAt vs i).kids j).toNat u) → TItems B w it ((nodeAt vs i).kids.map fun k => treeOf vs f k.toNat).length (fun j u => TreeAt B w f (kidT ((nodeAt vs i).kids.map fun k => treeOf vs f k.toNat) j) u) := by
      rintro it ⟨a, cap, e, hx⟩
      refine ⟨by have := hk i hi; simp; omega, a, cap, by simpa using e, fun hn => ?_⟩
      rw [List.length_map] at hn
      obtain ⟨b, ea, h1, h2, h3⟩ := hx hn
      refine ⟨b, ea, h2, fun j hj => ?_⟩
      rw [List.length_map] at hj
      obtain ⟨t, x, hcc, hv⟩ := h3 j hj
      refine ⟨t, x, hcc, ?_⟩
      show TreeAt B w f (kidT ((nodeAt vs i).kids.map fun k => treeOf vs f k.toNat) j) (.iface t x)
      rw [kidT_map hj]
      have hb := kidsIn_get (hr i hi).2 hj
      exact ih (by omega) hv
    have hn := (hr i hi).1
    unfold nodeB unnamedB at hn
    have es : ∀ s : ByteArray, s.toList = [] → s = ByteArray.empty := fun s h => by
      cases s with | mk d => rw [ByteArray.toList_eq] at h; simp at h; subst h; rfl
    simp only [Bool.and_eq_true, Bool.not_eq_true', Bool.and_eq_false_iff, decide_eq_false_iff_not, Decidable.not_not, Nat.not_lt, Nat.le_zero, List.length_eq_zero_iff] at hn
    obtain ⟨⟨⟨⟨n1, n2⟩, n3⟩, n4⟩, _⟩ := hn
    rw [treeOf]
    rcases h with ⟨k1, e⟩ | ⟨k2, e⟩ | ⟨k3, e⟩ | ⟨k4, e⟩ | ⟨k5, it, e, hi⟩ | ⟨k6, ks, it, e, hs, hi⟩
    · exact Or.inl ⟨k1, by omega, es _ (by rcases n2 with h | h; omega; exact h), by rcases n3 with h | h; omega; exact h, by rcases n4 with (h | h) | h; omega; omega; rw [h]; rfl, e⟩
    · exact Or.inr (Or.inl ⟨k2, es _ (by rcases n2 with h | h; omega; exact h), by rcases n3 with h | h; omega; exact h, by rcases n4 with (h | h) | h; omega; omega; rw [h]; rfl, e⟩)
    · exact Or.inr (Or.inr (Or.inl ⟨k3, es _ (by rcases n2 with h | h; omega; exact h), by rcases n3 with h | h; omega; exact h, by rcases n4 with (h | h) | h; omega; omega; rw [h]; rfl, e⟩))
    · exact Or.inr (Or.inr (Or.inr (Or.inl ⟨k4, by omega, by rcases n3 with h | h; omega; exact h, by rcases n4 with (h | h) | h; omega; omega; rw [h]; rfl, e⟩)))
    · exact Or.inr (Or.inr (Or.inr (Or.inr (Or.inl ⟨k5, by omega, es _ (by rcases n2 with h | h; omega; exact h), by rcases n3 with h | h; omega; exact h, it, e, hit it hi⟩))))
    · exact Or.inr (Or.inr (Or.inr (Or.inr (Or.inr ⟨k6, by omega, es _ (by rcases n2 with h | h; omega; exact h), ks, it, e, hs.wide hlo, hit it hi⟩))))
end Go.Proofs.Ytpfnkpkcjefelaa

/-
  Laying nodes one behind the other in memory: what withNodes leaves, and what holds while it is under way. No walk.
-/
namespace Go.Proofs.Ytpfnkpkcjefelaa
open Go.RowKit
set_option linter.unusedSimpArgs false
set_option linter.unusedVariables false

/-- What laying the nodes 'add' behind those that lie there leaves. -/
def Laid (base : Nat) (w w' : World) (v v' : Value) (ns add : List VN) (KV IV KV' IV' : Nat → Value) : Prop :=
  Nest base w' v' (ns ++ add) KV' IV' ∧ w.grownBy w' v.ownBlock ∧ (v'.ownBlock = v.ownBlock ∨ ∃ g, v'.ownBlock = some g ∧ w.heap.size ≤ g) ∧ (∀ j, j < ns.length → KV' j = KV j ∧ IV' j = IV j) ∧
    (∀ j, ns.length ≤ j → j < ns.length + add.length → (∀ y, (KV' j).ownBlock = some y → w.heap.size ≤ y) ∧ (∀ y, (IV' j).ownBlock = some y → w.heap.size ≤ y))

/-- While it is under way: the node that is being made lies in block nb, with the cells cs; its kids' row is kv. -/
structure Mid (base : Nat) (w wr : World) (nb : Nat) (v0 v kv : Value) (ns acc : List VN) (ks : List Int) (cs : List Value) (KV0 IV0 KV IV : Nat → Value) : Prop where
  hbase : base ≤ w.heap.size
  v0b : ∀ y, v0.ownBlock = some y → base ≤ y
  nest : Nest base wr v (ns ++ acc) KV IV
  node : wr.ownsRow w.heap.size 41 5 (.slice (some ⟨nb, 0, none⟩) 1 1) 1 cs
  kids : wr.ownsRow w.heap.size 2 1 kv ks.length (ks.map (.int .i64))
  vnb : v.ownBlock ≠ some nb
  frame : w.grownBy wr v0.ownBlock
  vat : v.ownBlock = v0.ownBlock ∨ ∃ g, v.ownBlock = some g ∧ w.heap.size ≤ g
  old : ∀ j, j < ns.length → KV j = KV0 j ∧ IV j = IV0 j
  new : ∀ j, ns.length ≤ j → j < ns.length + acc.length → (∀ y, (KV j).ownBlock = some y → w.heap.size ≤ y) ∧ (∀ y, (IV j).ownBlock = some y → w.heap.size ≤ y)
  ki : ∀ j, j < ns.length + acc.length → ∀ y, kv.ownBlock = some y → (IV j).ownBlock ≠ some y

theorem grownBy_of_below {w w' : World} {row : Option Nat} (h : Below w.heap.size w w') : w.grownBy w' row := ⟨h.os, h.tape, h.output, h.size, fun k hk _ => h.block k hk⟩

theorem Mid.start {base : Nat} {w w1 w2 : World} {v : Value} {ns : List VN} {KV IV : Nat → Value} {c0 c1 c2 c3 c4 : Value} (h : Nest base w v ns KV IV) (hb : base ≤ w.heap.size) (h1 : Below w.heap.size w w1)
    (h2 : Below (w1.alloc (.cells #[c0, c1, c2, c3, c4] 41)).heap.size (w1.alloc (.cells #[c0, c1, c2, c3, c4] 41)) w2) :
    Mid base w w2 w1.heap.size v v (.slice none 0 0) ns [] [] [c0, c1, c2, c3, c4] KV IV KV IV := by
  have hb2 : Below w.heap.size w w2 := (h1.alloc h1.size _).trans (h2.mono (by have := h1.size; simp; omega))
  have hn := World.ownsRow_lit (base := w.heap.size) (e := 41) (size := 5) w1 #[c0, c1, c2, c3, c4] 1 h1.size (by simp [maxLen]) rfl
  refine ⟨hb, fun y hy => (h.row.lt y hy).1, by simpa using h.below hb2, own_below hn h2 (fun x hx => ?_), World.ownsRow_nil _ _ _ _, fun e => ?_, grownBy_of_below hb2, Or.inl rfl, fun j _ => ⟨rfl, rfl⟩, fun j h1 h2 => ?_, fun j hj y hy => ?_⟩
  · simp [Value.ownBlock] at hx; subst hx; simp
  · have := (h.row.lt _ e).2
    have := h1.size
    omega
  · simp at h2; omega
  · simp [Value.ownBlock] at hy

theorem Mid.laid {base : Nat} {w wr w' : World} {nb : Nat} {v0 v v' kv : Value} {ns acc add : List VN} {ks : List Int} {cs : List Value} {KV0 IV0 KV IV KV' IV' : Nat → Value} (h : Mid base w wr nb v0 v kv ns acc ks cs KV0 IV0 KV IV)
    (l : Laid base wr w' v v' (ns ++ acc) add KV IV KV' IV') : Mid base w w' nb v0 v' kv ns (acc ++ add) ks cs KV0 IV0 KV' IV' := by
  obtain ⟨l1, l2, l3, l4, l5⟩ := l
  have hnb := (h.node.lt nb rfl).2
  have hsz := h.frame.size
  refine ⟨h.hbase, h.v0b, by rw [← List.append_assoc]; exact l1, h.node.kept l2 (Or.inr fun e => h.vnb e.symm), h.kids.kept l2 (own_apart h.kids h.nest.row (by decide)), ?_, h.frame.andThen l2 (fun j hj => ?_), ?_, fun j hj => ?_, fun j hj1 hj2 => ?_, fun j hj y hy => ?_⟩
  · rcases l3 with e | ⟨g, e, hg⟩
    · rw [e]; exact h.vnb
    · rw [e]; intro e2; simp at e2; omega
  · rcases h.vat with e | ⟨g, e, hg⟩
    · exact Or.inr (e ▸ hj)
    · rw [e] at hj; simp at hj; exact Or.inl (by omega)
  · rcases l3 with e | ⟨g, e, hg⟩
    · rw [e]; exact h.vat
    · exact Or.inr ⟨g, e, by omega⟩
  · have e := l4 j (by simp; omega)
    have o := h.old j hj
    exact ⟨e.1.trans o.1, e.2.trans o.2⟩
  · by_cases hlt : j < ns.length + acc.length
    · have e := l4 j (by simp; omega)
      rw [e.1, e.2]
      exact h.new j hj1 hlt
    · have e := l5 j (by simp; omega) (by simp at hj2 ⊢; omega)
      exact ⟨fun y hy => Nat.le_trans hsz (e.1 y hy), fun y hy => Nat.le_trans hsz (e.2 y hy)⟩
  · by_cases hlt : j < ns.length + acc.length
    · rw [(l4 j (by simp; omega)).2]
      exact h.ki j hlt y hy
    · intro e
      have := (l5 j (by simp; omega) (by simp at hj ⊢; omega)).2 y e
      have := (h.kids.lt y hy).2
      omega

theorem Mid.put {base : Nat} {w wr : World} {nb : Nat} {v0 v kv : Value} {ns acc : List VN} {ks : List Int} {cs : List Value} {KV0 IV0 KV IV : Nat → Value} (h : Mid base w wr nb v0 v kv ns acc ks cs KV0 IV0 KV IV) (j : Nat) (u : Value) :
    Mid base w (wr.setCell ⟨nb, j, none⟩ u) nb v0 v kv ns acc ks (cs.set j u) KV0 IV0 KV IV := by
  have st := h.node.stored j u
  exact ⟨h.hbase, h.v0b, h.nest.kept st.2 (Or.inr h.vnb) (fun i hi => own_apart (h.nest.rk i hi) h.node (by decide)) (fun i hi => own_apart (h.nest.ri i hi) h.node (by decide)), st.1, h.kids.kept st.2 (own_apart h.kids h.node (by decide)), h.vnb,
    h.frame.andThen st.2 (fun j hj => Or.inl (by cases hj; exact (h.node.lt nb rfl).1)), h.vat, h.old, h.new, h.ki⟩

/-- A new row of kids. -/
theorem Mid.kid1 {base : Nat} {w wr w5 : World} {nb : Nat} {v0 v kv kv' : Value} {ns acc : List VN} {ks : List Int} {cs : List Value} {KV0 IV0 KV IV : Nat → Value} {o : Obj} {q : Int} (h : Mid base w wr nb v0 v kv ns acc ks cs KV0 IV0 KV IV)
    (hown : w5.ownsRow w.heap.size 2 1 kv' (ks.length + 1) (ks.map (.int .i64) ++ [.int .i64 q])) (hg : (wr.alloc o).grownBy w5 kv.ownBlock) (hat : kv'.ownBlock = kv.ownBlock ∨ kv'.ownBlock = some (wr.heap.size + 1)) :
    Mid base w w5 nb v0 v kv' ns acc (ks ++ [q]) cs KV0 IV0 KV IV := by
  have hg1 : wr.grownBy w5 kv.ownBlock := (World.grownBy_alloc wr o _).trans hg
  have hkk : ∀ i, i < (ns ++ acc).length → (IV i).ownBlock = none ∨ (IV i).ownBlock ≠ kv.ownBlock := by
    intro i hi
    cases e : kv.ownBlock with
    | none => cases e2 : (IV i).ownBlock with
      | none => exact Or.inl rfl
      | some y => exact Or.inr (by simp)
    | some y => exact Or.inr (h.ki i (by simpa using hi) y e)
  refine ⟨h.hbase, h.v0b, h.nest.kept hg1 (own_apart h.nest.row h.kids (by decide)) (fun i hi => own_apart (h.nest.rk i hi) h.kids (by decide)) hkk, h.node.kept hg1 (own_apart h.node h.kids (by decide)), by simpa using hown, h.vnb, h.frame.andThen hg1 (fun j hj => Or.inl (h.kids.lt j hj).1), h.vat, h.old, h.new, fun j hj y hy => ?_⟩
  rcases hat with e | e
  · exact h.ki j hj y (e ▸ hy)
  · rw [e] at hy
    simp at hy
    intro e2
    have := ((h.nest.ri j (by simpa using hj)).lt y e2).2
    omega

theorem Mid.kid {base : Nat} {w wr w5 : World} {nb : Nat} {v0 v kv kv' : Value} {ns acc : List VN} {ks : List Int} {cs : List Value} {KV0 IV0 KV IV : Nat → Value} {o : Obj} {q : Int} (h : Mid base w wr nb v0 v kv ns acc ks cs KV0 IV0 KV IV)
    (hown : w5.ownsRow w.heap.size 2 1 kv' (ks.length + 1) (ks.map (.int .i64) ++ [.int .i64 q])) (hg : (wr.alloc o).grownBy w5 kv.ownBlock) (hat : kv'.ownBlock = kv.ownBlock ∨ kv'.ownBlock = some (wr.heap.size + 1)) :
    Mid base w (w5.setCell ⟨nb, 4, none⟩ kv') nb v0 v kv' ns acc (ks ++ [q]) (cs.set 4 kv') KV0 IV0 KV IV := (h.kid1 hown hg hat).put 4 kv'

/-- An empty row of kids, made now. -/
theorem Mid.kid0 {base : Nat} {w wr : World} {nb : Nat} {v0 v kv : Value} {ns acc : List VN} {ks : List Int} {cs : List Value} {KV0 IV0 KV IV : Nat → Value} (h : Mid base w wr nb v0 v kv ns acc ks cs KV0 IV0 KV IV) :
    Mid base w (wr.alloc (.cells #[] 2)) nb v0 v (.slice (some ⟨wr.heap.size, 0, none⟩) 0 0) ns acc [] cs KV0 IV0 KV IV := by
  have hg := World.grownBy_alloc wr (.cells #[] 2) none
  have nn : ∀ x : Option Nat, x = none ∨ x ≠ none := fun x => by cases x <;> simp
  have hs := h.frame.size
  refine ⟨h.hbase, h.v0b, h.nest.kept hg (nn _) (fun _ _ => nn _) (fun _ _ => nn _), h.node.kept hg (nn _), World.ownsRow_lit wr #[] 0 hs (by simp [maxLen]) rfl, h.vnb, h.frame.andThen hg (fun j hj => by cases hj), h.vat, h.old, h.new, fun j hj y hy e => ?_⟩
  have := ((h.nest.ri j (by simpa using hj)).lt y e).2
  simp [Value.ownBlock] at hy
  omega

/-- New blocks. -/
theorem Mid.grow {base : Nat} {w wr w5 : World} {nb : Nat} {v0 v kv : Value} {ns acc : List VN} {ks : List Int} {cs : List Value} {KV0 IV0 KV IV : Nat → Value} (h : Mid base w wr nb v0 v kv ns acc ks cs KV0 IV0 KV IV) (hg : wr.grownBy w5 none) :
    Mid base w w5 nb v0 v kv ns acc ks cs KV0 IV0 KV IV := by
  have nn : ∀ x : Option Nat, x = none ∨ x ≠ none := fun x => by cases x <;> simp
  exact ⟨h.hbase, h.v0b, h.nest.kept hg (nn _) (fun _ _ => nn _) (fun _ _ => nn _), h.node.kept hg (nn _), h.kids.kept hg (nn _), h.vnb, h.frame.andThen hg (fun j hj => by cases hj), h.vat, h.old, h.new, h.ki⟩

/-- The node stands at its place. -/
theorem Mid.fin {base : Nat} {w wr w6 : World} {nb : Nat} {v0 v v' kv c3 : Value} {ns acc : List VN} {ks : List Int} {cs : List Value} {KV0 IV0 KV IV : Nat → Value} {o : Obj} {x : VN} (h : Mid base w wr nb v0 v kv ns acc ks cs KV0 IV0 KV IV) (hx : x.kids = ks)
    (hk : wr.ownsRow w.heap.size 9 1 c3 x.keys.length (x.keys.map .string)) (fk : ∀ j, j < ns.length + acc.length → ∀ y, c3.ownBlock = some y → (KV j).ownBlock ≠ some y)
    (hown : w6.ownsRow base 41 5 v' ((ns ++ acc).length + 1) (nestCells (ns ++ acc) KV IV ++ [.int .i64 x.kind, .int .i64 x.n, .string x.s, c3, kv])) (hg : (wr.alloc o).grownBy w6 v.ownBlock) (hat : v'.ownBlock = v.ownBlock ∨ v'.ownBlock = some (wr.heap.size + 1)) :
    Laid base w w6 v0 v' ns (acc ++ [x]) KV0 IV0 (upd KV (ns ++ acc).length c3) (upd IV (ns ++ acc).length kv) := by
  subst hx
  have hg1 : wr.grownBy w6 v.ownBlock := (World.grownBy_alloc wr o _).trans hg
  have hsz := h.frame.size
  have hn := Nest.snoc (x := x) h.nest (own_mono hk h.hbase) (own_mono h.kids h.hbase) (fun i hi => fk i (by simpa using hi)) (fun i hi => h.ki i (by simpa using hi)) hown hg1
  refine ⟨by rw [← List.append_assoc]; exact hn, h.frame.andThen hg1 (fun j hj => ?_), ?_, fun j hj => ?_, fun j hj1 hj2 => ?_⟩
  · rcases h.vat with e | ⟨g, e, hg⟩
    · exact Or.inr (e ▸ hj)
    · rw [e] at hj; simp at hj; exact Or.inl (by omega)
  · rcases hat with e | e
    · rw [e]; exact h.vat
    · exact Or.inr ⟨_, e, by omega⟩
  · rw [upd_other _ _ (by simp; omega), upd_other _ _ (by simp; omega)]
    exact h.old j hj
  · by_cases hlt : j < ns.length + acc.length
    · rw [upd_other _ _ (by simp; omega), upd_other _ _ (by simp; omega)]
      exact h.new j hj1 hlt
    · obtain rfl : j = (ns ++ acc).length := by simp at hj2 ⊢; omega
      rw [upd_same, upd_same]
      exact ⟨fun y hy => (hk.lt y hy).1, fun y hy => (h.kids.lt y hy).1⟩

theorem Mid.keepL {base : Nat} {w wr : World} {nb : Nat} {v0 v kv : Value} {ns acc : List VN} {ks : List Int} {cs : List Value} {KV0 IV0 KV IV : Nat → Value} {B : Nat} (h : Mid base w wr nb v0 v kv ns acc ks cs KV0 IV0 KV IV) (hB : B ≤ base) : Below B w wr :=
  (Below.refl _ _).grown h.frame (by have := h.hbase; omega) (fun k hk => by have := h.v0b k hk; omega)

theorem Laid.refl {base : Nat} {w : World} {v : Value} {ns : List VN} {KV IV : Nat → Value} (h : Nest base w v ns KV IV) : Laid base w w v v ns [] KV IV KV IV :=
  ⟨by simpa using h, ⟨rfl, rfl, rfl, Nat.le_refl _, fun _ _ _ => rfl⟩, Or.inl rfl, fun _ _ => ⟨rfl, rfl⟩, fun j h1 h2 => by simp at h2; omega⟩

theorem Laid.trans {base : Nat} {w w1 w2 : World} {v v1 v2 : Value} {ns add add' : List VN} {KV IV KV1 IV1 KV2 IV2 : Nat → Value} (h : Laid base w w1 v v1 ns add KV IV KV1 IV1) (k : Laid base w1 w2 v1 v2 (ns ++ add) add' KV1 IV1 KV2 IV2) : Laid base w w2 v v2 ns (add ++ add') KV IV KV2 IV2 := by
  obtain ⟨h1, h2, h3, h4, h5⟩ := h
  obtain ⟨k1, k2, k3, k4, k5⟩ := k
  have hs := h2.size
  refine ⟨by rw [← List.append_assoc]; exact k1, h2.andThen k2 (fun j hj => ?_), ?_, fun j hj => ?_, fun j hj1 hj2 => ?_⟩
  · rcases h3 with e | ⟨g, e, hg⟩
    · exact Or.inr (e ▸ hj)
    · rw [e] at hj; simp at hj; exact Or.inl (by omega)
  · rcases k3 with e | ⟨g, e, hg⟩
    · rw [e]; exact h3
    · exact Or.inr ⟨g, e, by omega⟩
  · have e := k4 j (by simp; omega)
    have o := h4 j hj
    exact ⟨e.1.trans o.1, e.2.trans o.2⟩
  · by_cases hlt : j < ns.length + add.length
    · have e := k4 j (by simp; omega)
      rw [e.1, e.2]
      exact h5 j hj1 hlt
    · have e := k5 j (by simp; omega) (by simp at hj2 ⊢; omega)
      exact ⟨fun y hy => Nat.le_trans hs (e.1 y hy), fun y hy => Nat.le_trans hs (e.2 y hy)⟩

theorem Laid.below {base B : Nat} {w w1 : World} {v v1 : Value} {ns add : List VN} {KV IV KV1 IV1 : Nat → Value} (h : Laid base w w1 v v1 ns add KV IV KV1 IV1) (hv : ∀ y, v.ownBlock = some y → base ≤ y) (hB : B ≤ base) (hb : base ≤ w.heap.size) : Below B w w1 :=
  (Below.refl _ _).grown h.2.1 (by omega) (fun k hk => by have := hv k hk; omega)
end Go.Proofs.Ytpfnkpkcjefelaa
