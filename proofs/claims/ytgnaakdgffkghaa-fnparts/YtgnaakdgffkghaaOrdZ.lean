/-
  Values as trees: how one lies behind the interface, and which nodes are laid for it.
-/
import Derived.Test.YtgnaakdgffkghaaOrdS
import Derived.Test.YtgnaakdgffkghaaPsM
import Derived.Test.YtgnaakdgffkghaaSPart
import Derived.Test.YtgnaakdgffkghaaOrdP
namespace Go.Proofs.Ytgnaakdgffkghaa
open Go.RowKit
set_option linter.unusedSimpArgs false
set_option linter.unusedVariables false

inductive VT where
  | mk (kind n : Int) (s : ByteArray) (keys : List ByteArray) (kids : List VT)

def VT.zero : VT := .mk 0 0 ByteArray.empty [] []
def kidT (l : List VT) (j : Nat) : VT := l.getD j VT.zero

def TItems (B : Nat) (w : World) (it : Value) (n : Nat) (P : Nat → Value → Prop) : Prop :=
  n ≤ 100000 ∧ ∃ a cap, it = .slice a n cap ∧ (0 < n → ∃ b, a = some ⟨b, 0, none⟩ ∧ b < B ∧ ∀ j, j < n → ∃ t x, w.cell? ⟨b, j, none⟩ = some (.iface t x) ∧ P j (.iface t x))

/-- The value of a tree; its rows lie below block B. -/
def TreeAt (B : Nat) (w : World) : Nat → VT → Value → Prop
  | 0, _, _ => False
  | f + 1, .mk kind n s keys kids, v =>
    (kind = 1 ∧ n = 0 ∧ s = ByteArray.empty ∧ keys = [] ∧ kids = [] ∧ v = .iface 96 (.agg #[])) ∨
    (kind = 2 ∧ s = ByteArray.empty ∧ keys = [] ∧ kids = [] ∧ v = .iface 91 (.agg #[.int .i64 n])) ∨
    (kind = 3 ∧ s = ByteArray.empty ∧ keys = [] ∧ kids = [] ∧ v = .iface 92 (.agg #[.int .i64 n])) ∨
    (kind = 4 ∧ n = 0 ∧ keys = [] ∧ kids = [] ∧ v = .iface 94 (.agg #[.string s])) ∨
    (kind = 5 ∧ n = 0 ∧ s = ByteArray.empty ∧ keys = [] ∧ ∃ it, v = .iface 70 (.agg #[it]) ∧ TItems B w it kids.length (fun j u => TreeAt B w f (kidT kids j) u)) ∨
    (kind = 6 ∧ n = 0 ∧ s = ByteArray.empty ∧ ∃ ks it, v = .iface 72 (.agg #[ks, it]) ∧ StrsAt B w ks keys ∧ TItems B w it kids.length (fun j u => TreeAt B w f (kidT kids j) u))

theorem TreeAt.keep {B B' : Nat} {w w' : World} (hk : ∀ k, k < B → w'.heap[k]? = w.heap[k]?) (hB : B ≤ B') : ∀ {f : Nat} {t : VT} {v : Value}, TreeAt B w f t v → TreeAt B' w' f t v := by
  intro f
  induction f with
  | zero => intro t v h; exact h.elim
  | succ f ih =>
    intro t v h
    obtain ⟨kind, n, s, keys, kids⟩ := t
    have hc : ∀ b j, b < B → w'.cell? ⟨b, j, none⟩ = w.cell? ⟨b, j, none⟩ := fun b j hb => World.cell?_of_block (hk b hb)
    have hit : ∀ it, TItems B w it kids.length (fun j u => TreeAt B w f (kidT kids j) u) → TItems B' w' it kids.length (fun j u => TreeAt B' w' f (kidT kids j) u) := by
      rintro it ⟨h0, a, cap, e, hx⟩
      refine ⟨h0, a, cap, e, fun hn => ?_⟩
      obtain ⟨b, ea, h2, h3⟩ := hx hn
      refine ⟨b, ea, by omega, fun j hj => ?_⟩
      obtain ⟨t, x, hcc, hv⟩ := h3 j hj
      exact ⟨t, x, (hc b j h2).trans hcc, ih hv⟩
    rcases h with h | h | h | h | ⟨h1, h2, h3, h4, it, e, hi⟩ | ⟨h1, h2, h3, ks, it, e, hs, hi⟩
    · exact Or.inl h
    · exact Or.inr (Or.inl h)
    · exact Or.inr (Or.inr (Or.inl h))
    · exact Or.inr (Or.inr (Or.inr (Or.inl h)))
    · exact Or.inr (Or.inr (Or.inr (Or.inr (Or.inl ⟨h1, h2, h3, h4, it, e, hit it hi⟩))))
    · exact Or.inr (Or.inr (Or.inr (Or.inr (Or.inr ⟨h1, h2, h3, ks, it, e, (hs.keep (lo := B) (B := B) (fun k _ hk' => hk k hk') (Nat.le_refl _)).wide hB, hit it hi⟩))))

theorem TreeAt.more {B : Nat} {w : World} : ∀ {f g : Nat} {t : VT} {v : Value}, f ≤ g → TreeAt B w f t v → TreeAt B w g t v := by
  intro f
  induction f with
  | zero => intro g t v _ h; exact h.elim
  | succ f ih =>
    intro g t v hfg h
    match g, hfg with
    | g + 1, hfg =>
      obtain ⟨kind, n, s, keys, kids⟩ := t
      have hit : ∀ it, TItems B w it kids.length (fun j u => TreeAt B w f (kidT kids j) u) → TItems B w it kids.length (fun j u => TreeAt B w g (kidT kids j) u) := by
        rintro it ⟨h0, a, cap, e, hx⟩
        refine ⟨h0, a, cap, e, fun hn => ?_⟩
        obtain ⟨b, ea, h2, h3⟩ := hx hn
        refine ⟨b, ea, by omega, fun j hj => ?_⟩
        obtain ⟨t, x, hcc, hv⟩ := h3 j hj
        exact ⟨t, x, hcc, ih (by omega) hv⟩
      rcases h with h | h | h | h | ⟨h1, h2, h3, h4, it, e, hi⟩ | ⟨h1, h2, h3, ks, it, e, hs, hi⟩
      · exact Or.inl h
      · exact Or.inr (Or.inl h)
      · exact Or.inr (Or.inr (Or.inl h))
      · exact Or.inr (Or.inr (Or.inr (Or.inl h)))
      · exact Or.inr (Or.inr (Or.inr (Or.inr (Or.inl ⟨h1, h2, h3, h4, it, e, hit it hi⟩))))
      · exact Or.inr (Or.inr (Or.inr (Or.inr (Or.inr ⟨h1, h2, h3, ks, it, e, hs, hit it hi⟩))))

/-! ### The nodes that are laid -/
def layKidsT (F : VT → Nat → List VN) (sh : Nat) : List VT → List VN → List Int → List VN × List Int
  | [], acc, ks => (acc, ks)
  | k :: r, acc, ks => layKidsT F sh r (acc ++ F k (sh + acc.length)) (ks ++ [((sh + (acc ++ F k (sh + acc.length)).length : Nat) : Int) - 1])

def layT : Nat → VT → Nat → List VN
  | 0, _, _ => []
  | f + 1, .mk kind n s keys kids, sh => (layKidsT (layT f) sh kids [] []).1 ++ [{ kind := kind, n := n, s := s, keys := keys, kids := (layKidsT (layT f) sh kids [] []).2 }]

theorem layKidsT_append (F : VT → Nat → List VN) (sh : Nat) : ∀ (l m : List VT) (acc : List VN) (ks : List Int), layKidsT F sh (l ++ m) acc ks = layKidsT F sh m (layKidsT F sh l acc ks).1 (layKidsT F sh l acc ks).2 := by
  intro l
  induction l with
  | nil => intro m acc ks; rfl
  | cons k r ih => intro m acc ks; exact ih m _ _

theorem layKidsT_grow (F : VT → Nat → List VN) (sh : Nat) : ∀ (l : List VT) (acc : List VN) (ks : List Int), acc.length ≤ (layKidsT F sh l acc ks).1.length := by
  intro l
  induction l with
  | nil => intro acc ks; exact Nat.le_refl _
  | cons k r ih => intro acc ks; exact Nat.le_trans (by simp) (ih _ _)

theorem layKidsT_kids (F : VT → Nat → List VN) (sh : Nat) : ∀ (l : List VT) (acc : List VN) (ks : List Int), (layKidsT F sh l acc ks).2.length = ks.length + l.length := by
  intro l
  induction l with
  | nil => intro acc ks; rfl
  | cons k r ih => intro acc ks; rw [layKidsT, ih]; simp; omega

/-- After the first k parts. -/
def accT (f sh : Nat) (l : List VT) (k : Nat) : List VN := (layKidsT (layT f) sh (l.take k) [] []).1
def ksT (f sh : Nat) (l : List VT) (k : Nat) : List Int := (layKidsT (layT f) sh (l.take k) [] []).2

theorem accT_zero (f sh : Nat) (l : List VT) : accT f sh l 0 = [] := by simp [accT, layKidsT]
theorem ksT_zero (f sh : Nat) (l : List VT) : ksT f sh l 0 = [] := by simp [ksT, layKidsT]
theorem ksT_len (f sh : Nat) (l : List VT) {k : Nat} (h : k ≤ l.length) : (ksT f sh l k).length = k := by
  unfold ksT; rw [layKidsT_kids]; simp; omega

theorem take_kid {l : List VT} {k : Nat} (h : k < l.length) : l.take (k + 1) = l.take k ++ [kidT l k] := by
  rw [List.take_add_one, List.getElem?_eq_getElem h]
  simp [kidT, h]

theorem accT_succ (f sh : Nat) {l : List VT} {k : Nat} (h : k < l.length) : accT f sh l (k + 1) = accT f sh l k ++ layT f (kidT l k) (sh + (accT f sh l k).length) := by
  unfold accT; rw [take_kid h, layKidsT_append]; rfl
theorem ksT_succ (f sh : Nat) {l : List VT} {k : Nat} (h : k < l.length) : ksT f sh l (k + 1) = ksT f sh l k ++ [((sh + (accT f sh l (k + 1)).length : Nat) : Int) - 1] := by
  rw [accT_succ f sh h]; unfold ksT accT; rw [take_kid h, layKidsT_append]; rfl

theorem accT_le (f sh : Nat) (l : List VT) (k : Nat) : (accT f sh l k).length ≤ (accT f sh l l.length).length := by
  have e : l.take l.length = l.take k ++ l.drop k := by simp
  have h := layKidsT_append (layT f) sh (l.take k) (l.drop k) [] []
  unfold accT
  rw [e, h]
  exact layKidsT_grow _ _ _ _ _

theorem layT_eq (f : Nat) (kind n : Int) (s : ByteArray) (keys : List ByteArray) (kids : List VT) (sh : Nat) :
    layT (f + 1) (.mk kind n s keys kids) sh = accT f sh kids kids.length ++ [{ kind := kind, n := n, s := s, keys := keys, kids := ksT f sh kids kids.length }] := by
  simp [layT, accT, ksT]

theorem layT_pos {B : Nat} {w : World} {f : Nat} {t : VT} {v : Value} (h : TreeAt B w f t v) (sh : Nat) : 0 < (layT f t sh).length := by
  cases f with
  | zero => exact h.elim
  | succ f => obtain ⟨kind, n, s, keys, kids⟩ := t; rw [layT_eq]; simp

/-! ### Nodes as trees -/
def treeOf (vs : List VN) : Nat → Nat → VT
  | 0, _ => VT.zero
  | f + 1, i => .mk (nodeAt vs i).kind (nodeAt vs i).n (nodeAt vs i).s (nodeAt vs i).keys ((nodeAt vs i).kids.map fun k => treeOf vs f k.toNat)

theorem layKids_tree (vs : List VN) (f sh : Nat) (ih : ∀ i s, lay vs f i s = layT f (treeOf vs f i) s) : ∀ (l : List Int) (acc : List VN) (ks : List Int), layKids (lay vs f) sh l acc ks = layKidsT (layT f) sh (l.map fun k => treeOf vs f k.toNat) acc ks := by
  intro l
  induction l with
  | nil => intro acc ks; rfl
  | cons k r ihr => intro acc ks; rw [layKids, List.map_cons, layKidsT, ihr, ih]

theorem lay_tree (vs : List VN) : ∀ (f i sh : Nat), lay vs f i sh = layT f (treeOf vs f i) sh := by
  intro f
  induction f with
  | zero => intro i sh; rfl
  | succ f ih =>
    intro i sh
    rw [lay, treeOf, layT, layKids_tree vs f sh ih]

theorem kidT_map {l : List Int} {g : Int → VT} {j : Nat} (h : j < l.length) : kidT (l.map g) j = g (intAt l j) := by
  rw [intAt_get h]; simp [kidT, h]

theorem ValIs.tree {lo B : Nat} {w : World} {vs : List VN} (hlo : lo ≤ B) (hr : ∀ k, k < vs.length → nodeB (nodeAt vs k) = true ∧ kidsIn vs k = true) (hk : ∀ k, k < vs.length → (nodeAt vs k).kids.length ≤ k) (h80 : vs.length ≤ 80) : ∀ {f i : Nat} {v : Value}, i < vs.length → ValIs lo B w vs f i v → TreeAt B w f (treeOf vs f i) v := by
  intro f
  induction f with
  | zero => intro i v _ h; exact h.elim
  | succ f ih =>
    intro i v hi h
    have hit : ∀ it, ItemsAt lo B w it (nodeAt vs i).kids.length (fun j u => ValIs lo B w vs f (intAt (nodeAt vs i).kids j).toNat u) → TItems B w it ((nodeAt vs i).kids.map fun k => treeOf vs f k.toNat).length (fun j u => TreeAt B w f (kidT ((nodeAt vs i).kids.map fun k => treeOf vs f k.toNat) j) u) := by
      rintro it ⟨a, cap, e, hx⟩
      refine ⟨by have := hk i hi; simp; omega, a, cap, by simpa using e, fun hn => ?_⟩
      rw [List.length_map] at hn
      obtain ⟨b, ea, h1, h2, h3⟩ := hx hn
      refine ⟨b, ea, h2, fun j hj => ?_⟩
      rw [List.length_map] at hj
      obtain ⟨t, x, hcc, hv⟩ := h3 j hj
      refine ⟨t, x, hcc, ?_⟩
      show TreeAt B w f (kidT ((nodeAt vs i).kids.map fun k => treeOf vs f k.toNat) j) (.iface t x)
      rw [kidT_map hj]
      have hb := kidsIn_get (hr i hi).2 hj
      exact ih (by omega) hv
    have hn := (hr i hi).1
    unfold nodeB unnamedB at hn
    have es : ∀ s : ByteArray, s.toList = [] → s = ByteArray.empty := fun s h => by
      cases s with | mk d => rw [ByteArray.toList_eq] at h; simp at h; subst h; rfl
    simp only [Bool.and_eq_true, Bool.not_eq_true', Bool.and_eq_false_iff, decide_eq_false_iff_not, Decidable.not_not, Nat.not_lt, Nat.le_zero, List.length_eq_zero_iff] at hn
    obtain ⟨⟨⟨⟨n1, n2⟩, n3⟩, n4⟩, _⟩ := hn
    rw [treeOf]
    rcases h with ⟨k1, e⟩ | ⟨k2, e⟩ | ⟨k3, e⟩ | ⟨k4, e⟩ | ⟨k5, it, e, hi⟩ | ⟨k6, ks, it, e, hs, hi⟩
    · exact Or.inl ⟨k1, by omega, es _ (by rcases n2 with h | h; omega; exact h), by rcases n3 with h | h; omega; exact h, by rcases n4 with (h | h) | h; omega; omega; rw [h]; rfl, e⟩
    · exact Or.inr (Or.inl ⟨k2, es _ (by rcases n2 with h | h; omega; exact h), by rcases n3 with h | h; omega; exact h, by rcases n4 with (h | h) | h; omega; omega; rw [h]; rfl, e⟩)
    · exact Or.inr (Or.inr (Or.inl ⟨k3, es _ (by rcases n2 with h | h; omega; exact h), by rcases n3 with h | h; omega; exact h, by rcases n4 with (h | h) | h; omega; omega; rw [h]; rfl, e⟩))
    · exact Or.inr (Or.inr (Or.inr (Or.inl ⟨k4, by omega, by rcases n3 with h | h; omega; exact h, by rcases n4 with (h | h) | h; omega; omega; rw [h]; rfl, e⟩)))
    · exact Or.inr (Or.inr (Or.inr (Or.inr (Or.inl ⟨k5, by omega, es _ (by rcases n2 with h | h; omega; exact h), by rcases n3 with h | h; omega; exact h, it, e, hit it hi⟩))))
    · exact Or.inr (Or.inr (Or.inr (Or.inr (Or.inr ⟨k6, by omega, es _ (by rcases n2 with h | h; omega; exact h), ks, it, e, hs.wide hlo, hit it hi⟩))))
end Go.Proofs.Ytgnaakdgffkghaa

/-
  A part's nodes: plain mathematics.
-/
namespace Go.Proofs.Ytgnaakdgffkghaa
open Go.RowKit
set_option linter.unusedSimpArgs false
set_option linter.unusedVariables false

/-- There is a part: the value is right, and n one of its nodes. -/
def partB (vs : List VN) (n : Int) : Bool := okB vs && inB n 0 ((vs.length : Int) - 1)

/-- The part's nodes. -/
def partOf (vs : List VN) (n : Nat) : List VN := run vs (-(trF (tr (kidsOf vs) n))) (trF (tr (kidsOf vs) n)).toNat (n + 1 - (trF (tr (kidsOf vs) n)).toNat)

theorem keys_few {vs : List VN} (h : okB vs = true) : ∀ k, k < vs.length → kidsIn vs k = true ∧ (nodeAt vs k).kids.length ≤ 80 ∧ (nodeAt vs k).keys.length ≤ 80 := by
  intro k hk
  obtain ⟨h1, h2, _, h4⟩ := okB_parts h
  have hn := h2 k hk
  have := h4 k hk
  refine ⟨hn.2, by omega, ?_⟩
  by_cases e : (nodeAt vs k).kind = 6
  · have hb := hn.1
    unfold nodeB namedB at hb
    simp [e] at hb
    omega
  · have hb := hn.1
    unfold nodeB unnamedB at hb
    simp [e] at hb
    have := hb.1.1.2
    simp [this]

theorem lay_part {vs : List VN} (hok : okB vs = true) {f m : Nat} (hf : m < f) (hm : m < vs.length) : layT f (treeOf vs f m) 0 = partOf vs m ∧ (partOf vs m).length ≤ 80 := by
  obtain ⟨p1, _, p3, _⟩ := okB_parts hok
  obtain ⟨⟨a0, h0⟩, htr⟩ := p3 m hm
  have e : partOf vs m = run vs (-(a0 : Int)) a0 (m + 1 - a0) := by rw [partOf, htr]; simp [trF]
  rw [← lay_tree, lay_run vs f m 0 a0 h0 hf htr, e]
  exact ⟨by simp, by rw [run_length]; omega⟩

/-- A part's nodes fit, and are few. -/
theorem part_fits {vs : List VN} (hok : okB vs = true) (hf : ∀ i, i < vs.length → Fits (nodeAt vs i)) {m : Nat} (hm : m < vs.length) : ∀ i, i < (partOf vs m).length → Fits (nodeAt (partOf vs m) i) ∧ (nodeAt (partOf vs m) i).keys.length ≤ 80 ∧ (nodeAt (partOf vs m) i).kids.length ≤ 80 := by
  obtain ⟨p1, p2, p3, p4⟩ := okB_parts hok
  obtain ⟨⟨a0, h0⟩, htr⟩ := p3 m hm
  have e : partOf vs m = run vs (-(a0 : Int)) a0 (m + 1 - a0) := by rw [partOf, htr]; simp [trF]
  rw [e]
  intro i hi
  rw [run_length] at hi
  have en : nodeAt (run vs (-(a0 : Int)) a0 (m + 1 - a0)) i = shiftN (-(a0 : Int)) (nodeAt vs (a0 + i)) := by
    unfold run
    conv => lhs; unfold nodeAt
    rw [List.getD_eq_getElem?_getD, List.getElem?_map, List.getElem?_range' (by omega)]
    simp [nodeAt]
  rw [en]
  have f := hf (a0 + i) (by omega)
  have kf := keys_few hok (a0 + i) (by omega)
  refine ⟨⟨f.keysN, f.keysS, by simpa [shiftN] using f.kidsN, fun j hj => ?_, f.size, f.klo, f.khi, f.nlo, f.nhi⟩, kf.2.2, by simpa [shiftN] using kf.2.1⟩
  have hj' : j < (nodeAt vs (a0 + i)).kids.length := by simpa [shiftN] using hj
  have hb := kidsIn_get kf.1 hj'
  have ei : intAt (shiftN (-(a0 : Int)) (nodeAt vs (a0 + i))).kids j = intAt (nodeAt vs (a0 + i)).kids j + -(a0 : Int) := by
    rw [intAt_get hj, intAt_get hj']; simp [shiftN]
  rw [ei]
  omega
end Go.Proofs.Ytgnaakdgffkghaa

/-
  Two right values are the same just where their order is 0. Plain mathematics.
-/
namespace Go.Proofs.Ytgnaakdgffkghaa
open Go.RowKit
set_option linter.unusedSimpArgs false
set_option linter.unusedVariables false

theorem comb_zero {x y : Int} : comb x y = 0 ↔ x = 0 ∧ y = 0 := by
  unfold comb
  by_cases e : x = 0 <;> simp [e]

theorem cmpKeys_zero (hS : ∀ a b : ByteArray, cmpS a b = 0 → a = b) : ∀ l m, cmpKeys l m = 0 → l = m := by
  intro l
  induction l with
  | nil => intro m h; cases m with
    | nil => rfl
    | cons b m => rw [cmpKeys_lex.nc] at h; omega
  | cons a l ih => intro m h; cases m with
    | nil => rw [cmpKeys_lex.cn] at h; omega
    | cons b m =>
      rw [cmpKeys_lex.cc, comb_zero] at h
      rw [hS a b h.1, ih m h.2]

theorem cmpKids_zero {α : Type} {R : Int → Int → Int} {g g' : Int → α} (hR : ∀ a b, R a b = 0 → g a = g' b) : ∀ l m, cmpKids R l m = 0 → l.map g = m.map g' := by
  intro l
  induction l with
  | nil => intro m h; cases m with
    | nil => rfl
    | cons b m => rw [(cmpKids_lex R).nc] at h; omega
  | cons a l ih => intro m h; cases m with
    | nil => rw [(cmpKids_lex R).cn] at h; omega
    | cons b m =>
      rw [(cmpKids_lex R).cc, comb_zero] at h
      rw [List.map_cons, List.map_cons, hR a b h.1, ih m h.2]

theorem ord_zero (hS : ∀ a b : ByteArray, cmpS a b = 0 → a = b) (us vs : List VN) : ∀ f n m, ord us vs f n m = 0 → treeOf us f n = treeOf vs f m := by
  intro f
  induction f with
  | zero => intro n m _; rfl
  | succ f ih =>
    intro n m h
    rw [ord_comb, comb_zero, comb_zero, comb_zero, comb_zero] at h
    obtain ⟨h1, h2, h3, h4, h5⟩ := h
    rw [treeOf, treeOf, (cmpI_zero _ _).1 h1, (cmpI_zero _ _).1 h2, hS _ _ h3, cmpKeys_zero hS _ _ h4, cmpKids_zero (g := fun k => treeOf us f k.toNat) (g' := fun k => treeOf vs f k.toNat) (fun a b hab => ih a.toNat b.toNat hab) _ _ h5]

theorem cmpS_eq (a b : ByteArray) (h : cmpS a b = 0) : a = b := by
  have e : a.toList = b.toList := (cmpL_zero _ _).1 h
  rw [Lib.toList_data, Lib.toList_data] at e
  rw [← Lib.mk_data a, ← Lib.mk_data b, e]

theorem shift_zero (x : VN) : shiftN 0 x = x := by
  unfold shiftN
  have : x.kids.map (· + (0 : Int)) = x.kids := by
    have : (fun k : Int => k + 0) = id := by funext k; simp
    rw [this, List.map_id]
  rw [this]

/-- The root's part is the whole. -/
theorem part_root {vs : List VN} (hok : okB vs = true) : partOf vs (vs.length - 1) = vs := by
  have hs := (okB_parts hok).1
  have hr : rootB vs = true := by unfold okB at hok; simp only [Bool.and_eq_true] at hok; exact hok.2
  unfold rootB at hr
  split at hr
  · rename_i p e
    simp only [Bool.and_eq_true, decide_eq_true_eq] at hr
    unfold partOf
    rw [e]
    have e0 : trF (some p) = 0 := by show (p.1 : Int) = 0; omega
    rw [e0]
    have e1 : vs.length - 1 + 1 - (0 : Int).toNat = vs.length := by simp; omega
    rw [e1]
    unfold run
    apply List.ext_getElem
    · simp
    · intro j h1 h2
      simp only [List.getElem_map, List.getElem_range', Int.neg_zero]
      rw [shift_zero]
      unfold nodeAt
      rw [List.getD_eq_getElem?_getD, show (0 : Int).toNat + 1 * j = j by simp, List.getElem?_eq_getElem h2]
      rfl
  · cases hr

theorem orderOf_zero {us vs : List VN} (h1 : okB us = true) (h2 : okB vs = true) : orderOf us vs = 0 ↔ us = vs := by
  constructor
  · intro h
    rw [orderOf_at h1 h2 (F := us.length + vs.length) (by omega)] at h
    have ht := ord_zero cmpS_eq us vs _ _ _ h
    have p1 := (okB_parts h1).1
    have p2 := (okB_parts h2).1
    have l1 := (lay_part h1 (f := us.length + vs.length) (m := us.length - 1) (by omega) (by omega)).1
    have l2 := (lay_part h2 (f := us.length + vs.length) (m := vs.length - 1) (by omega) (by omega)).1
    rw [part_root h1] at l1
    rw [part_root h2] at l2
    rw [ht] at l1
    exact l1.symm.trans l2
  · intro h
    subst h
    exact orderOf_refl h1
end Go.Proofs.Ytgnaakdgffkghaa
