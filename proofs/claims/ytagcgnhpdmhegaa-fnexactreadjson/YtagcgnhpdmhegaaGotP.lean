/-
  Values as trees: how one lies behind the interface, and which nodes are laid for it.
-/
import Derived.Test.YtagcgnhpdmhegaaSPart
import Derived.Test.YtagcgnhpdmhegaaStb
namespace Go.Proofs.Ytagcgnhpdmhegaa
open Go.RowKit
set_option linter.unusedSimpArgs false
set_option linter.unusedVariables false

inductive VT where
  | mk (kind n : Int) (s : ByteArray) (keys : List ByteArray) (kids : List VT)

def VT.zero : VT := .mk 0 0 ByteArray.empty [] []
def kidT (l : List VT) (j : Nat) : VT := l.getD j VT.zero

def TItems (B : Nat) (w : World) (it : Value) (n : Nat) (P : Nat → Value → Prop) : Prop :=
  n ≤ 100000 ∧ ∃ a cap, it = .slice a n cap ∧ (0 < n → ∃ b, a = some ⟨b, 0, none⟩ ∧ b < B ∧ ∀ j, j < n → ∃ t x, w.cell? ⟨b, j, none⟩ = some (.iface t x) ∧ P j (.iface t x))

/-- The value of a tree; its rows lie below block B. -/
def TreeAt (B : Nat) (w : World) : Nat → VT → Value → Prop
  | 0, _, _ => False
  | f + 1, .mk kind n s keys kids, v =>
    (kind = 1 ∧ n = 0 ∧ s = ByteArray.empty ∧ keys = [] ∧ kids = [] ∧ v = .iface 96 (.agg #[])) ∨
    (kind = 2 ∧ s = ByteArray.empty ∧ keys = [] ∧ kids = [] ∧ v = .iface 82 (.agg #[.int .i64 n])) ∨
    (kind = 3 ∧ s = ByteArray.empty ∧ keys = [] ∧ kids = [] ∧ v = .iface 83 (.agg #[.int .i64 n])) ∨
    (kind = 4 ∧ n = 0 ∧ keys = [] ∧ kids = [] ∧ v = .iface 85 (.agg #[.string s])) ∨
    (kind = 5 ∧ n = 0 ∧ s = ByteArray.empty ∧ keys = [] ∧ ∃ it, v = .iface 112 (.agg #[it]) ∧ TItems B w it kids.length (fun j u => TreeAt B w f (kidT kids j) u)) ∨
    (kind = 6 ∧ n = 0 ∧ s = ByteArray.empty ∧ ∃ ks it, v = .iface 87 (.agg #[ks, it]) ∧ StrsAt B w ks keys ∧ TItems B w it kids.length (fun j u => TreeAt B w f (kidT kids j) u))

theorem TreeAt.keep {B B' : Nat} {w w' : World} (hk : ∀ k, k < B → w'.heap[k]? = w.heap[k]?) (hB : B ≤ B') : ∀ {f : Nat} {t : VT} {v : Value}, TreeAt B w f t v → TreeAt B' w' f t v := by
  intro f
  induction f with
  | zero => intro t v h; exact h.elim
  | succ f ih =>
    intro t v h
    obtain ⟨kind, n, s, keys, kids⟩ := t
    have hc : ∀ b j, b < B → w'.cell? ⟨b, j, none⟩ = w.cell? ⟨b, j, none⟩ := fun b j hb => World.cell?_of_block (hk b hb)
    have hit : ∀ it, TItems B w it kids.length (fun j u => TreeAt B w f (kidT kids j) u) → TItems B' w' it kids.length (fun j u => TreeAt B' w' f (kidT kids j) u) := by
      rintro it ⟨h0, a, cap, e, hx⟩
      refine ⟨h0, a, cap, e, fun hn => ?_⟩
      obtain ⟨b, ea, h2, h3⟩ := hx hn
      refine ⟨b, ea, by omega, fun j hj => ?_⟩
      obtain ⟨t, x, hcc, hv⟩ := h3 j hj
      exact ⟨t, x, (hc b j h2).trans hcc, ih hv⟩
    rcases h with h | h | h | h | ⟨h1, h2, h3, h4, it, e, hi⟩ | ⟨h1, h2, h3, ks, it, e, hs, hi⟩
    · exact Or.inl h
    · exact Or.inr (Or.inl h)
    · exact Or.inr (Or.inr (Or.inl h))
    · exact Or.inr (Or.inr (Or.inr (Or.inl h)))
    · exact Or.inr (Or.inr (Or.inr (Or.inr (Or.inl ⟨h1, h2, h3, h4, it, e, hit it hi⟩))))
    · exact Or.inr (Or.inr (Or.inr (Or.inr (Or.inr ⟨h1, h2, h3, ks, it, e, (hs.keep (lo := B) (B := B) (fun k _ hk' => hk k hk') (Nat.le_refl _)).wide hB, hit it hi⟩))))

theorem TreeAt.more {B : Nat} {w : World} : ∀ {f g : Nat} {t : VT} {v : Value}, f ≤ g → TreeAt B w f t v → TreeAt B w g t v := by
  intro f
  induction f with
  | zero => intro g t v _ h; exact h.elim
  | succ f ih =>
    intro g t v hfg h
    match g, hfg with
    | g + 1, hfg =>
      obtain ⟨kind, n, s, keys, kids⟩ := t
      have hit : ∀ it, TItems B w it kids.length (fun j u => TreeAt B w f (kidT kids j) u) → TItems B w it kids.length (fun j u => TreeAt B w g (kidT kids j) u) := by
        rintro it ⟨h0, a, cap, e, hx⟩
        refine ⟨h0, a, cap, e, fun hn => ?_⟩
        obtain ⟨b, ea, h2, h3⟩ := hx hn
        refine ⟨b, ea, by omega, fun j hj => ?_⟩
        obtain ⟨t, x, hcc, hv⟩ := h3 j hj
        exact ⟨t, x, hcc, ih (by omega) hv⟩
      rcases h with h | h | h | h | ⟨h1, h2, h3, h4, it, e, hi⟩ | ⟨h1, h2, h3, ks, it, e, hs, hi⟩
      · exact Or.inl h
      · exact Or.inr (Or.inl h)
      · exact Or.inr (Or.inr (Or.inl h))
      · exact Or.inr (Or.inr (Or.inr (Or.inl h)))
      · exact Or.inr (Or.inr (Or.inr (Or.inr (Or.inl ⟨h1, h2, h3, h4, it, e, hit it hi⟩))))
      · exact Or.inr (Or.inr (Or.inr (Or.inr (Or.inr ⟨h1, h2, h3, ks, it, e, hs, hit it hi⟩))))

/-! ### The nodes that are laid -/
def layKidsT (F : VT → Nat → List VN) (sh : Nat) : List VT → List VN → List Int → List VN × List Int
  | [], acc, ks => (acc, ks)
  | k :: r, acc, ks => layKidsT F sh r (acc ++ F k (sh + acc.length)) (ks ++ [((sh + (acc ++ F k (sh + acc.length)).length : Nat) : Int) - 1])

def layT : Nat → VT → Nat → List VN
  | 0, _, _ => []
  | f + 1, .mk kind n s keys kids, sh => (layKidsT (layT f) sh kids [] []).1 ++ [{ kind := kind, n := n, s := s, keys := keys, kids := (layKidsT (layT f) sh kids [] []).2 }]

theorem layKidsT_append (F : VT → Nat → List VN) (sh : Nat) : ∀ (l m : List VT) (acc : List VN) (ks : List Int), layKidsT F sh (l ++ m) acc ks = layKidsT F sh m (layKidsT F sh l acc ks).1 (layKidsT F sh l acc ks).2 := by
  intro l
  induction l with
  | nil => intro m acc ks; rfl
  | cons k r ih => intro m acc ks; exact ih m _ _

theorem layKidsT_grow (F : VT → Nat → List VN) (sh : Nat) : ∀ (l : List VT) (acc : List VN) (ks : List Int), acc.length ≤ (layKidsT F sh l acc ks).1.length := by
  intro l
  induction l with
  | nil => intro acc ks; exact Nat.le_refl _
  | cons k r ih => intro acc ks; exact Nat.le_trans (by simp) (ih _ _)

theorem layKidsT_kids (F : VT → Nat → List VN) (sh : Nat) : ∀ (l : List VT) (acc : List VN) (ks : List Int), (layKidsT F sh l acc ks).2.length = ks.length + l.length := by
  intro l
  induction l with
  | nil => intro acc ks; rfl
  | cons k r ih => intro acc ks; rw [layKidsT, ih]; simp; omega

/-- After the first k parts. -/
def accT (f sh : Nat) (l : List VT) (k : Nat) : List VN := (layKidsT (layT f) sh (l.take k) [] []).1
def ksT (f sh : Nat) (l : List VT) (k : Nat) : List Int := (layKidsT (layT f) sh (l.take k) [] []).2

theorem accT_zero (f sh : Nat) (l : List VT) : accT f sh l 0 = [] := by simp [accT, layKidsT]
theorem ksT_zero (f sh : Nat) (l : List VT) : ksT f sh l 0 = [] := by simp [ksT, layKidsT]
theorem ksT_len (f sh : Nat) (l : List VT) {k : Nat} (h : k ≤ l.length) : (ksT f sh l k).length = k := by
  unfold ksT; rw [layKidsT_kids]; simp; omega

theorem take_kid {l : List VT} {k : Nat} (h : k < l.length) : l.take (k + 1) = l.take k ++ [kidT l k] := by
  rw [List.take_add_one, List.getElem?_eq_getElem h]
  simp [kidT, h]

theorem accT_succ (f sh : Nat) {l : List VT} {k : Nat} (h : k < l.length) : accT f sh l (k + 1) = accT f sh l k ++ layT f (kidT l k) (sh + (accT f sh l k).length) := by
  unfold accT; rw [take_kid h, layKidsT_append]; rfl
theorem ksT_succ (f sh : Nat) {l : List VT} {k : Nat} (h : k < l.length) : ksT f sh l (k + 1) = ksT f sh l k ++ [((sh + (accT f sh l (k + 1)).length : Nat) : Int) - 1] := by
  rw [accT_succ f sh h]; unfold ksT accT; rw [take_kid h, layKidsT_append]; rfl

theorem accT_le (f sh : Nat) (l : List VT) (k : Nat) : (accT f sh l k).length ≤ (accT f sh l l.length).length := by
  have e : l.take l.length = l.take k ++ l.drop k := by simp
  have h := layKidsT_append (layT f) sh (l.take k) (l.drop k) [] []
  unfold accT
  rw [e, h]
  exact layKidsT_grow _ _ _ _ _

theorem layT_eq (f : Nat) (kind n : Int) (s : ByteArray) (keys : List ByteArray) (kids : List VT) (sh : Nat) :
    layT (f + 1) (.mk kind n s keys kids) sh = accT f sh kids kids.length ++ [{ kind := kind, n := n, s := s, keys := keys, kids := ksT f sh kids kids.length }] := by
  simp [layT, accT, ksT]

theorem layT_pos {B : Nat} {w : World} {f : Nat} {t : VT} {v : Value} (h : TreeAt B w f t v) (sh : Nat) : 0 < (layT f t sh).length := by
  cases f with
  | zero => exact h.elim
  | succ f => obtain ⟨kind, n, s, keys, kids⟩ := t; rw [layT_eq]; simp

/-! ### Nodes as trees -/
def treeOf (vs : List VN) : Nat → Nat → VT
  | 0, _ => VT.zero
  | f + 1, i => .mk (nodeAt vs i).kind (nodeAt vs i).n (nodeAt vs i).s (nodeAt vs i).keys ((nodeAt vs i).kids.map fun k => treeOf vs f k.toNat)

theorem layKids_tree (vs : List VN) (f sh : Nat) (ih : ∀ i s, lay vs f i s = layT f (treeOf vs f i) s) : ∀ (l : List Int) (acc : List VN) (ks : List Int), layKids (lay vs f) sh l acc ks = layKidsT (layT f) sh (l.map fun k => treeOf vs f k.toNat) acc ks := by
  intro l
  induction l with
  | nil => intro acc ks; rfl
  | cons k r ihr => intro acc ks; rw [layKids, List.map_cons, layKidsT, ihr, ih]

theorem lay_tree (vs : List VN) : ∀ (f i sh : Nat), lay vs f i sh = layT f (treeOf vs f i) sh := by
  intro f
  induction f with
  | zero => intro i sh; rfl
  | succ f ih =>
    intro i sh
    rw [lay, treeOf, layT, layKids_tree vs f sh ih]

theorem kidT_map {l : List Int} {g : Int → VT} {j : Nat} (h : j < l.length) : kidT (l.map g) j = g (intAt l j) := by
  rw [intAt_get h]; simp [kidT, h]

theorem ValIs.tree {lo B : Nat} {w : World} {vs : List VN} (hlo : lo ≤ B) (hr : ∀ k, k < vs.length → nodeB (nodeAt vs k) = true ∧ kidsIn vs k = true) (hk : ∀ k, k < vs.length → (nodeAt vs k).kids.length ≤ k) (h80 : vs.length ≤ 80) : ∀ {f i : Nat} {v : Value}, i < vs.length → ValIs lo B w vs f i v → TreeAt B w f (treeOf vs f i) v := by
  intro f
  induction f with
  | zero => intro i v _ h; exact h.elim
  | succ f ih =>
    intro i v hi h
    have hit : ∀ it, ItemsAt lo B w it (nodeAt vs i).kids.length (fun j u => ValIs lo B w vs f (intAt (nodeAt vs i).kids j).toNat u) → TItems B w it ((nodeAt vs i).kids.map fun k => treeOf vs f k.toNat).length (fun j u => TreeAt B w f (kidT ((nodeAt vs i).kids.map fun k => treeOf vs f k.toNat) j) u) := by
      rintro it ⟨a, cap, e, hx⟩
      refine ⟨by have := hk i hi; simp; omega, a, cap, by simpa using e, fun hn => ?_⟩
      rw [List.length_map] at hn
      obtain ⟨b, ea, h1, h2, h3⟩ := hx hn
      refine ⟨b, ea, h2, fun j hj => ?_⟩
      rw [List.length_map] at hj
      obtain ⟨t, x, hcc, hv⟩ := h3 j hj
      refine ⟨t, x, hcc, ?_⟩
      show TreeAt B w f (kidT ((nodeAt vs i).kids.map fun k => treeOf vs f k.toNat) j) (.iface t x)
      rw [kidT_map hj]
      have hb := kidsIn_get (hr i hi).2 hj
      exact ih (by omega) hv
    have hn := (hr i hi).1
    unfold nodeB unnamedB at hn
    have es : ∀ s : ByteArray, s.toList = [] → s = ByteArray.empty := fun s h => by
      cases s with | mk d => rw [ByteArray.toList_eq] at h; simp at h; subst h; rfl
    simp only [Bool.and_eq_true, Bool.not_eq_true', Bool.and_eq_false_iff, decide_eq_false_iff_not, Decidable.not_not, Nat.not_lt, Nat.le_zero, List.length_eq_zero_iff] at hn
    obtain ⟨⟨⟨⟨n1, n2⟩, n3⟩, n4⟩, _⟩ := hn
    rw [treeOf]
    rcases h with ⟨k1, e⟩ | ⟨k2, e⟩ | ⟨k3, e⟩ | ⟨k4, e⟩ | ⟨k5, it, e, hi⟩ | ⟨k6, ks, it, e, hs, hi⟩
    · exact Or.inl ⟨k1, by omega, es _ (by rcases n2 with h | h; omega; exact h), by rcases n3 with h | h; omega; exact h, by rcases n4 with (h | h) | h; omega; omega; rw [h]; rfl, e⟩
    · exact Or.inr (Or.inl ⟨k2, es _ (by rcases n2 with h | h; omega; exact h), by rcases n3 with h | h; omega; exact h, by rcases n4 with (h | h) | h; omega; omega; rw [h]; rfl, e⟩)
    · exact Or.inr (Or.inr (Or.inl ⟨k3, es _ (by rcases n2 with h | h; omega; exact h), by rcases n3 with h | h; omega; exact h, by rcases n4 with (h | h) | h; omega; omega; rw [h]; rfl, e⟩))
    · exact Or.inr (Or.inr (Or.inr (Or.inl ⟨k4, by omega, by rcases n3 with h | h; omega; exact h, by rcases n4 with (h | h) | h; omega; omega; rw [h]; rfl, e⟩)))
    · exact Or.inr (Or.inr (Or.inr (Or.inr (Or.inl ⟨k5, by omega, es _ (by rcases n2 with h | h; omega; exact h), by rcases n3 with h | h; omega; exact h, it, e, hit it hi⟩))))
    · exact Or.inr (Or.inr (Or.inr (Or.inr (Or.inr ⟨k6, by omega, es _ (by rcases n2 with h | h; omega; exact h), ks, it, e, hs.wide hlo, hit it hi⟩))))
end Go.Proofs.Ytagcgnhpdmhegaa

/-
  A part's nodes: plain mathematics.
-/
namespace Go.Proofs.Ytagcgnhpdmhegaa
open Go.RowKit
set_option linter.unusedSimpArgs false
set_option linter.unusedVariables false

/-- There is a part: the value is right, and n one of its nodes. -/
def partB (vs : List VN) (n : Int) : Bool := okB vs && inB n 0 ((vs.length : Int) - 1)

/-- The part's nodes. -/
def partOf (vs : List VN) (n : Nat) : List VN := run vs (-(trF (tr (kidsOf vs) n))) (trF (tr (kidsOf vs) n)).toNat (n + 1 - (trF (tr (kidsOf vs) n)).toNat)

theorem keys_few {vs : List VN} (h : okB vs = true) : ∀ k, k < vs.length → kidsIn vs k = true ∧ (nodeAt vs k).kids.length ≤ 80 ∧ (nodeAt vs k).keys.length ≤ 80 := by
  intro k hk
  obtain ⟨h1, h2, _, h4⟩ := okB_parts h
  have hn := h2 k hk
  have := h4 k hk
  refine ⟨hn.2, by omega, ?_⟩
  by_cases e : (nodeAt vs k).kind = 6
  · have hb := hn.1
    unfold nodeB namedB at hb
    simp [e] at hb
    omega
  · have hb := hn.1
    unfold nodeB unnamedB at hb
    simp [e] at hb
    have := hb.1.1.2
    simp [this]

theorem lay_part {vs : List VN} (hok : okB vs = true) {f m : Nat} (hf : m < f) (hm : m < vs.length) : layT f (treeOf vs f m) 0 = partOf vs m ∧ (partOf vs m).length ≤ 80 := by
  obtain ⟨p1, _, p3, _⟩ := okB_parts hok
  obtain ⟨⟨a0, h0⟩, htr⟩ := p3 m hm
  have e : partOf vs m = run vs (-(a0 : Int)) a0 (m + 1 - a0) := by rw [partOf, htr]; simp [trF]
  rw [← lay_tree, lay_run vs f m 0 a0 h0 hf htr, e]
  exact ⟨by simp, by rw [run_length]; omega⟩

/-- A part's nodes fit, and are few. -/
theorem part_fits {vs : List VN} (hok : okB vs = true) (hf : ∀ i, i < vs.length → Fits (nodeAt vs i)) {m : Nat} (hm : m < vs.length) : ∀ i, i < (partOf vs m).length → Fits (nodeAt (partOf vs m) i) ∧ (nodeAt (partOf vs m) i).keys.length ≤ 80 ∧ (nodeAt (partOf vs m) i).kids.length ≤ 80 := by
  obtain ⟨p1, p2, p3, p4⟩ := okB_parts hok
  obtain ⟨⟨a0, h0⟩, htr⟩ := p3 m hm
  have e : partOf vs m = run vs (-(a0 : Int)) a0 (m + 1 - a0) := by rw [partOf, htr]; simp [trF]
  rw [e]
  intro i hi
  rw [run_length] at hi
  have en : nodeAt (run vs (-(a0 : Int)) a0 (m + 1 - a0)) i = shiftN (-(a0 : Int)) (nodeAt vs (a0 + i)) := by
    unfold run
    conv => lhs; unfold nodeAt
    rw [List.getD_eq_getElem?_getD, List.getElem?_map, List.getElem?_range' (by omega)]
    simp [nodeAt]
  rw [en]
  have f := hf (a0 + i) (by omega)
  have kf := keys_few hok (a0 + i) (by omega)
  refine ⟨⟨f.keysN, f.keysS, by simpa [shiftN] using f.kidsN, fun j hj => ?_, f.size, f.klo, f.khi, f.nlo, f.nhi⟩, kf.2.2, by simpa [shiftN] using kf.2.1⟩
  have hj' : j < (nodeAt vs (a0 + i)).kids.length := by simpa [shiftN] using hj
  have hb := kidsIn_get kf.1 hj'
  have ei : intAt (shiftN (-(a0 : Int)) (nodeAt vs (a0 + i))).kids j = intAt (nodeAt vs (a0 + i)).kids j + -(a0 : Int) := by
    rw [intAt_get hj, intAt_get hj']; simp [shiftN]
  rw [ei]
  omega
end Go.Proofs.Ytagcgnhpdmhegaa

/-
  A part of a right value is right. Plain mathematics.
-/
namespace Go.Proofs.Ytagcgnhpdmhegaa
open Go.RowKit
set_option linter.unusedSimpArgs false
set_option linter.unusedVariables false

theorem fold_cover {K : Nat → List Int} : ∀ (l : List Int) (b h : Nat) (q : Nat × Nat), l.foldl (stepKid (tr K)) (some (b, h)) = some q → h ≤ q.2 ∧ q.1 ≤ b ∧ ∀ m, q.1 ≤ m → m < b → ∃ k p, tr K k = some p ∧ p.1 ≤ m ∧ m ≤ k ∧ q.1 ≤ p.1 ∧ p.2 ≤ q.2 ∧ k < b := by
  intro l
  induction l with
  | nil => intro b h q e; simp at e; subst e; exact ⟨Nat.le_refl _, Nat.le_refl _, fun m h1 h2 => absurd h1 (by simp only; omega)⟩
  | cons k l ih =>
    intro b h q e
    obtain ⟨p, h1, h2, h3, h4⟩ := fold_cons_some e
    have hp := tr_le h3
    obtain ⟨i1, i2, i3⟩ := ih _ _ _ h4
    refine ⟨by omega, by omega, fun m hm1 hm2 => ?_⟩
    by_cases c : m < p.1
    · obtain ⟨k', p', a1, a2, a3, a4, a5, a6⟩ := i3 m hm1 c
      exact ⟨k', p', a1, a2, a3, a4, a5, by omega⟩
    · exact ⟨b - 1, p, h3, by omega, by omega, i2, by omega, by omega⟩

theorem tr_fold {K : Nat → List Int} {n : Nat} {p : Nat × Nat} (h : tr K n = some p) : ∃ q, (K n).reverse.foldl (stepKid (tr K)) (some (n, 0)) = some q ∧ p = (q.1, q.2 + 1) := by
  rw [tr_eq] at h
  cases e : (K n).reverse.foldl (stepKid (tr K)) (some (n, 0)) with
  | none => simp [e] at h
  | some q => simp [e] at h; exact ⟨q, rfl, h.symm⟩

/-- Below a node: no tree begins ahead of its first one, none is higher. -/
theorem tr_sub {K : Nat → List Int} : ∀ (N n : Nat) (p : Nat × Nat), n < N → tr K n = some p → ∀ m, p.1 ≤ m → m ≤ n → ∃ r, tr K m = some r ∧ p.1 ≤ r.1 ∧ r.2 ≤ p.2 := by
  intro N
  induction N with
  | zero => intro n p h; omega
  | succ N ih =>
    intro n p hN h m h1 h2
    by_cases e : m = n
    · subst e; exact ⟨p, h, Nat.le_refl _, Nat.le_refl _⟩
    · obtain ⟨q, hq, rfl⟩ := tr_fold h
      obtain ⟨_, _, hc⟩ := fold_cover _ _ _ _ hq
      obtain ⟨k, r, a1, a2, a3, a4, a5, a6⟩ := hc m h1 (by omega)
      obtain ⟨r', b1, b2, b3⟩ := ih k r (by omega) a1 m a2 a3
      exact ⟨r', b1, by simp only at *; omega, by simp only at *; omega⟩

theorem fold_shift {T T' : Nat → Option (Nat × Nat)} {a N : Nat} (hT : ∀ m p, T m = some p → p.1 ≤ m) (he : ∀ m p, a ≤ m → m < N → T m = some p → a ≤ p.1 → T' (m - a) = some (p.1 - a, p.2)) : ∀ (l : List Int) (b h : Nat) (q : Nat × Nat), b ≤ N → l.foldl (stepKid T) (some (b, h)) = some q → a ≤ q.1 → (l.map (· + -(a : Int))).foldl (stepKid T') (some (b - a, h)) = some (q.1 - a, q.2) := by
  intro l
  induction l with
  | nil => intro b h q _ e _; simp at e; subst e; rfl
  | cons k l ih =>
    intro b h q hb e hq
    obtain ⟨p, h1, h2, h3, h4⟩ := fold_cons_some e
    have hp := hT _ _ h3
    have hl := fold_le hT _ _ _ _ h4
    have ht := he (b - 1) p (by omega) (by omega) h3 (by omega)
    rw [List.map_cons, List.foldl_cons]
    have hs : stepKid T' (some (b - a, h)) (k + -(a : Int)) = some (p.1 - a, max h p.2) := by
      simp only [stepKid]
      rw [if_pos ⟨by omega, by omega⟩, show b - a - 1 = b - 1 - a by omega, ht]
      rfl
    rw [hs]
    exact ih _ _ _ (by omega) h4 hq

theorem run_nodeAt {vs : List VN} {d : Int} {a n i : Nat} (h : i < n) : nodeAt (run vs d a n) i = shiftN d (nodeAt vs (a + i)) := by
  unfold run
  unfold nodeAt
  simp [h]

theorem nodeB_shift (d : Int) (x : VN) : nodeB (shiftN d x) = nodeB x := by
  unfold nodeB unnamedB namedB shiftN
  simp

theorem tr_shift {vs : List VN} {q a h : Nat} (ht : tr (kidsOf vs) q = some (a, h)) : ∀ (N i : Nat), i < N → a + i ≤ q → ∀ p, tr (kidsOf vs) (a + i) = some p → tr (kidsOf (run vs (-(a : Int)) a (q + 1 - a))) i = some (p.1 - a, p.2) := by
  intro N
  induction N with
  | zero => intro i h; omega
  | succ N ih =>
    intro i hN hi p hp
    have hap := tr_le ht
    simp only at hap
    obtain ⟨r, hr, h1, _⟩ := tr_sub _ _ _ (Nat.lt_succ_self _) ht (a + i) (by simp only; omega) hi
    rw [hp] at hr
    simp only [Option.some.injEq] at hr
    subst hr
    obtain ⟨w, hw, rfl⟩ := tr_fold hp
    have hk : kidsOf (run vs (-(a : Int)) a (q + 1 - a)) i = (kidsOf vs (a + i)).map (· + -(a : Int)) := by
      unfold kidsOf
      rw [run_nodeAt (by omega)]
      rfl
    rw [tr_eq, hk, ← List.map_reverse]
    have := fold_shift (T := tr (kidsOf vs)) (T' := tr (kidsOf (run vs (-(a : Int)) a (q + 1 - a)))) (a := a) (N := a + i) (fun m p h => tr_le h)
      (fun m p h1 h2 h3 h4 => by
        have := ih (m - a) (by omega) (by omega) p (by rw [show a + (m - a) = m by omega]; exact h3)
        exact this) _ _ _ _ (Nat.le_refl _) hw h1
    rw [show a + i - a = i by omega] at this
    rw [this]
    rfl

theorem part_okB {vs : List VN} (hok : okB vs = true) {m : Nat} (hm : m < vs.length) : okB (partOf vs m) = true := by
  obtain ⟨p1, p2, p3, p4⟩ := okB_parts hok
  obtain ⟨⟨a0, h0⟩, htr⟩ := p3 m hm
  have e : partOf vs m = run vs (-(a0 : Int)) a0 (m + 1 - a0) := by rw [partOf, htr]; simp [trF]
  have ha := tr_le htr
  simp only at ha
  have hroot : ∃ h, tr (kidsOf vs) (vs.length - 1) = some (0, h) ∧ h ≤ 8 := by
    unfold okB rootB at hok
    simp only [Bool.and_eq_true] at hok
    have h := hok.2
    cases e : tr (kidsOf vs) (vs.length - 1) with
    | none => simp [e] at h
    | some p => obtain ⟨a, b⟩ := p; simp [e] at h; obtain ⟨rfl, h8⟩ := h; exact ⟨b, rfl, h8⟩
  obtain ⟨hr, hr1, hr2⟩ := hroot
  obtain ⟨r, hr3, _, hr5⟩ := tr_sub _ _ _ (Nat.lt_succ_self _) hr1 m (Nat.zero_le _) (by omega)
  rw [htr] at hr3
  simp only [Option.some.injEq] at hr3
  subst hr3
  simp only at hr5
  have hlen : (partOf vs m).length = m + 1 - a0 := by rw [e, run_length]
  rw [← okB_eq]
  unfold tabB
  rw [hlen]
  have s1 : sizeB (partOf vs m) = true := by unfold sizeB; rw [hlen]; simp; omega
  have s2 : ((List.range (m + 1 - a0)).all fun i => nodeB (nodeAt (partOf vs m) i)) = true := by
    rw [List.all_eq_true]
    intro i hi
    have hi' := List.mem_range.1 hi
    rw [e, run_nodeAt hi', nodeB_shift]
    exact (p2 (a0 + i) (by omega)).1
  have s3 : ((List.range (m + 1 - a0)).all fun i => (tr (kidsOf (partOf vs m)) i).isSome) = true := by
    rw [List.all_eq_true]
    intro i hi
    have hi' := List.mem_range.1 hi
    obtain ⟨p, hp⟩ := p3 (a0 + i) (by omega)
    rw [e, tr_shift htr (i + 1) i (by omega) (by omega) p hp]
    rfl
  have s4 : rootB (partOf vs m) = true := by
    unfold rootB
    rw [hlen, e, tr_shift htr (m + 1) (m + 1 - a0 - 1) (by omega) (by omega) (a0, h0) (by rw [show a0 + (m + 1 - a0 - 1) = m by omega]; exact htr)]
    simp
    omega
  rw [s1, s2, s3, s4]
  rfl
end Go.Proofs.Ytagcgnhpdmhegaa

/-
  Paths into nodes: where a step leads, said by the place of a key among keys that rise. Plain mathematics.
-/
namespace Go.Proofs.Ytagcgnhpdmhegaa
open Go.RowKit
set_option linter.unusedSimpArgs false
set_option linter.unusedVariables false

theorem bytes_lt (x : List UInt8) : ∀ y : List UInt8, Op.bytesLess x y = true ↔ x < y := by
  induction x with
  | nil => intro y; cases y <;> simp [Op.bytesLess]
  | cons a x ih =>
    intro y
    cases y with
    | nil => simp [Op.bytesLess]
    | cons b y =>
      have h := ih y
      rw [List.cons_lt_cons_iff, ← h]
      by_cases h1 : a < b <;> by_cases h2 : a = b <;> simp [Op.bytesLess, h1, h2]

theorem less_iff (a b : ByteArray) : lessB a b = true ↔ a.toList < b.toList := bytes_lt _ _

theorem less_trans {a b c : ByteArray} (h1 : lessB a b = true) (h2 : lessB b c = true) : lessB a c = true := by
  rw [less_iff] at *; exact List.lt_trans h1 h2
theorem less_irr (a : ByteArray) : lessB a a = false := by
  cases h : lessB a a
  · rfl
  · rw [less_iff] at h; exact absurd h (List.lt_irrefl _)
theorem less_total {a b : ByteArray} (h1 : lessB a b = false) (h2 : a.toList ≠ b.toList) : lessB b a = true := by
  have h3 : ¬ a.toList < b.toList := fun h => by rw [← less_iff] at h; rw [h1] at h; cases h
  rw [less_iff]
  by_cases h : b.toList < a.toList
  · exact h
  · exact absurd (List.le_antisymm (List.not_lt.1 h) (List.not_lt.1 h3)) h2

/-- Keys rise: each is ahead of the next one. -/
def Rise (l : List ByteArray) : Prop := ∀ i j, i < j → j < l.length → lessB (keyAt l i) (keyAt l j) = true

theorem riseB_rise {l : List ByteArray} (h : riseB l = true) : Rise l := by
  unfold riseB at h
  rw [List.all_eq_true] at h
  have h1 : ∀ j, j < l.length → 0 < j → lessB (keyAt l (j - 1)) (keyAt l j) = true := by
    intro j hj h0
    have := h j (List.mem_range.2 hj)
    unfold riseAt at this
    simp only [Bool.and_eq_true, Bool.or_eq_true, decide_eq_true_eq] at this
    rcases this.2 with e | e
    · omega
    · exact e
  intro i j hij hj
  induction j with
  | zero => omega
  | succ j ih =>
    have h2 := h1 (j + 1) hj (by omega)
    rw [Nat.add_sub_cancel] at h2
    by_cases e : i = j
    · subst e; exact h2
    · exact less_trans (ih (by omega) (by omega)) h2

/-- How many keys are ahead. -/
def posK (l : List ByteArray) (key : ByteArray) : Nat := (l.takeWhile fun k => lessB k key).length
/-- Is the key there? -/
def hasK (l : List ByteArray) (key : ByteArray) : Bool := decide (posK l key < l.length) && decide ((keyAt l (posK l key)).toList = key.toList)

theorem take_len {p : ByteArray → Bool} : ∀ {l : List ByteArray} {i : Nat}, i ≤ l.length → (∀ j, j < i → p (keyAt l j) = true) → (i < l.length → p (keyAt l i) = false) → (l.takeWhile p).length = i := by
  intro l
  induction l with
  | nil => intro i hi _ _; simp at hi; subst hi; rfl
  | cons a l ih =>
    intro i hi h1 h2
    cases i with
    | zero =>
      have := h2 (by simp)
      simp [keyAt] at this
      simp [List.takeWhile_cons, this]
    | succ i =>
      have ha := h1 0 (by omega)
      simp [keyAt] at ha
      rw [List.takeWhile_cons, if_pos ha, List.length_cons]
      rw [ih (i := i) (by simp at hi; omega) (fun j hj => by have := h1 (j + 1) (by omega); simpa [keyAt] using this) (fun hl => by have := h2 (by simp; omega); simpa [keyAt] using this)]

theorem posK_eq {l : List ByteArray} {key : ByteArray} {i : Nat} (hi : i ≤ l.length) (h1 : ∀ j, j < i → lessB (keyAt l j) key = true) (h2 : i < l.length → lessB (keyAt l i) key = false) : posK l key = i := take_len hi h1 h2

theorem posK_spec {l : List ByteArray} (key : ByteArray) : posK l key ≤ l.length ∧ (∀ j, j < posK l key → lessB (keyAt l j) key = true) ∧ (posK l key < l.length → lessB (keyAt l (posK l key)) key = false) := by
  unfold posK
  induction l with
  | nil => exact ⟨by simp, fun j hj => absurd hj (by simp), fun h => absurd h (by simp)⟩
  | cons a l ih =>
    cases h : lessB a key
    · rw [List.takeWhile_cons, h]
      refine ⟨by simp, fun j hj => absurd hj (by simp), fun _ => ?_⟩
      simpa [keyAt] using h
    · rw [List.takeWhile_cons, h]
      simp only [if_true, List.length_cons]
      refine ⟨by omega, fun j hj => ?_, fun hl => ?_⟩
      · cases j with
        | zero => simpa [keyAt] using h
        | succ j => have := ih.2.1 j (by omega); simpa [keyAt] using this
      · have := ih.2.2 (by omega); simpa [keyAt] using this

/-- Keys behind the place are not ahead of the key, but for the first they are behind it. -/
theorem Rise.behind {l : List ByteArray} (h : Rise l) {key : ByteArray} {i : Nat} (hi : i < l.length) (h1 : lessB (keyAt l i) key = false) {j : Nat} (hij : i < j) (hj : j < l.length) : lessB (keyAt l j) key = false ∧ (keyAt l j).toList ≠ key.toList := by
  have h2 := h i j hij hj
  have key1 : lessB key (keyAt l j) = true := by
    by_cases e : (keyAt l i).toList = key.toList
    · rw [less_iff] at h2 ⊢; rw [← e]; exact h2
    · exact less_trans (less_total h1 e) h2
  rw [less_iff] at key1
  refine ⟨?_, fun e => ?_⟩
  · cases h3 : lessB (keyAt l j) key
    · rfl
    · rw [less_iff] at h3; exact absurd (List.lt_trans h3 key1) (List.lt_irrefl _)
  · rw [e] at key1; exact absurd key1 (List.lt_irrefl _)

theorem less_ne {a b : ByteArray} (h : lessB a b = true) : a.toList ≠ b.toList := fun e => by
  rw [less_iff, e] at h; exact absurd h (List.lt_irrefl _)

/-- The place to which a step leads, of a value of that kind with those keys and so many parts. -/
def stepTo (kind : Int) (keys : List ByteArray) (n : Nat) (x : PS) : Option Nat :=
  if x.named = true then (if kind = 6 ∧ hasK keys x.key = true then some (posK keys x.key) else none)
  else if kind = 5 ∧ x.pl < (n : Int) then some x.pl.toNat else none

def stepN (x : VN) (s : PS) : Option Nat := stepTo x.kind x.keys x.kids.length s

/-- The first place of the key. -/
theorem hasK_first {l : List ByteArray} (h : Rise l) {key : ByteArray} {i : Nat} (hi : i < l.length) (he : (keyAt l i).toList = key.toList) (hf : ∀ j, j < i → (keyAt l j).toList ≠ key.toList) : hasK l key = true ∧ posK l key = i := by
  have hp : posK l key = i := posK_eq (by omega) (fun j hj => by
      have := h j i hj hi
      rw [less_iff] at this ⊢
      rw [← he]; exact this) (fun _ => by
      cases h3 : lessB (keyAt l i) key
      · rfl
      · exact absurd he (less_ne h3))
  refine ⟨?_, hp⟩
  unfold hasK
  rw [hp]
  simp [hi, he]

theorem hasK_none {l : List ByteArray} {key : ByteArray} (hf : ∀ j, j < l.length → (keyAt l j).toList ≠ key.toList) : hasK l key = false := by
  unfold hasK
  by_cases h : posK l key < l.length
  · simp [h, hf _ h]
  · simp [h]

/-- Following steps, node by node. -/
def gotN (vs : List VN) : Nat → List PS → Option Nat
  | i, [] => some i
  | i, s :: r => match stepN (nodeAt vs i) s with
    | none => none
    | some k => gotN vs (intAt (nodeAt vs i).kids k).toNat r

theorem stepN_lt {vs : List VN} {i k : Nat} {s : PS} (hs : s.named = true ∨ 0 ≤ s.pl) (hk : (nodeAt vs i).kind = 6 → (nodeAt vs i).keys.length = (nodeAt vs i).kids.length) (h : stepN (nodeAt vs i) s = some k) : k < (nodeAt vs i).kids.length := by
  unfold stepN stepTo at h
  split at h
  · split at h
    · rename_i h1 h2
      simp only [Option.some.injEq] at h
      subst h
      have := h2.2
      unfold hasK at this
      simp at this
      rw [← hk h2.1]
      exact this.1
    · cases h
  · split at h
    · rename_i h1 h2
      simp only [Option.some.injEq] at h
      subst h
      rcases hs with e | e
      · rw [e] at h1; exact absurd rfl h1
      · omega
    · cases h

theorem gotN_append (vs : List VN) : ∀ (p : List PS) (i : Nat) (s : PS), gotN vs i (p ++ [s]) = (gotN vs i p).bind fun j => match stepN (nodeAt vs j) s with | none => none | some k => some (intAt (nodeAt vs j).kids k).toNat := by
  intro p
  induction p with
  | nil =>
    intro i s
    simp only [List.nil_append, gotN, Option.bind_some]
  | cons a p ih =>
    intro i s
    simp only [List.cons_append, gotN]
    cases stepN (nodeAt vs i) a with
    | none => rfl
    | some k => exact ih _ s

theorem take_step {ps : List PS} {k : Nat} (h : k < ps.length) : ps.take (k + 1) = ps.take k ++ [stepAt ps k] := by
  rw [List.take_add_one, List.getElem?_eq_getElem h]
  simp [stepAt, h]

theorem gotN_none (vs : List VN) (i : Nat) {ps : List PS} {k : Nat} (h : gotN vs i (ps.take k) = none) : gotN vs i ps = none := by
  have e : ps = ps.take k ++ ps.drop k := by simp
  rw [e]
  generalize ps.drop k = r
  generalize ps.take k = q at h
  clear e
  induction q generalizing i with
  | nil => simp [gotN] at h
  | cons a q ih =>
    simp only [gotN, List.cons_append] at h ⊢
    cases hs : stepN (nodeAt vs i) a with
    | none => rfl
    | some k => rw [hs] at h; exact ih _ h
end Go.Proofs.Ytagcgnhpdmhegaa
