import Derived.Test.YtcidjhnogldgmaaGreatDoorSpc3
import Derived.Test.YtcidjhnogldgmaaGreatDoorTo
import Derived.RangeFuncBox
import Derived.Test.YtcidjhnogldgmaaGreatDoorPick
import Derived.Test.YtcidjhnogldgmaaGreatDoorRd
import Derived.Maps.Range
namespace Go.Proofs.YtcidjhnogldgmaaGreatDoor
open Go.RowKit
set_option linter.unusedSimpArgs false
set_option linter.unusedVariables false
def ItemsAt (lo B : Nat) (w : World) (it : Value) (n : Nat) (P : Nat → Value → Prop) : Prop :=
  ∃ a cap, it = .slice a n cap ∧ (0 < n → ∃ b, a = some ⟨b, 0, none⟩ ∧ lo < b ∧ b < B ∧ ∀ j, j < n → ∃ t x, w.cell? ⟨b, j, none⟩ = some (.iface t x) ∧ P j (.iface t x))
def ValIs (lo B : Nat) (w : World) (vs : List VN) : Nat → Nat → Value → Prop
  | 0, _, _ => False
  | f + 1, i, v =>
    ((nodeAt vs i).kind = 1 ∧ v = .iface 109 (.agg #[])) ∨
    ((nodeAt vs i).kind = 2 ∧ v = .iface 68 (.agg #[.int .i64 (nodeAt vs i).n])) ∨
    ((nodeAt vs i).kind = 3 ∧ v = .iface 70 (.agg #[.int .i64 (nodeAt vs i).n])) ∨
    ((nodeAt vs i).kind = 4 ∧ v = .iface 72 (.agg #[.string (nodeAt vs i).s])) ∨
    ((nodeAt vs i).kind = 5 ∧ ∃ it, v = .iface 107 (.agg #[it]) ∧ ItemsAt lo B w it (nodeAt vs i).kids.length (fun j u => ValIs lo B w vs f (intAt (nodeAt vs i).kids j).toNat u)) ∨
    ((nodeAt vs i).kind = 6 ∧ ∃ ks it, v = .iface 96 (.agg #[ks, it]) ∧ StrsAt lo w ks (nodeAt vs i).keys ∧ ItemsAt lo B w it (nodeAt vs i).kids.length (fun j u => ValIs lo B w vs f (intAt (nodeAt vs i).kids j).toNat u))
theorem ValIs.iface {lo B : Nat} {w : World} {vs : List VN} {f i : Nat} {v : Value} (h : ValIs lo B w vs f i v) : ∃ t x, v = .iface t x := by
  cases f with
  | zero => exact h.elim
  | succ f =>
    rcases h with ⟨_, rfl⟩ | ⟨_, rfl⟩ | ⟨_, rfl⟩ | ⟨_, rfl⟩ | ⟨_, it, rfl, _⟩ | ⟨_, ks, it, rfl, _⟩ <;> exact ⟨_, _, rfl⟩
def Keep (lo B : Nat) (w w' : World) : Prop := ∀ k, k ≠ lo → k < B → w'.heap[k]? = w.heap[k]?
theorem Keep.of_below {lo B : Nat} {w w' : World} (h : Below B w w') : Keep lo B w w' := fun k _ hk => h.block k hk
theorem Keep.setCell {lo B o : Nat} (w : World) (v : Value) : Keep lo B w (w.setCell ⟨lo, o, none⟩ v) := fun k hk _ => Below.heap_setCell w _ v k hk
theorem Keep.trans {lo B : Nat} {a b c : World} (h : Keep lo B a b) (k : Keep lo B b c) : Keep lo B a c := fun i h1 h2 => (k i h1 h2).trans (h i h1 h2)
theorem Keep.cell {lo B : Nat} {w w' : World} (h : Keep lo B w w') {b o : Nat} (h1 : b ≠ lo) (h2 : b < B) : w'.cell? ⟨b, o, none⟩ = w.cell? ⟨b, o, none⟩ := by
  unfold World.cell?
  rw [show w'.heap[(⟨b, o, none⟩ : Addr).block]? = w.heap[(⟨b, o, none⟩ : Addr).block]? from h b h1 h2]
theorem StrsAt.keep {lo B : Nat} {w w' : World} {v : Value} {l : List ByteArray} (h : StrsAt lo w v l) (hk : Keep lo B w w') (hB : lo ≤ B) : StrsAt lo w' v l := by
  obtain ⟨h1, h2, a, cap, e, h3⟩ := h
  refine ⟨h1, h2, a, cap, e, fun hl => ?_⟩
  obtain ⟨b, o, ea, hb, hc⟩ := h3 hl
  exact ⟨b, o, ea, hb, fun i hi => (hk.cell (by omega) (by omega)).trans (hc i hi)⟩
theorem ValIs.keep {lo B B' : Nat} {w w' : World} {vs : List VN} (hk : Keep lo B w w') (hB : B ≤ B') (hlo : lo ≤ B) : ∀ {f i : Nat} {v : Value}, ValIs lo B w vs f i v → ValIs lo B' w' vs f i v := by
  intro f
  induction f with
  | zero => intro i v h; exact h.elim
  | succ f ih =>
    intro i v h
    have hit : ∀ it, ItemsAt lo B w it (nodeAt vs i).kids.length (fun j u => ValIs lo B w vs f (intAt (nodeAt vs i).kids j).toNat u) → ItemsAt lo B' w' it (nodeAt vs i).kids.length (fun j u => ValIs lo B' w' vs f (intAt (nodeAt vs i).kids j).toNat u) := by
      rintro it ⟨a, cap, e, hx⟩
      refine ⟨a, cap, e, fun hn => ?_⟩
      obtain ⟨b, ea, h1, h2, h3⟩ := hx hn
      refine ⟨b, ea, h1, by omega, fun j hj => ?_⟩
      obtain ⟨t, x, hc, hv⟩ := h3 j hj
      exact ⟨t, x, (hk.cell (by omega) h2).trans hc, ih hv⟩
    rcases h with h | h | h | h | ⟨hk5, it, e, hi⟩ | ⟨hk6, ks, it, e, hs, hi⟩
    · exact Or.inl h
    · exact Or.inr (Or.inl h)
    · exact Or.inr (Or.inr (Or.inl h))
    · exact Or.inr (Or.inr (Or.inr (Or.inl h)))
    · exact Or.inr (Or.inr (Or.inr (Or.inr (Or.inl ⟨hk5, it, e, hit it hi⟩))))
    · exact Or.inr (Or.inr (Or.inr (Or.inr (Or.inr ⟨hk6, ks, it, e, hs.keep hk hlo, hit it hi⟩))))
theorem ValIs.more {lo B : Nat} {w : World} {vs : List VN} : ∀ {f g i : Nat} {v : Value}, f ≤ g → ValIs lo B w vs f i v → ValIs lo B w vs g i v := by
  intro f
  induction f with
  | zero => intro g i v _ h; exact h.elim
  | succ f ih =>
    intro g i v hfg h
    match g, hfg with
    | g + 1, hfg =>
      have hit : ∀ it, ItemsAt lo B w it (nodeAt vs i).kids.length (fun j u => ValIs lo B w vs f (intAt (nodeAt vs i).kids j).toNat u) → ItemsAt lo B w it (nodeAt vs i).kids.length (fun j u => ValIs lo B w vs g (intAt (nodeAt vs i).kids j).toNat u) := by
        rintro it ⟨a, cap, e, hx⟩
        refine ⟨a, cap, e, fun hn => ?_⟩
        obtain ⟨b, ea, h1, h2, h3⟩ := hx hn
        refine ⟨b, ea, h1, h2, fun j hj => ?_⟩
        obtain ⟨t, x, hc, hv⟩ := h3 j hj
        exact ⟨t, x, hc, ih (by omega) hv⟩
      rcases h with h | h | h | h | ⟨hk5, it, e, hi⟩ | ⟨hk6, ks, it, e, hs, hi⟩
      · exact Or.inl h
      · exact Or.inr (Or.inl h)
      · exact Or.inr (Or.inr (Or.inl h))
      · exact Or.inr (Or.inr (Or.inr (Or.inl h)))
      · exact Or.inr (Or.inr (Or.inr (Or.inr (Or.inl ⟨hk5, it, e, hit it hi⟩))))
      · exact Or.inr (Or.inr (Or.inr (Or.inr (Or.inr ⟨hk6, ks, it, e, hs, hit it hi⟩))))
theorem infoVal : (Tryz.prog.info? 42).map (fun i => (i.zero, i.size, i.bytes)) = some (some .nilIface, 1, 16) := by kernel_rfl
def fillI (VV : Nat → Value) (k j : Nat) : Value := if j < k then VV j else .nilIface
theorem fillI_step {w : World} {b t n k : Nat} {VV : Nat → Value} {v : Value} (h : w.rowIs b t n (fillI VV k)) : (w.setCell ⟨b, k, none⟩ v).rowIs b t n (fillI (fun j => if j = k then v else VV j) (k + 1)) := by
  refine (h.set k _).congr fun i _ => ?_
  unfold fillI
  by_cases e : i = k
  · subst e; rw [if_pos rfl, if_pos (by omega)]; simp
  · rw [if_neg e]; by_cases g : i < k
    · rw [if_pos g, if_pos (by omega)]; simp [e]
    · rw [if_neg g, if_neg (by omega)]
theorem kidsIn_get {vs : List VN} {i j : Nat} (h : kidsIn vs i = true) (hj : j < (nodeAt vs i).kids.length) : 0 ≤ intAt (nodeAt vs i).kids j ∧ intAt (nodeAt vs i).kids j ≤ (i : Int) - 1 := by
  unfold kidsIn at h
  rw [List.all_eq_true] at h
  have := h (intAt (nodeAt vs i).kids j) (by unfold kidsOf; rw [intAt_get hj]; exact List.getElem_mem _)
  simpa using this
theorem fold_len {T : Nat → Option (Nat × Nat)} (hT : ∀ m p, T m = some p → p.1 ≤ m) : ∀ (l : List Int) (b h : Nat) (q : Nat × Nat), l.foldl (stepKid T) (some (b, h)) = some q → l.length ≤ b := by
  intro l
  induction l with
  | nil => intro b h q _; exact Nat.zero_le _
  | cons k l ih =>
    intro b h q e
    obtain ⟨p, h1, _, h3, h4⟩ := fold_cons_some e
    have := ih _ _ _ h4
    have := hT _ _ h3
    simp only [List.length_cons]
    omega
theorem tr_len {K : Nat → List Int} {n : Nat} {p : Nat × Nat} (e : tr K n = some p) : (K n).length ≤ n := by
  rw [tr_eq] at e
  cases hf : (K n).reverse.foldl (stepKid (tr K)) (some (n, 0)) with
  | none => simp [hf] at e
  | some q => have := fold_len (fun m p hp => tr_le hp) _ _ _ _ hf; simpa using this
theorem okB_parts {vs : List VN} (h : okB vs = true) : (1 ≤ vs.length ∧ vs.length ≤ 80) ∧ (∀ k, k < vs.length → nodeB (nodeAt vs k) = true ∧ kidsIn vs k = true) ∧ (∀ k, k < vs.length → ∃ p, tr (kidsOf vs) k = some p) ∧ (∀ k, k < vs.length → (nodeAt vs k).kids.length ≤ k) := by
  have ht := okB_eq vs
  rw [h] at ht
  unfold okB sizeB at h
  unfold tabB at ht
  simp only [Bool.and_eq_true, List.all_eq_true, List.mem_range, decide_eq_true_eq] at h ht
  obtain ⟨⟨h1, h2⟩, h3⟩ := h
  have hs : ∀ k, k < vs.length → ∃ p, tr (kidsOf vs) k = some p := fun k hk => Option.isSome_iff_exists.1 (ht.2.1 k hk)
  exact ⟨h1, h2, hs, fun k hk => by obtain ⟨p, hp⟩ := hs k hk; exact tr_len hp⟩
theorem items_of_own {lo base e n : Nat} {w : World} {it : Value} {f : Nat → Value} {P : Nat → Value → Prop} (h : w.ownsRow base e 1 it n ((List.range n).map f)) (hlo : lo < base) (hP : ∀ j, j < n → ∃ t x, f j = .iface t x ∧ P j (.iface t x)) : ItemsAt lo w.heap.size w it n P := by
  obtain ⟨_, h⟩ := h
  rcases h with ⟨rfl, rfl⟩ | ⟨g, cap, cur, rfl, hb, hg, hn, _, hsz, htk⟩
  · exact ⟨none, 0, rfl, fun h => absurd h (by omega)⟩
  · refine ⟨_, cap, rfl, fun hpos => ⟨g, rfl, by omega, (Array.getElem?_eq_some_iff.1 hg).1, fun j hj => ?_⟩⟩
    obtain ⟨t, x, hf, hp⟩ := hP j hj
    refine ⟨t, x, ?_, hp⟩
    have h1 : (cur.toList.take (n * 1))[j]? = some (f j) := by rw [htk]; simp [hj]
    rw [List.getElem?_take_of_lt (by omega), Array.getElem?_toList] at h1
    simp [World.cell?, hg, h1, hf]
end Go.Proofs.YtcidjhnogldgmaaGreatDoor

namespace Go.Proofs.YtcidjhnogldgmaaGreatDoor
open Go.RowKit
set_option linter.unusedSimpArgs false
set_option linter.unusedVariables false
inductive VT where
  | mk (kind n : Int) (s : ByteArray) (keys : List ByteArray) (kids : List VT)
def VT.zero : VT := .mk 0 0 ByteArray.empty [] []
def kidT (l : List VT) (j : Nat) : VT := l.getD j VT.zero
def TItems (B : Nat) (w : World) (it : Value) (n : Nat) (P : Nat → Value → Prop) : Prop :=
  n ≤ 100000 ∧ ∃ a cap, it = .slice a n cap ∧ (0 < n → ∃ b, a = some ⟨b, 0, none⟩ ∧ b < B ∧ ∀ j, j < n → ∃ t x, w.cell? ⟨b, j, none⟩ = some (.iface t x) ∧ P j (.iface t x))
def TreeAt (B : Nat) (w : World) : Nat → VT → Value → Prop
  | 0, _, _ => False
  | f + 1, .mk kind n s keys kids, v =>
    (kind = 1 ∧ n = 0 ∧ s = ByteArray.empty ∧ keys = [] ∧ kids = [] ∧ v = .iface 109 (.agg #[])) ∨
    (kind = 2 ∧ s = ByteArray.empty ∧ keys = [] ∧ kids = [] ∧ v = .iface 68 (.agg #[.int .i64 n])) ∨
    (kind = 3 ∧ s = ByteArray.empty ∧ keys = [] ∧ kids = [] ∧ v = .iface 70 (.agg #[.int .i64 n])) ∨
    (kind = 4 ∧ n = 0 ∧ keys = [] ∧ kids = [] ∧ v = .iface 72 (.agg #[.string s])) ∨
    (kind = 5 ∧ n = 0 ∧ s = ByteArray.empty ∧ keys = [] ∧ ∃ it, v = .iface 107 (.agg #[it]) ∧ TItems B w it kids.length (fun j u => TreeAt B w f (kidT kids j) u)) ∨
    (kind = 6 ∧ n = 0 ∧ s = ByteArray.empty ∧ ∃ ks it, v = .iface 96 (.agg #[ks, it]) ∧ StrsAt B w ks keys ∧ TItems B w it kids.length (fun j u => TreeAt B w f (kidT kids j) u))
theorem TreeAt.keep {B B' : Nat} {w w' : World} (hk : ∀ k, k < B → w'.heap[k]? = w.heap[k]?) (hB : B ≤ B') : ∀ {f : Nat} {t : VT} {v : Value}, TreeAt B w f t v → TreeAt B' w' f t v := by
  intro f
  induction f with
  | zero => intro t v h; exact h.elim
  | succ f ih =>
    intro t v h
    obtain ⟨kind, n, s, keys, kids⟩ := t
    have hc : ∀ b j, b < B → w'.cell? ⟨b, j, none⟩ = w.cell? ⟨b, j, none⟩ := fun b j hb => World.cell?_of_block (hk b hb)
    have hit : ∀ it, TItems B w it kids.length (fun j u => TreeAt B w f (kidT kids j) u) → TItems B' w' it kids.length (fun j u => TreeAt B' w' f (kidT kids j) u) := by
      rintro it ⟨h0, a, cap, e, hx⟩
      refine ⟨h0, a, cap, e, fun hn => ?_⟩
      obtain ⟨b, ea, h2, h3⟩ := hx hn
      refine ⟨b, ea, by omega, fun j hj => ?_⟩
      obtain ⟨t, x, hcc, hv⟩ := h3 j hj
      exact ⟨t, x, (hc b j h2).trans hcc, ih hv⟩
    rcases h with h | h | h | h | ⟨h1, h2, h3, h4, it, e, hi⟩ | ⟨h1, h2, h3, ks, it, e, hs, hi⟩
    · exact Or.inl h
    · exact Or.inr (Or.inl h)
    · exact Or.inr (Or.inr (Or.inl h))
    · exact Or.inr (Or.inr (Or.inr (Or.inl h)))
    · exact Or.inr (Or.inr (Or.inr (Or.inr (Or.inl ⟨h1, h2, h3, h4, it, e, hit it hi⟩))))
    · exact Or.inr (Or.inr (Or.inr (Or.inr (Or.inr ⟨h1, h2, h3, ks, it, e, (hs.keep (lo := B) (B := B) (fun k _ hk' => hk k hk') (Nat.le_refl _)).wide hB, hit it hi⟩))))
def layKidsT (F : VT → Nat → List VN) (sh : Nat) : List VT → List VN → List Int → List VN × List Int
  | [], acc, ks => (acc, ks)
  | k :: r, acc, ks => layKidsT F sh r (acc ++ F k (sh + acc.length)) (ks ++ [((sh + (acc ++ F k (sh + acc.length)).length : Nat) : Int) - 1])
def layT : Nat → VT → Nat → List VN
  | 0, _, _ => []
  | f + 1, .mk kind n s keys kids, sh => (layKidsT (layT f) sh kids [] []).1 ++ [{ kind := kind, n := n, s := s, keys := keys, kids := (layKidsT (layT f) sh kids [] []).2 }]
theorem layKidsT_append (F : VT → Nat → List VN) (sh : Nat) : ∀ (l m : List VT) (acc : List VN) (ks : List Int), layKidsT F sh (l ++ m) acc ks = layKidsT F sh m (layKidsT F sh l acc ks).1 (layKidsT F sh l acc ks).2 := by
  intro l
  induction l with
  | nil => intro m acc ks; rfl
  | cons k r ih => intro m acc ks; exact ih m _ _
theorem layKidsT_grow (F : VT → Nat → List VN) (sh : Nat) : ∀ (l : List VT) (acc : List VN) (ks : List Int), acc.length ≤ (layKidsT F sh l acc ks).1.length := by
  intro l
  induction l with
  | nil => intro acc ks; exact Nat.le_refl _
  | cons k r ih => intro acc ks; exact Nat.le_trans (by simp) (ih _ _)
theorem layKidsT_kids (F : VT → Nat → List VN) (sh : Nat) : ∀ (l : List VT) (acc : List VN) (ks : List Int), (layKidsT F sh l acc ks).2.length = ks.length + l.length := by
  intro l
  induction l with
  | nil => intro acc ks; rfl
  | cons k r ih => intro acc ks; rw [layKidsT, ih]; simp; omega
def accT (f sh : Nat) (l : List VT) (k : Nat) : List VN := (layKidsT (layT f) sh (l.take k) [] []).1
def ksT (f sh : Nat) (l : List VT) (k : Nat) : List Int := (layKidsT (layT f) sh (l.take k) [] []).2
theorem accT_zero (f sh : Nat) (l : List VT) : accT f sh l 0 = [] := by simp [accT, layKidsT]
theorem ksT_zero (f sh : Nat) (l : List VT) : ksT f sh l 0 = [] := by simp [ksT, layKidsT]
theorem ksT_len (f sh : Nat) (l : List VT) {k : Nat} (h : k ≤ l.length) : (ksT f sh l k).length = k := by
  unfold ksT; rw [layKidsT_kids]; simp; omega
theorem take_kid {l : List VT} {k : Nat} (h : k < l.length) : l.take (k + 1) = l.take k ++ [kidT l k] := by
  rw [List.take_add_one, List.getElem?_eq_getElem h]
  simp [kidT, h]
theorem accT_succ (f sh : Nat) {l : List VT} {k : Nat} (h : k < l.length) : accT f sh l (k + 1) = accT f sh l k ++ layT f (kidT l k) (sh + (accT f sh l k).length) := by
  unfold accT; rw [take_kid h, layKidsT_append]; rfl
theorem ksT_succ (f sh : Nat) {l : List VT} {k : Nat} (h : k < l.length) : ksT f sh l (k + 1) = ksT f sh l k ++ [((sh + (accT f sh l (k + 1)).length : Nat) : Int) - 1] := by
  rw [accT_succ f sh h]; unfold ksT accT; rw [take_kid h, layKidsT_append]; rfl
theorem accT_le (f sh : Nat) (l : List VT) (k : Nat) : (accT f sh l k).length ≤ (accT f sh l l.length).length := by
  have e : l.take l.length = l.take k ++ l.drop k := by simp
  have h := layKidsT_append (layT f) sh (l.take k) (l.drop k) [] []
  unfold accT
  rw [e, h]
  exact layKidsT_grow _ _ _ _ _
theorem layT_eq (f : Nat) (kind n : Int) (s : ByteArray) (keys : List ByteArray) (kids : List VT) (sh : Nat) :
    layT (f + 1) (.mk kind n s keys kids) sh = accT f sh kids kids.length ++ [{ kind := kind, n := n, s := s, keys := keys, kids := ksT f sh kids kids.length }] := by
  simp [layT, accT, ksT]
theorem layT_pos {B : Nat} {w : World} {f : Nat} {t : VT} {v : Value} (h : TreeAt B w f t v) (sh : Nat) : 0 < (layT f t sh).length := by
  cases f with
  | zero => exact h.elim
  | succ f => obtain ⟨kind, n, s, keys, kids⟩ := t; rw [layT_eq]; simp
def treeOf (vs : List VN) : Nat → Nat → VT
  | 0, _ => VT.zero
  | f + 1, i => .mk (nodeAt vs i).kind (nodeAt vs i).n (nodeAt vs i).s (nodeAt vs i).keys ((nodeAt vs i).kids.map fun k => treeOf vs f k.toNat)
theorem layKids_tree (vs : List VN) (f sh : Nat) (ih : ∀ i s, lay vs f i s = layT f (treeOf vs f i) s) : ∀ (l : List Int) (acc : List VN) (ks : List Int), layKids (lay vs f) sh l acc ks = layKidsT (layT f) sh (l.map fun k => treeOf vs f k.toNat) acc ks := by
  intro l
  induction l with
  | nil => intro acc ks; rfl
  | cons k r ihr => intro acc ks; rw [layKids, List.map_cons, layKidsT, ihr, ih]
theorem lay_tree (vs : List VN) : ∀ (f i sh : Nat), lay vs f i sh = layT f (treeOf vs f i) sh := by
  intro f
  induction f with
  | zero => intro i sh; rfl
  | succ f ih =>
    intro i sh
    rw [lay, treeOf, layT, layKids_tree vs f sh ih]
theorem kidT_map {l : List Int} {g : Int → VT} {j : Nat} (h : j < l.length) : kidT (l.map g) j = g (intAt l j) := by
  rw [intAt_get h]; simp [kidT, h]
theorem ValIs.tree {lo B : Nat} {w : World} {vs : List VN} (hlo : lo ≤ B) (hr : ∀ k, k < vs.length → nodeB (nodeAt vs k) = true ∧ kidsIn vs k = true) (hk : ∀ k, k < vs.length → (nodeAt vs k).kids.length ≤ k) (h80 : vs.length ≤ 80) : ∀ {f i : Nat} {v : Value}, i < vs.length → ValIs lo B w vs f i v → TreeAt B w f (treeOf vs f i) v := by
  intro f
  induction f with
  | zero => intro i v _ h; exact h.elim
  | succ f ih =>
    intro i v hi h
    have hit : ∀ it, ItemsAt lo B w it (nodeAt vs i).kids.length (fun j u => ValIs lo B w vs f (intAt (nodeAt vs i).kids j).toNat u) → TItems B w it ((nodeAt vs i).kids.map fun k => treeOf vs f k.toNat).length (fun j u => TreeAt B w f (kidT ((nodeAt vs i).kids.map fun k => treeOf vs f k.toNat) j) u) := by
      rintro it ⟨a, cap, e, hx⟩
      refine ⟨by have := hk i hi; simp; omega, a, cap, by simpa using e, fun hn => ?_⟩
      rw [List.length_map] at hn
      obtain ⟨b, ea, h1, h2, h3⟩ := hx hn
      refine ⟨b, ea, h2, fun j hj => ?_⟩
      rw [List.length_map] at hj
      obtain ⟨t, x, hcc, hv⟩ := h3 j hj
      refine ⟨t, x, hcc, ?_⟩
      show TreeAt B w f (kidT ((nodeAt vs i).kids.map fun k => treeOf vs f k.toNat) j) (.iface t x)
      rw [kidT_map hj]
      have hb := kidsIn_get (hr i hi).2 hj
      exact ih (by omega) hv
    have hn := (hr i hi).1
    unfold nodeB unnamedB at hn
    have es : ∀ s : ByteArray, s.toList = [] → s = ByteArray.empty := fun s h => by
      cases s with | mk d => rw [ByteArray.toList_eq] at h; simp at h; subst h; rfl
    simp only [Bool.and_eq_true, Bool.not_eq_true', Bool.and_eq_false_iff, decide_eq_false_iff_not, Decidable.not_not, Nat.not_lt, Nat.le_zero, List.length_eq_zero_iff] at hn
    obtain ⟨⟨⟨⟨n1, n2⟩, n3⟩, n4⟩, _⟩ := hn
    rw [treeOf]
    rcases h with ⟨k1, e⟩ | ⟨k2, e⟩ | ⟨k3, e⟩ | ⟨k4, e⟩ | ⟨k5, it, e, hi⟩ | ⟨k6, ks, it, e, hs, hi⟩
    · exact Or.inl ⟨k1, by omega, es _ (by rcases n2 with h | h; omega; exact h), by rcases n3 with h | h; omega; exact h, by rcases n4 with (h | h) | h; omega; omega; rw [h]; rfl, e⟩
    · exact Or.inr (Or.inl ⟨k2, es _ (by rcases n2 with h | h; omega; exact h), by rcases n3 with h | h; omega; exact h, by rcases n4 with (h | h) | h; omega; omega; rw [h]; rfl, e⟩)
    · exact Or.inr (Or.inr (Or.inl ⟨k3, es _ (by rcases n2 with h | h; omega; exact h), by rcases n3 with h | h; omega; exact h, by rcases n4 with (h | h) | h; omega; omega; rw [h]; rfl, e⟩))
    · exact Or.inr (Or.inr (Or.inr (Or.inl ⟨k4, by omega, by rcases n3 with h | h; omega; exact h, by rcases n4 with (h | h) | h; omega; omega; rw [h]; rfl, e⟩)))
    · exact Or.inr (Or.inr (Or.inr (Or.inr (Or.inl ⟨k5, by omega, es _ (by rcases n2 with h | h; omega; exact h), by rcases n3 with h | h; omega; exact h, it, e, hit it hi⟩))))
    · exact Or.inr (Or.inr (Or.inr (Or.inr (Or.inr ⟨k6, by omega, es _ (by rcases n2 with h | h; omega; exact h), ks, it, e, hs.wide hlo, hit it hi⟩))))
end Go.Proofs.YtcidjhnogldgmaaGreatDoor

namespace Go.Proofs.YtcidjhnogldgmaaGreatDoor
open Go.RowKit
set_option linter.unusedSimpArgs false
set_option linter.unusedVariables false
theorem own_below {w w' : World} {base e s n : Nat} {v : Value} {xs : List Value} {B : Nat} (h : w.ownsRow base e s v n xs) (hb : Below B w w') (hB : ∀ x, v.ownBlock = some x → x < B) : w'.ownsRow base e s v n xs := by
  refine ⟨h.1, ?_⟩
  rcases h.2 with hn | ⟨g, cap, cur, rfl, hg, hgg, rest⟩
  · exact .inl hn
  · exact .inr ⟨g, cap, cur, rfl, hg, (hb.block g (hB g rfl)).trans hgg, rest⟩
theorem Nest.below {base : Nat} {w w' : World} {v : Value} {vs : List VN} {KV IV : Nat → Value} (h : Nest base w v vs KV IV) (hb : Below w.heap.size w w') : Nest base w' v vs KV IV :=
  ⟨own_below h.row hb (fun x hx => (h.row.lt x hx).2), fun i hi => own_below (h.rk i hi) hb (fun x hx => ((h.rk i hi).lt x hx).2), fun i hi => own_below (h.ri i hi) hb (fun x hx => ((h.ri i hi).lt x hx).2), h.dkk, h.dii⟩
theorem own_mono {w : World} {base base' e s n : Nat} {v : Value} {xs : List Value} (h : w.ownsRow base e s v n xs) (hb : base' ≤ base) : w.ownsRow base' e s v n xs := by
  refine ⟨h.1, ?_⟩
  rcases h.2 with hn | ⟨g, cap, cur, rfl, hg, rest⟩
  · exact .inl hn
  · exact .inr ⟨g, cap, cur, rfl, by omega, rest⟩
def shifted (l : List Int) (d : Int) (k : Nat) : List Value := (l.take k).map (fun q => .int .i64 (q + d))
theorem own_slice {w : World} {base e s n : Nat} {v : Value} {xs : List Value} (h : w.ownsRow base e s v n xs) : ∃ a c, v = .slice a n c := by
  rcases h.2 with ⟨rfl, rfl⟩ | ⟨g, cap, cur, rfl, _⟩
  · exact ⟨_, _, rfl⟩
  · exact ⟨_, _, rfl⟩
end Go.Proofs.YtcidjhnogldgmaaGreatDoor

namespace Go.Proofs.YtcidjhnogldgmaaGreatDoor
open Go.RowKit
set_option linter.unusedSimpArgs false
set_option linter.unusedVariables false
def partOf (vs : List VN) (n : Nat) : List VN := run vs (-(trF (tr (kidsOf vs) n))) (trF (tr (kidsOf vs) n)).toNat (n + 1 - (trF (tr (kidsOf vs) n)).toNat)
theorem keys_few {vs : List VN} (h : okB vs = true) : ∀ k, k < vs.length → kidsIn vs k = true ∧ (nodeAt vs k).kids.length ≤ 80 ∧ (nodeAt vs k).keys.length ≤ 80 := by
  intro k hk
  obtain ⟨h1, h2, _, h4⟩ := okB_parts h
  have hn := h2 k hk
  have := h4 k hk
  refine ⟨hn.2, by omega, ?_⟩
  by_cases e : (nodeAt vs k).kind = 6
  · have hb := hn.1
    unfold nodeB namedB at hb
    simp [e] at hb
    omega
  · have hb := hn.1
    unfold nodeB unnamedB at hb
    simp [e] at hb
    have := hb.1.1.2
    simp [this]
theorem lay_part {vs : List VN} (hok : okB vs = true) {f m : Nat} (hf : m < f) (hm : m < vs.length) : layT f (treeOf vs f m) 0 = partOf vs m ∧ (partOf vs m).length ≤ 80 := by
  obtain ⟨p1, _, p3, _⟩ := okB_parts hok
  obtain ⟨⟨a0, h0⟩, htr⟩ := p3 m hm
  have e : partOf vs m = run vs (-(a0 : Int)) a0 (m + 1 - a0) := by rw [partOf, htr]; simp [trF]
  rw [← lay_tree, lay_run vs f m 0 a0 h0 hf htr, e]
  exact ⟨by simp, by rw [run_length]; omega⟩
theorem part_fits {vs : List VN} (hok : okB vs = true) (hf : ∀ i, i < vs.length → Fits (nodeAt vs i)) {m : Nat} (hm : m < vs.length) : ∀ i, i < (partOf vs m).length → Fits (nodeAt (partOf vs m) i) ∧ (nodeAt (partOf vs m) i).keys.length ≤ 80 ∧ (nodeAt (partOf vs m) i).kids.length ≤ 80 := by
  obtain ⟨p1, p2, p3, p4⟩ := okB_parts hok
  obtain ⟨⟨a0, h0⟩, htr⟩ := p3 m hm
  have e : partOf vs m = run vs (-(a0 : Int)) a0 (m + 1 - a0) := by rw [partOf, htr]; simp [trF]
  rw [e]
  intro i hi
  rw [run_length] at hi
  have en : nodeAt (run vs (-(a0 : Int)) a0 (m + 1 - a0)) i = shiftN (-(a0 : Int)) (nodeAt vs (a0 + i)) := by
    unfold run
    conv => lhs; unfold nodeAt
    rw [List.getD_eq_getElem?_getD, List.getElem?_map, List.getElem?_range' (by omega)]
    simp [nodeAt]
  rw [en]
  have f := hf (a0 + i) (by omega)
  have kf := keys_few hok (a0 + i) (by omega)
  refine ⟨⟨f.keysN, f.keysS, by simpa [shiftN] using f.kidsN, fun j hj => ?_, f.size, f.klo, f.khi, f.nlo, f.nhi⟩, kf.2.2, by simpa [shiftN] using kf.2.1⟩
  have hj' : j < (nodeAt vs (a0 + i)).kids.length := by simpa [shiftN] using hj
  have hb := kidsIn_get kf.1 hj'
  have ei : intAt (shiftN (-(a0 : Int)) (nodeAt vs (a0 + i))).kids j = intAt (nodeAt vs (a0 + i)).kids j + -(a0 : Int) := by
    rw [intAt_get hj, intAt_get hj']; simp [shiftN]
  rw [ei]
  omega
end Go.Proofs.YtcidjhnogldgmaaGreatDoor

namespace Go.Proofs.YtcidjhnogldgmaaGreatDoor
open Go.RowKit
set_option linter.unusedSimpArgs false
set_option linter.unusedVariables false
theorem Nest.from {base : Nat} {w w' : World} {v : Value} {vs : List VN} {KV IV : Nat → Value} (h : Nest base w v vs KV IV) (hf : From base w w') : Nest base w' v vs KV IV :=
  ⟨own_from h.row hf, fun i hi => own_from (h.rk i hi) hf, fun i hi => own_from (h.ri i hi) hf, h.dkk, h.dii⟩
def blk (v : Value) : Nat := (v.ownBlock).getD 0
def Few (vs : List VN) : Prop := vs.length ≤ 80 ∧ ∀ i, i < vs.length → (nodeAt vs i).keys.length ≤ 80 ∧ (nodeAt vs i).kids.length ≤ 80
def InNest (r : Value) (n : Nat) (K I : Nat → Value) (x : Nat) : Prop := r.ownBlock = some x ∨ ∃ j, j < n ∧ ((K j).ownBlock = some x ∨ (I j).ownBlock = some x)
theorem Nest.inn {base : Nat} {w : World} {v : Value} {vs : List VN} {KV IV : Nat → Value} (h : Nest base w v vs KV IV) {x : Nat} (hx : InNest v vs.length KV IV x) : base ≤ x ∧ x < w.heap.size := by
  rcases hx with hx | ⟨j, hj, hx | hx⟩
  · exact h.row.lt x hx
  · exact (h.rk j hj).lt x hx
  · exact (h.ri j hj).lt x hx
def updF {α : Type} (F : Nat → α) (k : Nat) (v : α) (i : Nat) : α := if i = k then v else F i
theorem updF_same {α : Type} (F : Nat → α) (k : Nat) (v : α) : updF F k v k = v := if_pos rfl
theorem updF_other {α : Type} (F : Nat → α) {k i : Nat} (v : α) (h : i ≠ k) : updF F k v i = F i := if_neg h
structure Rows2 (base : Nat) (w : World) (v : Value) (m : Nat) (L : Nat → List VN) (rs : Nat → Value) (KV IV : Nat → Nat → Value) (lo : Nat → Nat) : Prop where
  row : w.ownsRow base 24 1 v m ((List.range m).map rs)
  nest : ∀ i, i < m → Nest (lo i) w (rs i) (L i) (KV i) (IV i)
  low : ∀ i, i ≤ m → base ≤ lo i
  mono : ∀ i j, i ≤ j → j ≤ m → lo i ≤ lo j
  top : lo m ≤ w.heap.size
  inn : ∀ i, i < m → ∀ x, InNest (rs i) (L i).length (KV i) (IV i) x → x < lo (i + 1)
theorem Rows2.start {base : Nat} {w : World} {v : Value} (h : w.ownsRow base 24 1 v 0 []) (hb : base ≤ w.heap.size) (L : Nat → List VN) : Rows2 base w v 0 L (fun _ => undef) (fun _ _ => undef) (fun _ _ => undef) (fun _ => base) :=
  ⟨by simpa using h, fun i hi => absurd hi (by omega), fun _ _ => Nat.le_refl _, fun _ _ _ _ => Nat.le_refl _, hb, fun i hi => absurd hi (by omega)⟩
theorem Rows2.below {base : Nat} {w w' : World} {v : Value} {m : Nat} {L : Nat → List VN} {rs : Nat → Value} {KV IV : Nat → Nat → Value} {lo : Nat → Nat} (h : Rows2 base w v m L rs KV IV lo) (hb : Below w.heap.size w w') : Rows2 base w' v m L rs KV IV lo :=
  ⟨own_below h.row hb (fun x hx => (h.row.lt x hx).2), fun i hi => (h.nest i hi).below hb, h.low, h.mono, Nat.le_trans h.top hb.size, h.inn⟩
theorem Rows2.from {base : Nat} {w w' : World} {v : Value} {m : Nat} {L : Nat → List VN} {rs : Nat → Value} {KV IV : Nat → Nat → Value} {lo : Nat → Nat} (h : Rows2 base w v m L rs KV IV lo) (hf : From base w w') : Rows2 base w' v m L rs KV IV lo :=
  ⟨own_from h.row hf, fun i hi => (h.nest i hi).from (hf.mono (h.low i (by omega))), h.low, h.mono, Nat.le_trans h.top hf.1, h.inn⟩
theorem range_map_snoc {m : Nat} {rs : Nat → Value} {r : Value} : (List.range (m + 1)).map (updF rs m r) = (List.range m).map rs ++ [r] := by
  rw [List.range_succ, List.map_append]
  congr 1
  · apply List.map_congr_left
    intro j hj
    exact updF_other _ _ (by have := List.mem_range.1 hj; omega)
  · simp [updF_same]
theorem Rows2.snoc {base : Nat} {w w1 w5 : World} {v v' r : Value} {m : Nat} {L : Nat → List VN} {rs : Nat → Value} {KV IV : Nat → Nat → Value} {lo : Nat → Nat} {K I : Nat → Value} {o : Obj} (h : Rows2 base w v m L rs KV IV lo) (hb : Below w.heap.size w w1) (hn : Nest w.heap.size w1 r (L m) K I)
    (hown : w5.ownsRow base 24 1 v' (m + 1) ((List.range m).map rs ++ [r])) (hg : (w1.alloc o).grownBy w5 v.ownBlock) :
    Rows2 base w5 v' (m + 1) L (updF rs m r) (updF KV m K) (updF IV m I) (fun i => if i < m then lo i else if i = m then w.heap.size else w1.heap.size) := by
  have h1 := h.below hb
  have hg1 : w1.grownBy w5 v.ownBlock := (World.grownBy_alloc w1 o _).trans hg
  have hs := hb.size
  have hgs := hg1.size
  have kept : ∀ {b : Nat} {u : Value} {vs : List VN} {A C : Nat → Value}, Nest b w1 u vs A C → Nest b w5 u vs A C := fun hx => hx.kept hg1 (own_apart hx.row h1.row (by decide)) (fun i hi => own_apart (hx.rk i hi) h1.row (by decide)) (fun i hi => own_apart (hx.ri i hi) h1.row (by decide))
  refine ⟨by rw [range_map_snoc]; exact hown, fun i hi => ?_, fun i hi => ?_, fun i j hij hj => ?_, ?_, fun i hi x hx => ?_⟩
  · by_cases e : i = m
    · subst e
      simp only [updF_same, Nat.lt_irrefl, if_true, if_false]
      exact kept hn
    · simp only [updF_other _ _ e, if_pos (show i < m by omega)]
      exact kept (h1.nest i (by omega))
  · have hl := h.low m (Nat.le_refl _)
    have ht := h.top
    by_cases e : i < m
    · simp only [if_pos e]; exact h.low i (by omega)
    · by_cases e2 : i = m
      · simp only [if_neg e, if_pos e2]; omega
      · simp only [if_neg e, if_neg e2]; omega
  · have ht := h.top
    by_cases e : j < m
    · simp only [if_pos e, if_pos (show i < m by omega)]; exact h.mono i j hij (by omega)
    · by_cases e1 : i < m
      · have := h.mono i m (by omega) (Nat.le_refl _)
        by_cases e2 : j = m
        · simp only [if_pos e1, if_neg e, if_pos e2]; omega
        · simp only [if_pos e1, if_neg e, if_neg e2]; omega
      · by_cases e2 : j = m
        · simp only [if_neg e1, if_neg e, if_pos e2, if_pos (show i = m by omega)]; omega
        · by_cases e3 : i = m
          · simp only [if_neg e1, if_neg e, if_neg e2, if_pos e3]; omega
          · simp only [if_neg e1, if_neg e, if_neg e2, if_neg e3]; omega
  · simp only [if_neg (show ¬ m + 1 < m by omega), if_neg (show ¬ m + 1 = m by omega)]; omega
  · have ht := h.top
    by_cases e : i = m
    · subst e
      simp only [updF_same] at hx
      simp only [if_neg (show ¬ i + 1 < i by omega), if_neg (show ¬ i + 1 = i by omega)]
      exact (hn.inn hx).2
    · simp only [updF_other _ _ e] at hx
      have := h.inn i (by omega) x hx
      by_cases e2 : i + 1 < m
      · simp only [if_pos e2]; exact this
      · obtain e3 : i + 1 = m := by omega
        rw [e3] at this
        simp only [if_neg e2, if_pos e3]; omega
def RowsAt (B : Nat) (w : World) (v : Value) (m : Nat) (L : Nat → List VN) : Prop :=
  m ≤ 1048576 ∧ ∃ a cap, v = .slice a m cap ∧ (0 < m → ∃ b, a = some ⟨b, 0, none⟩ ∧ b < B ∧ ∀ i, i < m → ∃ r, w.cell? ⟨b, i, none⟩ = some r ∧ NodesAt B w r (L i))
theorem Rows2.rows {base : Nat} {w : World} {v : Value} {m : Nat} {L : Nat → List VN} {rs : Nat → Value} {KV IV : Nat → Nat → Value} {lo : Nat → Nat} (h : Rows2 base w v m L rs KV IV lo) (hm : m ≤ 80) (hf : ∀ i, i < m → Few (L i) ∧ ∀ j, j < (L i).length → Fits (nodeAt (L i) j)) : RowsAt w.heap.size w v m L := by
  obtain ⟨a, c, e⟩ := own_slice h.row
  subst e
  refine ⟨by omega, a, c, rfl, fun hp => ?_⟩
  obtain ⟨g, cap, e, _, hlt⟩ := h.row.form hp
  cases e
  refine ⟨g, rfl, hlt, fun i hi => ⟨rs i, ?_, (h.nest i hi).nodes (by have := (hf i hi).1.1; omega) (hf i hi).2⟩⟩
  rw [h.row.cellAt i (by omega)]
  simp [hi]
end Go.Proofs.YtcidjhnogldgmaaGreatDoor

namespace Go.Proofs.YtcidjhnogldgmaaGreatDoor
open Go.RowKit
set_option linter.unusedSimpArgs false
set_option linter.unusedVariables false
theorem valStep {s N k : Nat} {w W0 W : World} {vs : List VN} {VV : Nat → Value} {u : Value} (hrow : W.rowIs s 42 N (fillI VV k)) (hall : ∀ j, j < k → ValIs s W0.heap.size W0 vs (j + 1) j (VV j)) (hk : Keep s W0.heap.size W0 W) (hsz : W0.heap.size ≤ W.heap.size) (hs : s < W0.heap.size) (hb : Below s w W)
    (hv : ValIs s W.heap.size W vs (k + 1) k u) :
    (W.setCell ⟨s, k, none⟩ u).rowIs s 42 N (fillI (fun j => if j = k then u else VV j) (k + 1)) ∧ (∀ j, j < k + 1 → ValIs s (W.setCell ⟨s, k, none⟩ u).heap.size (W.setCell ⟨s, k, none⟩ u) vs (j + 1) j (if j = k then u else VV j)) ∧ Below s w (W.setCell ⟨s, k, none⟩ u) := by
  have hsz2 : (W.setCell ⟨s, k, none⟩ u).heap.size = W.heap.size := World.size_setCell _ _ _
  refine ⟨fillI_step hrow, fun j hj => ?_, hb.setCell (Nat.le_refl _) _⟩
  by_cases e : j = k
  · subst e
    rw [if_pos rfl]
    exact ValIs.keep (Keep.setCell W u) (by omega) (by omega) hv
  · rw [if_neg e]
    exact ValIs.keep (hk.trans (Keep.setCell W u)) (by omega) (by omega) (hall j (by omega))
set_option maxRecDepth 100000 in
set_option maxHeartbeats 6400000 in
theorem valuesAt_any (B : Nat) (v : Value) (vs : List VN) (w : World) (h : NodesAt B w v vs) (hB : B ≤ w.heap.size) (hn1 : 1 ≤ vs.length) (hn80 : vs.length ≤ 80) (hok : ∀ k, k < vs.length → nodeB (nodeAt vs k) = true ∧ kidsIn vs k = true) (hkn : ∀ k, k < vs.length → (nodeAt vs k).kids.length ≤ k) :
    Calls Tryz.prog 27 #[v] w fun e w' => ∃ VV : Nat → Value, e = .returned (.slice (some ⟨w.heap.size, 0, none⟩) vs.length vs.length) ∧
      w'.rowIs w.heap.size 42 vs.length VV ∧ (∀ j, j < vs.length → ValIs w.heap.size w'.heap.size w' vs (j + 1) j (VV j)) ∧ Below w.heap.size w w' := by
  obtain ⟨hlen, a, cap, rfl, hcell⟩ := h
  obtain ⟨b0, o0, rfl, hb0, hc⟩ := hcell (by omega)
  clear hcell
  have HOK := hideIt hok
  have HC := hideIt hc
  clear hok hc
  have hmk := run_make_row' (P := Tryz.prog) 56 42 .nilIface 16 Tryz.underlying56 infoVal rfl .i64 .i64 vs.length (by omega) (by omega)
  obtain ⟨i0, hi, hz0, hz1, hz2⟩ := info_parts infoVal
  go_enter Tryz.func27, Tryz.ntmps27
  go_wp2_with fail
  clear hmk
  have hr0 : (w.alloc (.cells (madeCells #[Value.nilIface] vs.length) 42)).rowIs w.heap.size 42 vs.length (fillI (fun _ => undef) 0) := (World.rowIs_made w _ _ _).congr fun i _ => by simp [fillI]
  have hbz : Below w.heap.size w (w.alloc (.cells (madeCells #[Value.nilIface] vs.length) 42)) := (Below.refl _ _).alloc (Nat.le_refl _) _
  go_loopw [14] (fun i wr => ∃ (k : Nat) (VV : Nat → Value), k ≤ vs.length ∧ i = .int .i64 k ∧ wr.rowIs w.heap.size 42 vs.length (fillI VV k) ∧ (∀ j, j < k → ValIs w.heap.size wr.heap.size wr vs (j + 1) j (VV j)) ∧ Below w.heap.size w wr) (fun i _ => vs.length - (intOf i).toNat)
  case atStart => exact ⟨0, _, Nat.zero_le _, rfl, hr0, fun j hj => by omega, hbz⟩
  case round =>
    obtain ⟨k, VV, hk, rfl, hrow, hall, hbel⟩ := hrel
    obtain ⟨W0, rfl⟩ : ∃ W0, W0 = wr := ⟨_, rfl⟩
    have HA := hideIt hall
    clear hall hr0 hbz
    by_cases hlt : k < vs.length
    · obtain ⟨ka, ki, hn⟩ := HC.out k hlt
      have hn' := hn.below (hbel.mono hB) hb0
      have c0 := hn'.c0
      have c1 := hn'.c1
      have c2 := hn'.c2
      have c3 := hn'.c3
      have c4 := hn'.c4
      have hsize := hbel.size
      have hlt0 := hrow.lt
      have HK := hideIt hn.inn.keys
      obtain ⟨_, _, aK, cK, eK, _⟩ := hn'.inn.keys
      obtain ⟨hkl, hkb, aI, cI, eI, hkc⟩ := hn'.inn.kids
      subst eK eI
      have HR := hideIt hrow
      clear hn hn' hrow
      go_wp2_with fail
      have x0 : (W0.alloc (.cells #[.int .i64 (nodeAt vs k).kind, .int .i64 (nodeAt vs k).n, .string (nodeAt vs k).s, .slice aK (nodeAt vs k).keys.length cK, .slice aI (nodeAt vs k).kids.length cI] 32)).cell? ⟨W0.heap.size, 0, none⟩ = some (.int .i64 (nodeAt vs k).kind) := by simp
      have x1 : (W0.alloc (.cells #[.int .i64 (nodeAt vs k).kind, .int .i64 (nodeAt vs k).n, .string (nodeAt vs k).s, .slice aK (nodeAt vs k).keys.length cK, .slice aI (nodeAt vs k).kids.length cI] 32)).cell? ⟨W0.heap.size, 1, none⟩ = some (.int .i64 (nodeAt vs k).n) := by simp
      have x2 : (W0.alloc (.cells #[.int .i64 (nodeAt vs k).kind, .int .i64 (nodeAt vs k).n, .string (nodeAt vs k).s, .slice aK (nodeAt vs k).keys.length cK, .slice aI (nodeAt vs k).kids.length cI] 32)).cell? ⟨W0.heap.size, 2, none⟩ = some (.string (nodeAt vs k).s) := by simp
      have x3 : (W0.alloc (.cells #[.int .i64 (nodeAt vs k).kind, .int .i64 (nodeAt vs k).n, .string (nodeAt vs k).s, .slice aK (nodeAt vs k).keys.length cK, .slice aI (nodeAt vs k).kids.length cI] 32)).cell? ⟨W0.heap.size, 3, none⟩ = some (.slice aK (nodeAt vs k).keys.length cK) := by simp
      have sW1 : (W0.alloc (.cells #[.int .i64 (nodeAt vs k).kind, .int .i64 (nodeAt vs k).n, .string (nodeAt vs k).s, .slice aK (nodeAt vs k).keys.length cK, .slice aI (nodeAt vs k).kids.length cI] 32)).heap.size = W0.heap.size + 1 := by simp
      have bW1 : Below W0.heap.size W0 (W0.alloc (.cells #[.int .i64 (nodeAt vs k).kind, .int .i64 (nodeAt vs k).n, .string (nodeAt vs k).s, .slice aK (nodeAt vs k).keys.length cK, .slice aI (nodeAt vs k).kids.length cI] 32)) := (Below.refl _ _).alloc (Nat.le_refl _) _
      have rW1 := hideIt (HR.out.alloc (.cells #[.int .i64 (nodeAt vs k).kind, .int .i64 (nodeAt vs k).n, .string (nodeAt vs k).s, .slice aK (nodeAt vs k).keys.length cK, .slice aI (nodeAt vs k).kids.length cI] 32))
      generalize (W0.alloc (.cells #[.int .i64 (nodeAt vs k).kind, .int .i64 (nodeAt vs k).n, .string (nodeAt vs k).s, .slice aK (nodeAt vs k).keys.length cK, .slice aI (nodeAt vs k).kids.length cI] 32)) = W1 at *
      have HsW := hideIt sW1
      have hW1gt : W0.heap.size < W1.heap.size := by omega
      have HX := hideIt (And.intro x0 (And.intro x1 (And.intro x2 x3)))
      have hsub : Below w.heap.size w W1 := hbel.trans (bW1.mono hsize)
      clear sW1 x0 x1 x2 x3 c0 c1 c2 c3 c4
      go_loopw [6, 22] (fun it i wr => ∃ c : Nat, c ≤ (nodeAt vs k).kids.length ∧ i = .int .i64 c ∧ wr.ownsRow W1.heap.size 42 1 it c ((List.range c).map fun j => VV (intAt (nodeAt vs k).kids j).toNat) ∧ Below W1.heap.size W1 wr) (fun _ i _ => (nodeAt vs k).kids.length - (intOf i).toNat)
      case atStart => exact ⟨0, Nat.zero_le _, rfl, World.ownsRow_nil _ _ _ _, Below.refl _ _⟩
      case round =>
        obtain ⟨c, hcl, rfl, hown, hb2⟩ := hrel
        by_cases hcc : c < (nodeAt vs k).kids.length
        · obtain ⟨b1, o1, rfl, hb1', hkc1⟩ := hkc (by omega)
          have hkr := kidsIn_get (HOK.out k hlt).2 hcc
          obtain ⟨q, hq⟩ : ∃ q : Nat, intAt (nodeAt vs k).kids c = (q : Int) := ⟨(intAt (nodeAt vs k).kids c).toNat, by omega⟩
          have hqk : q < k := by omega
          have hck : wr.cell? ⟨b1, o1 + c, none⟩ = some (.int .i64 (q : Int)) := by
            rw [← hq]; exact (below_cell hb2 (by omega)).trans ((below_cell bW1 (by omega)).trans (hkc1 c hcc))
          obtain ⟨tq, xq, hvq⟩ := (HA.out q hqk).iface
          have hcq : wr.cell? ⟨w.heap.size, q, none⟩ = some (.iface tq xq) := by
            refine (below_cell hb2 (by omega)).trans ?_
            rw [rW1.out.cell (by omega), fillI, if_pos hqk, hvq]
          have hqN : (q : Int) < (vs.length : Int) := by omega
          have HQ : Hid ((List.range (c + 1)).map (fun j => VV (intAt (nodeAt vs k).kids j).toNat) = (List.range c).map (fun j => VV (intAt (nodeAt vs k).kids j).toNat) ++ [.iface tq xq]) := by
            rw [Hid, List.range_succ, List.map_append]
            simp [hq, hvq]
          have hb2s := hb2.size
          have HB2 := hideIt hb2
          have h80 : (nodeAt vs k).kids.length ≤ 80 := by have := hkn k hlt; omega
          clear hkc hkc1 hq hkr hvq
          go_wp2_with (at_builtin; refine wpList_append_own _ rfl _ _ 56 rfl W1.heap.size 42 i0 .nilIface 1 16 Tryz.underlying56 hi hz0 hz1 hz2 rfl (by decide) _ _ _ rfl (hown.alloc _) ⟨wr.heap.size, 0, none⟩ 1 1 [.iface tq xq] rfl rfl ?c1 ?c2 ?c3 ?c4 ?c5 ?_)
          case c1 =>
            intro j u hj
            match j, hj with
            | 0, hj => simp at hj; subst hj; simp [Addr.add]
          case c2 => intro u hu; simp at hu; subst hu; rfl
          case c3 => unfold maxLen; omega
          case c4 => omega
          case c5 => simp; omega
          intro v' w3 hown' hgrow _
          have hb3 : Below W1.heap.size W1 w3 := (HB2.out.alloc hb2s _).grown hgrow (by simp; omega) (fun r hr => by
            rcases hown.2 with ⟨rfl, _⟩ | ⟨g, cp, cu, rfl, hbg, _⟩
            · simp [Value.ownBlock] at hr
            · simp [Value.ownBlock] at hr; omega)
          rw [← HQ.out] at hown'
          clear hgrow hown
          go_wp2_with fail
          go_roundw
          case rel => exact ⟨c + 1, by omega, by go_num, hown', hb3⟩
          case measure => simp [intOf]; omega
        · obtain rfl : c = (nodeAt vs k).kids.length := by omega
          have hb2s := hb2.size
          have hIt := hideIt (items_of_own (lo := w.heap.size) (P := fun j u => ValIs w.heap.size wr.heap.size wr vs k (intAt (nodeAt vs k).kids j).toNat u) hown (by omega) (fun j hj => by
            have hkr := kidsIn_get (HOK.out k hlt).2 hj
            obtain ⟨t, x, e⟩ := (HA.out (intAt (nodeAt vs k).kids j).toNat (by omega)).iface
            refine ⟨t, x, e, ?_⟩
            rw [← e]
            exact ValIs.more (by omega) (ValIs.keep ((Keep.of_below (bW1)).trans (Keep.of_below (hb2.mono (by omega)))) (by omega) (by omega) (HA.out _ (by omega)))))
          have hitv := hIt.out
          obtain ⟨ait, cpt, rfl, _⟩ := hitv
          have y0 : wr.cell? ⟨W0.heap.size, 0, none⟩ = some (.int .i64 (nodeAt vs k).kind) := (below_cell hb2 (by omega)).trans HX.out.1
          have y1 : wr.cell? ⟨W0.heap.size, 1, none⟩ = some (.int .i64 (nodeAt vs k).n) := (below_cell hb2 (by omega)).trans HX.out.2.1
          have y2 : wr.cell? ⟨W0.heap.size, 2, none⟩ = some (.string (nodeAt vs k).s) := (below_cell hb2 (by omega)).trans HX.out.2.2.1
          have y3 : wr.cell? ⟨W0.heap.size, 3, none⟩ = some (.slice aK (nodeAt vs k).keys.length cK) := (below_cell hb2 (by omega)).trans HX.out.2.2.2
          have rwr := rowIs_below rW1.out hb2 (by omega)
          have z0 := rwr.cell hlt
          have z1 := rwr.frozen k
          have HRW := hideIt rwr
          have HKE : Hid (Keep w.heap.size W0.heap.size W0 wr) := (Keep.of_below (bW1)).trans (Keep.of_below (hb2.mono (by omega)))
          have HBE : Hid (Below w.heap.size w wr) := hsub.trans (hb2.mono (by omega))
          have hszz : W0.heap.size ≤ wr.heap.size := by omega
          have HKY : Hid (StrsAt w.heap.size wr (.slice aK (nodeAt vs k).keys.length cK) (nodeAt vs k).keys) := (HK.out.wide hB).below HBE.out
          have HNB := hideIt (HOK.out k hlt).1
          clear hown rwr
          by_cases g2 : (nodeAt vs k).kind = 2
          · have S := valStep (u := .iface 68 (.agg #[.int .i64 (nodeAt vs k).n])) HRW.out HA.out HKE.out hszz hlt0 HBE.out (Or.inr (Or.inl ⟨g2, rfl⟩))
            have HS := hideIt S
            clear S
            go_wp2_with fail
            go_roundw
            case rel => exact ⟨k + 1, _, by omega, by go_num, HS.out.1, HS.out.2.1, HS.out.2.2⟩
            case measure => simp [intOf]; omega
          by_cases g3 : (nodeAt vs k).kind = 3
          · have S := valStep (u := .iface 70 (.agg #[.int .i64 (nodeAt vs k).n])) HRW.out HA.out HKE.out hszz hlt0 HBE.out (Or.inr (Or.inr (Or.inl ⟨g3, rfl⟩)))
            have HS := hideIt S
            clear S g2
            go_wp2_with fail
            go_roundw
            case rel => exact ⟨k + 1, _, by omega, by go_num, HS.out.1, HS.out.2.1, HS.out.2.2⟩
            case measure => simp [intOf]; omega
          by_cases g4 : (nodeAt vs k).kind = 4
          · have S := valStep (u := .iface 72 (.agg #[.string (nodeAt vs k).s])) HRW.out HA.out HKE.out hszz hlt0 HBE.out (Or.inr (Or.inr (Or.inr (Or.inl ⟨g4, rfl⟩))))
            have HS := hideIt S
            clear S g2 g3
            go_wp2_with fail
            go_roundw
            case rel => exact ⟨k + 1, _, by omega, by go_num, HS.out.1, HS.out.2.1, HS.out.2.2⟩
            case measure => simp [intOf]; omega
          by_cases g5 : (nodeAt vs k).kind = 5
          · have S := valStep (u := .iface 107 (.agg #[.slice ait (nodeAt vs k).kids.length cpt])) HRW.out HA.out HKE.out hszz hlt0 HBE.out (Or.inr (Or.inr (Or.inr (Or.inr (Or.inl ⟨g5, _, rfl, hIt.out⟩)))))
            have HS := hideIt S
            clear S g2 g3 g4
            go_wp2_with fail
            go_roundw
            case rel => exact ⟨k + 1, _, by omega, by go_num, HS.out.1, HS.out.2.1, HS.out.2.2⟩
            case measure => simp [intOf]; omega
          by_cases g6 : (nodeAt vs k).kind = 6
          · have S := valStep (u := .iface 96 (.agg #[.slice aK (nodeAt vs k).keys.length cK, .slice ait (nodeAt vs k).kids.length cpt])) HRW.out HA.out HKE.out hszz hlt0 HBE.out (Or.inr (Or.inr (Or.inr (Or.inr (Or.inr ⟨g6, _, _, rfl, HKY.out, hIt.out⟩)))))
            have HS := hideIt S
            clear S g2 g3 g4 g5
            go_wp2_with fail
            go_roundw
            case rel => exact ⟨k + 1, _, by omega, by go_num, HS.out.1, HS.out.2.1, HS.out.2.2⟩
            case measure => simp [intOf]; omega
          · have g1 : (nodeAt vs k).kind = 1 := by
              have := HNB.out
              unfold nodeB namedB at this
              by_cases e1 : (nodeAt vs k).kind = 1
              · exact e1
              · simp [e1, g2, g3, g4, g5, g6] at this
            have S := valStep (u := .iface 109 (.agg #[])) HRW.out HA.out HKE.out hszz hlt0 HBE.out (Or.inl ⟨g1, rfl⟩)
            have HS := hideIt S
            clear S g2 g3 g4 g5 g6
            go_wp2_with fail
            go_roundw
            case rel => exact ⟨k + 1, _, by omega, by go_num, HS.out.1, HS.out.2.1, HS.out.2.2⟩
            case measure => simp [intOf]; omega
    · obtain rfl : k = vs.length := by omega
      go_wp2_with fail
      go_ret
      exact ⟨VV, rfl, hrow.congr fun i hi => by simp [fillI, hi], HA.out, hbel⟩
end Go.Proofs.YtcidjhnogldgmaaGreatDoor

namespace Go.Proofs.YtcidjhnogldgmaaGreatDoor
open Go.RowKit
set_option linter.unusedSimpArgs false
set_option linter.unusedVariables false
def Laid (base : Nat) (w w' : World) (v v' : Value) (ns add : List VN) (KV IV KV' IV' : Nat → Value) : Prop :=
  Nest base w' v' (ns ++ add) KV' IV' ∧ w.grownBy w' v.ownBlock ∧ (v'.ownBlock = v.ownBlock ∨ ∃ g, v'.ownBlock = some g ∧ w.heap.size ≤ g) ∧ (∀ j, j < ns.length → KV' j = KV j ∧ IV' j = IV j) ∧
    (∀ j, ns.length ≤ j → j < ns.length + add.length → (∀ y, (KV' j).ownBlock = some y → w.heap.size ≤ y) ∧ (∀ y, (IV' j).ownBlock = some y → w.heap.size ≤ y))
structure Mid (base : Nat) (w wr : World) (nb : Nat) (v0 v kv : Value) (ns acc : List VN) (ks : List Int) (cs : List Value) (KV0 IV0 KV IV : Nat → Value) : Prop where
  hbase : base ≤ w.heap.size
  v0b : ∀ y, v0.ownBlock = some y → base ≤ y
  nest : Nest base wr v (ns ++ acc) KV IV
  node : wr.ownsRow w.heap.size 32 5 (.slice (some ⟨nb, 0, none⟩) 1 1) 1 cs
  kids : wr.ownsRow w.heap.size 2 1 kv ks.length (ks.map (.int .i64))
  vnb : v.ownBlock ≠ some nb
  frame : w.grownBy wr v0.ownBlock
  vat : v.ownBlock = v0.ownBlock ∨ ∃ g, v.ownBlock = some g ∧ w.heap.size ≤ g
  old : ∀ j, j < ns.length → KV j = KV0 j ∧ IV j = IV0 j
  new : ∀ j, ns.length ≤ j → j < ns.length + acc.length → (∀ y, (KV j).ownBlock = some y → w.heap.size ≤ y) ∧ (∀ y, (IV j).ownBlock = some y → w.heap.size ≤ y)
  ki : ∀ j, j < ns.length + acc.length → ∀ y, kv.ownBlock = some y → (IV j).ownBlock ≠ some y
theorem grownBy_of_below {w w' : World} {row : Option Nat} (h : Below w.heap.size w w') : w.grownBy w' row := ⟨h.os, h.tape, h.output, h.size, fun k hk _ => h.block k hk⟩
theorem Mid.start {base : Nat} {w w1 w2 : World} {v : Value} {ns : List VN} {KV IV : Nat → Value} {c0 c1 c2 c3 c4 : Value} (h : Nest base w v ns KV IV) (hb : base ≤ w.heap.size) (h1 : Below w.heap.size w w1)
    (h2 : Below (w1.alloc (.cells #[c0, c1, c2, c3, c4] 32)).heap.size (w1.alloc (.cells #[c0, c1, c2, c3, c4] 32)) w2) :
    Mid base w w2 w1.heap.size v v (.slice none 0 0) ns [] [] [c0, c1, c2, c3, c4] KV IV KV IV := by
  have hb2 : Below w.heap.size w w2 := (h1.alloc h1.size _).trans (h2.mono (by have := h1.size; simp; omega))
  have hn := World.ownsRow_lit (base := w.heap.size) (e := 32) (size := 5) w1 #[c0, c1, c2, c3, c4] 1 h1.size (by simp [maxLen]) rfl
  refine ⟨hb, fun y hy => (h.row.lt y hy).1, by simpa using h.below hb2, own_below hn h2 (fun x hx => ?_), World.ownsRow_nil _ _ _ _, fun e => ?_, grownBy_of_below hb2, Or.inl rfl, fun j _ => ⟨rfl, rfl⟩, fun j h1 h2 => ?_, fun j hj y hy => ?_⟩
  · simp [Value.ownBlock] at hx; subst hx; simp
  · have := (h.row.lt _ e).2
    have := h1.size
    omega
  · simp at h2; omega
  · simp [Value.ownBlock] at hy
theorem Mid.laid {base : Nat} {w wr w' : World} {nb : Nat} {v0 v v' kv : Value} {ns acc add : List VN} {ks : List Int} {cs : List Value} {KV0 IV0 KV IV KV' IV' : Nat → Value} (h : Mid base w wr nb v0 v kv ns acc ks cs KV0 IV0 KV IV)
    (l : Laid base wr w' v v' (ns ++ acc) add KV IV KV' IV') : Mid base w w' nb v0 v' kv ns (acc ++ add) ks cs KV0 IV0 KV' IV' := by
  obtain ⟨l1, l2, l3, l4, l5⟩ := l
  have hnb := (h.node.lt nb rfl).2
  have hsz := h.frame.size
  refine ⟨h.hbase, h.v0b, by rw [← List.append_assoc]; exact l1, h.node.kept l2 (Or.inr fun e => h.vnb e.symm), h.kids.kept l2 (own_apart h.kids h.nest.row (by decide)), ?_, h.frame.andThen l2 (fun j hj => ?_), ?_, fun j hj => ?_, fun j hj1 hj2 => ?_, fun j hj y hy => ?_⟩
  · rcases l3 with e | ⟨g, e, hg⟩
    · rw [e]; exact h.vnb
    · rw [e]; intro e2; simp at e2; omega
  · rcases h.vat with e | ⟨g, e, hg⟩
    · exact Or.inr (e ▸ hj)
    · rw [e] at hj; simp at hj; exact Or.inl (by omega)
  · rcases l3 with e | ⟨g, e, hg⟩
    · rw [e]; exact h.vat
    · exact Or.inr ⟨g, e, by omega⟩
  · have e := l4 j (by simp; omega)
    have o := h.old j hj
    exact ⟨e.1.trans o.1, e.2.trans o.2⟩
  · by_cases hlt : j < ns.length + acc.length
    · have e := l4 j (by simp; omega)
      rw [e.1, e.2]
      exact h.new j hj1 hlt
    · have e := l5 j (by simp; omega) (by simp at hj2 ⊢; omega)
      exact ⟨fun y hy => Nat.le_trans hsz (e.1 y hy), fun y hy => Nat.le_trans hsz (e.2 y hy)⟩
  · by_cases hlt : j < ns.length + acc.length
    · rw [(l4 j (by simp; omega)).2]
      exact h.ki j hlt y hy
    · intro e
      have := (l5 j (by simp; omega) (by simp at hj ⊢; omega)).2 y e
      have := (h.kids.lt y hy).2
      omega
theorem Mid.put {base : Nat} {w wr : World} {nb : Nat} {v0 v kv : Value} {ns acc : List VN} {ks : List Int} {cs : List Value} {KV0 IV0 KV IV : Nat → Value} (h : Mid base w wr nb v0 v kv ns acc ks cs KV0 IV0 KV IV) (j : Nat) (u : Value) :
    Mid base w (wr.setCell ⟨nb, j, none⟩ u) nb v0 v kv ns acc ks (cs.set j u) KV0 IV0 KV IV := by
  have st := h.node.stored j u
  exact ⟨h.hbase, h.v0b, h.nest.kept st.2 (Or.inr h.vnb) (fun i hi => own_apart (h.nest.rk i hi) h.node (by decide)) (fun i hi => own_apart (h.nest.ri i hi) h.node (by decide)), st.1, h.kids.kept st.2 (own_apart h.kids h.node (by decide)), h.vnb,
    h.frame.andThen st.2 (fun j hj => Or.inl (by cases hj; exact (h.node.lt nb rfl).1)), h.vat, h.old, h.new, h.ki⟩
theorem Mid.kid1 {base : Nat} {w wr w5 : World} {nb : Nat} {v0 v kv kv' : Value} {ns acc : List VN} {ks : List Int} {cs : List Value} {KV0 IV0 KV IV : Nat → Value} {o : Obj} {q : Int} (h : Mid base w wr nb v0 v kv ns acc ks cs KV0 IV0 KV IV)
    (hown : w5.ownsRow w.heap.size 2 1 kv' (ks.length + 1) (ks.map (.int .i64) ++ [.int .i64 q])) (hg : (wr.alloc o).grownBy w5 kv.ownBlock) (hat : kv'.ownBlock = kv.ownBlock ∨ kv'.ownBlock = some (wr.heap.size + 1)) :
    Mid base w w5 nb v0 v kv' ns acc (ks ++ [q]) cs KV0 IV0 KV IV := by
  have hg1 : wr.grownBy w5 kv.ownBlock := (World.grownBy_alloc wr o _).trans hg
  have hkk : ∀ i, i < (ns ++ acc).length → (IV i).ownBlock = none ∨ (IV i).ownBlock ≠ kv.ownBlock := by
    intro i hi
    cases e : kv.ownBlock with
    | none => cases e2 : (IV i).ownBlock with
      | none => exact Or.inl rfl
      | some y => exact Or.inr (by simp)
    | some y => exact Or.inr (h.ki i (by simpa using hi) y e)
  refine ⟨h.hbase, h.v0b, h.nest.kept hg1 (own_apart h.nest.row h.kids (by decide)) (fun i hi => own_apart (h.nest.rk i hi) h.kids (by decide)) hkk, h.node.kept hg1 (own_apart h.node h.kids (by decide)), by simpa using hown, h.vnb, h.frame.andThen hg1 (fun j hj => Or.inl (h.kids.lt j hj).1), h.vat, h.old, h.new, fun j hj y hy => ?_⟩
  rcases hat with e | e
  · exact h.ki j hj y (e ▸ hy)
  · rw [e] at hy
    simp at hy
    intro e2
    have := ((h.nest.ri j (by simpa using hj)).lt y e2).2
    omega
theorem Mid.kid {base : Nat} {w wr w5 : World} {nb : Nat} {v0 v kv kv' : Value} {ns acc : List VN} {ks : List Int} {cs : List Value} {KV0 IV0 KV IV : Nat → Value} {o : Obj} {q : Int} (h : Mid base w wr nb v0 v kv ns acc ks cs KV0 IV0 KV IV)
    (hown : w5.ownsRow w.heap.size 2 1 kv' (ks.length + 1) (ks.map (.int .i64) ++ [.int .i64 q])) (hg : (wr.alloc o).grownBy w5 kv.ownBlock) (hat : kv'.ownBlock = kv.ownBlock ∨ kv'.ownBlock = some (wr.heap.size + 1)) :
    Mid base w (w5.setCell ⟨nb, 4, none⟩ kv') nb v0 v kv' ns acc (ks ++ [q]) (cs.set 4 kv') KV0 IV0 KV IV := (h.kid1 hown hg hat).put 4 kv'
theorem Mid.kid0 {base : Nat} {w wr : World} {nb : Nat} {v0 v kv : Value} {ns acc : List VN} {ks : List Int} {cs : List Value} {KV0 IV0 KV IV : Nat → Value} (h : Mid base w wr nb v0 v kv ns acc ks cs KV0 IV0 KV IV) :
    Mid base w (wr.alloc (.cells #[] 2)) nb v0 v (.slice (some ⟨wr.heap.size, 0, none⟩) 0 0) ns acc [] cs KV0 IV0 KV IV := by
  have hg := World.grownBy_alloc wr (.cells #[] 2) none
  have nn : ∀ x : Option Nat, x = none ∨ x ≠ none := fun x => by cases x <;> simp
  have hs := h.frame.size
  refine ⟨h.hbase, h.v0b, h.nest.kept hg (nn _) (fun _ _ => nn _) (fun _ _ => nn _), h.node.kept hg (nn _), World.ownsRow_lit wr #[] 0 hs (by simp [maxLen]) rfl, h.vnb, h.frame.andThen hg (fun j hj => by cases hj), h.vat, h.old, h.new, fun j hj y hy e => ?_⟩
  have := ((h.nest.ri j (by simpa using hj)).lt y e).2
  simp [Value.ownBlock] at hy
  omega
theorem Mid.grow {base : Nat} {w wr w5 : World} {nb : Nat} {v0 v kv : Value} {ns acc : List VN} {ks : List Int} {cs : List Value} {KV0 IV0 KV IV : Nat → Value} (h : Mid base w wr nb v0 v kv ns acc ks cs KV0 IV0 KV IV) (hg : wr.grownBy w5 none) :
    Mid base w w5 nb v0 v kv ns acc ks cs KV0 IV0 KV IV := by
  have nn : ∀ x : Option Nat, x = none ∨ x ≠ none := fun x => by cases x <;> simp
  exact ⟨h.hbase, h.v0b, h.nest.kept hg (nn _) (fun _ _ => nn _) (fun _ _ => nn _), h.node.kept hg (nn _), h.kids.kept hg (nn _), h.vnb, h.frame.andThen hg (fun j hj => by cases hj), h.vat, h.old, h.new, h.ki⟩
theorem Mid.fin {base : Nat} {w wr w6 : World} {nb : Nat} {v0 v v' kv c3 : Value} {ns acc : List VN} {ks : List Int} {cs : List Value} {KV0 IV0 KV IV : Nat → Value} {o : Obj} {x : VN} (h : Mid base w wr nb v0 v kv ns acc ks cs KV0 IV0 KV IV) (hx : x.kids = ks)
    (hk : wr.ownsRow w.heap.size 9 1 c3 x.keys.length (x.keys.map .string)) (fk : ∀ j, j < ns.length + acc.length → ∀ y, c3.ownBlock = some y → (KV j).ownBlock ≠ some y)
    (hown : w6.ownsRow base 32 5 v' ((ns ++ acc).length + 1) (nestCells (ns ++ acc) KV IV ++ [.int .i64 x.kind, .int .i64 x.n, .string x.s, c3, kv])) (hg : (wr.alloc o).grownBy w6 v.ownBlock) (hat : v'.ownBlock = v.ownBlock ∨ v'.ownBlock = some (wr.heap.size + 1)) :
    Laid base w w6 v0 v' ns (acc ++ [x]) KV0 IV0 (upd KV (ns ++ acc).length c3) (upd IV (ns ++ acc).length kv) := by
  subst hx
  have hg1 : wr.grownBy w6 v.ownBlock := (World.grownBy_alloc wr o _).trans hg
  have hsz := h.frame.size
  have hn := Nest.snoc (x := x) h.nest (own_mono hk h.hbase) (own_mono h.kids h.hbase) (fun i hi => fk i (by simpa using hi)) (fun i hi => h.ki i (by simpa using hi)) hown hg1
  refine ⟨by rw [← List.append_assoc]; exact hn, h.frame.andThen hg1 (fun j hj => ?_), ?_, fun j hj => ?_, fun j hj1 hj2 => ?_⟩
  · rcases h.vat with e | ⟨g, e, hg⟩
    · exact Or.inr (e ▸ hj)
    · rw [e] at hj; simp at hj; exact Or.inl (by omega)
  · rcases hat with e | e
    · rw [e]; exact h.vat
    · exact Or.inr ⟨_, e, by omega⟩
  · rw [upd_other _ _ (by simp; omega), upd_other _ _ (by simp; omega)]
    exact h.old j hj
  · by_cases hlt : j < ns.length + acc.length
    · rw [upd_other _ _ (by simp; omega), upd_other _ _ (by simp; omega)]
      exact h.new j hj1 hlt
    · obtain rfl : j = (ns ++ acc).length := by simp at hj2 ⊢; omega
      rw [upd_same, upd_same]
      exact ⟨fun y hy => (hk.lt y hy).1, fun y hy => (h.kids.lt y hy).1⟩
theorem Mid.keepL {base : Nat} {w wr : World} {nb : Nat} {v0 v kv : Value} {ns acc : List VN} {ks : List Int} {cs : List Value} {KV0 IV0 KV IV : Nat → Value} {B : Nat} (h : Mid base w wr nb v0 v kv ns acc ks cs KV0 IV0 KV IV) (hB : B ≤ base) : Below B w wr :=
  (Below.refl _ _).grown h.frame (by have := h.hbase; omega) (fun k hk => by have := h.v0b k hk; omega)
theorem Laid.refl {base : Nat} {w : World} {v : Value} {ns : List VN} {KV IV : Nat → Value} (h : Nest base w v ns KV IV) : Laid base w w v v ns [] KV IV KV IV :=
  ⟨by simpa using h, ⟨rfl, rfl, rfl, Nat.le_refl _, fun _ _ _ => rfl⟩, Or.inl rfl, fun _ _ => ⟨rfl, rfl⟩, fun j h1 h2 => by simp at h2; omega⟩
theorem Laid.trans {base : Nat} {w w1 w2 : World} {v v1 v2 : Value} {ns add add' : List VN} {KV IV KV1 IV1 KV2 IV2 : Nat → Value} (h : Laid base w w1 v v1 ns add KV IV KV1 IV1) (k : Laid base w1 w2 v1 v2 (ns ++ add) add' KV1 IV1 KV2 IV2) : Laid base w w2 v v2 ns (add ++ add') KV IV KV2 IV2 := by
  obtain ⟨h1, h2, h3, h4, h5⟩ := h
  obtain ⟨k1, k2, k3, k4, k5⟩ := k
  have hs := h2.size
  refine ⟨by rw [← List.append_assoc]; exact k1, h2.andThen k2 (fun j hj => ?_), ?_, fun j hj => ?_, fun j hj1 hj2 => ?_⟩
  · rcases h3 with e | ⟨g, e, hg⟩
    · exact Or.inr (e ▸ hj)
    · rw [e] at hj; simp at hj; exact Or.inl (by omega)
  · rcases k3 with e | ⟨g, e, hg⟩
    · rw [e]; exact h3
    · exact Or.inr ⟨g, e, by omega⟩
  · have e := k4 j (by simp; omega)
    have o := h4 j hj
    exact ⟨e.1.trans o.1, e.2.trans o.2⟩
  · by_cases hlt : j < ns.length + add.length
    · have e := k4 j (by simp; omega)
      rw [e.1, e.2]
      exact h5 j hj1 hlt
    · have e := k5 j (by simp; omega) (by simp at hj2 ⊢; omega)
      exact ⟨fun y hy => Nat.le_trans hs (e.1 y hy), fun y hy => Nat.le_trans hs (e.2 y hy)⟩
theorem Laid.below {base B : Nat} {w w1 : World} {v v1 : Value} {ns add : List VN} {KV IV KV1 IV1 : Nat → Value} (h : Laid base w w1 v v1 ns add KV IV KV1 IV1) (hv : ∀ y, v.ownBlock = some y → base ≤ y) (hB : B ≤ base) (hb : base ≤ w.heap.size) : Below B w w1 :=
  (Below.refl _ _).grown h.2.1 (by omega) (fun k hk => by have := hv k hk; omega)
end Go.Proofs.YtcidjhnogldgmaaGreatDoor

namespace Go.Proofs.YtcidjhnogldgmaaGreatDoor
open Go.RowKit
set_option linter.unusedSimpArgs false
set_option linter.unusedVariables false
theorem parts1_any (w : World) : Calls Tryz.prog 250 #[.agg #[]] w fun e w' => e = .returned (.slice none 0 0) ∧ Below w.heap.size w w' := by
  go_enter Tryz.func250, Tryz.ntmps250
  go_wp2_with fail
  go_ret
  exact ⟨rfl, (Below.refl _ _).alloc (Nat.le_refl _) _⟩
theorem parts2_any (n : Int) (w : World) : Calls Tryz.prog 240 #[.agg #[.int .i64 n]] w fun e w' => e = .returned (.slice none 0 0) ∧ Below w.heap.size w w' := by
  go_enter Tryz.func240, Tryz.ntmps240
  go_wp2_with fail
  go_ret
  exact ⟨rfl, (Below.refl _ _).alloc (Nat.le_refl _) _⟩
theorem parts3_any (n : Int) (w : World) : Calls Tryz.prog 242 #[.agg #[.int .i64 n]] w fun e w' => e = .returned (.slice none 0 0) ∧ Below w.heap.size w w' := by
  go_enter Tryz.func242, Tryz.ntmps242
  go_wp2_with fail
  go_ret
  exact ⟨rfl, (Below.refl _ _).alloc (Nat.le_refl _) _⟩
theorem parts4_any (s : ByteArray) (w : World) : Calls Tryz.prog 244 #[.agg #[.string s]] w fun e w' => e = .returned (.slice none 0 0) ∧ Below w.heap.size w w' := by
  go_enter Tryz.func244, Tryz.ntmps244
  go_wp2_with fail
  go_ret
  exact ⟨rfl, (Below.refl _ _).alloc (Nat.le_refl _) _⟩
theorem parts5_any (a : Option Addr) (n c : Nat) (w : World) : Calls Tryz.prog 248 #[.agg #[.slice a n c]] w fun e w' => e = .returned (.slice a n c) ∧ Below w.heap.size w w' := by
  go_enter Tryz.func248, Tryz.ntmps248
  go_wp2_with fail
  go_ret
  exact ⟨rfl, (Below.refl _ _).alloc (Nat.le_refl _) _⟩
theorem parts6_any (a : Option Addr) (n c : Nat) (a' : Option Addr) (n' c' : Nat) (w : World) : Calls Tryz.prog 246 #[.agg #[.slice a n c, .slice a' n' c']] w fun e w' => e = .returned (.slice a' n' c') ∧ Below w.heap.size w w' := by
  go_enter Tryz.func246, Tryz.ntmps246
  go_wp2_with fail
  go_ret
  exact ⟨rfl, (Below.refl _ _).alloc (Nat.le_refl _) _⟩
theorem ta_null_bool (x : Value) (w : World) : (Instr.typeAssert (.iface 109 x) 42 68 true).run Tryz.prog w = .ok (.tuple #[.agg #[.int .i64 0], .bool false]) w := by kernel_rfl
theorem ta_null_int (x : Value) (w : World) : (Instr.typeAssert (.iface 109 x) 42 70 true).run Tryz.prog w = .ok (.tuple #[.agg #[.int .i64 0], .bool false]) w := by kernel_rfl
theorem ta_null_text (x : Value) (w : World) : (Instr.typeAssert (.iface 109 x) 42 72 true).run Tryz.prog w = .ok (.tuple #[.agg #[.string ByteArray.empty], .bool false]) w := by kernel_rfl
theorem ta_null_map (x : Value) (w : World) : (Instr.typeAssert (.iface 109 x) 42 96 true).run Tryz.prog w = .ok (.tuple #[.agg #[.slice none 0 0, .slice none 0 0], .bool false]) w := by kernel_rfl
theorem ta_bool_bool (x : Value) (w : World) : (Instr.typeAssert (.iface 68 x) 42 68 true).run Tryz.prog w = .ok (.tuple #[x, .bool true]) w := by kernel_rfl
theorem ta_int_bool (x : Value) (w : World) : (Instr.typeAssert (.iface 70 x) 42 68 true).run Tryz.prog w = .ok (.tuple #[.agg #[.int .i64 0], .bool false]) w := by kernel_rfl
theorem ta_int_int (x : Value) (w : World) : (Instr.typeAssert (.iface 70 x) 42 70 true).run Tryz.prog w = .ok (.tuple #[x, .bool true]) w := by kernel_rfl
theorem ta_text_bool (x : Value) (w : World) : (Instr.typeAssert (.iface 72 x) 42 68 true).run Tryz.prog w = .ok (.tuple #[.agg #[.int .i64 0], .bool false]) w := by kernel_rfl
theorem ta_text_int (x : Value) (w : World) : (Instr.typeAssert (.iface 72 x) 42 70 true).run Tryz.prog w = .ok (.tuple #[.agg #[.int .i64 0], .bool false]) w := by kernel_rfl
theorem ta_text_text (x : Value) (w : World) : (Instr.typeAssert (.iface 72 x) 42 72 true).run Tryz.prog w = .ok (.tuple #[x, .bool true]) w := by kernel_rfl
theorem ta_list_bool (x : Value) (w : World) : (Instr.typeAssert (.iface 107 x) 42 68 true).run Tryz.prog w = .ok (.tuple #[.agg #[.int .i64 0], .bool false]) w := by kernel_rfl
theorem ta_list_int (x : Value) (w : World) : (Instr.typeAssert (.iface 107 x) 42 70 true).run Tryz.prog w = .ok (.tuple #[.agg #[.int .i64 0], .bool false]) w := by kernel_rfl
theorem ta_list_text (x : Value) (w : World) : (Instr.typeAssert (.iface 107 x) 42 72 true).run Tryz.prog w = .ok (.tuple #[.agg #[.string ByteArray.empty], .bool false]) w := by kernel_rfl
theorem ta_list_map (x : Value) (w : World) : (Instr.typeAssert (.iface 107 x) 42 96 true).run Tryz.prog w = .ok (.tuple #[.agg #[.slice none 0 0, .slice none 0 0], .bool false]) w := by kernel_rfl
theorem ta_map_bool (x : Value) (w : World) : (Instr.typeAssert (.iface 96 x) 42 68 true).run Tryz.prog w = .ok (.tuple #[.agg #[.int .i64 0], .bool false]) w := by kernel_rfl
theorem ta_map_int (x : Value) (w : World) : (Instr.typeAssert (.iface 96 x) 42 70 true).run Tryz.prog w = .ok (.tuple #[.agg #[.int .i64 0], .bool false]) w := by kernel_rfl
theorem ta_map_text (x : Value) (w : World) : (Instr.typeAssert (.iface 96 x) 42 72 true).run Tryz.prog w = .ok (.tuple #[.agg #[.string ByteArray.empty], .bool false]) w := by kernel_rfl
theorem ta_map_map (x : Value) (w : World) : (Instr.typeAssert (.iface 96 x) 42 96 true).run Tryz.prog w = .ok (.tuple #[x, .bool true]) w := by kernel_rfl
end Go.Proofs.YtcidjhnogldgmaaGreatDoor

namespace Go.Proofs.YtcidjhnogldgmaaGreatDoor
open Go.RowKit
set_option linter.unusedSimpArgs false
set_option linter.unusedVariables false
theorem kind1_any (w : World) : Calls Tryz.prog 249 #[.agg #[]] w fun e w' => e = .returned (.int .i64 1) ∧ Below w.heap.size w w' := by
  go_enter Tryz.func249, Tryz.ntmps249
  go_wp2_with fail
  go_ret
  exact ⟨rfl, (Below.refl _ _).alloc (Nat.le_refl _) _⟩
theorem kind2_any (n : Int) (w : World) : Calls Tryz.prog 239 #[.agg #[.int .i64 n]] w fun e w' => e = .returned (.int .i64 2) ∧ Below w.heap.size w w' := by
  go_enter Tryz.func239, Tryz.ntmps239
  go_wp2_with fail
  go_ret
  exact ⟨rfl, (Below.refl _ _).alloc (Nat.le_refl _) _⟩
theorem kind3_any (n : Int) (w : World) : Calls Tryz.prog 241 #[.agg #[.int .i64 n]] w fun e w' => e = .returned (.int .i64 3) ∧ Below w.heap.size w w' := by
  go_enter Tryz.func241, Tryz.ntmps241
  go_wp2_with fail
  go_ret
  exact ⟨rfl, (Below.refl _ _).alloc (Nat.le_refl _) _⟩
theorem kind4_any (s : ByteArray) (w : World) : Calls Tryz.prog 243 #[.agg #[.string s]] w fun e w' => e = .returned (.int .i64 4) ∧ Below w.heap.size w w' := by
  go_enter Tryz.func243, Tryz.ntmps243
  go_wp2_with fail
  go_ret
  exact ⟨rfl, (Below.refl _ _).alloc (Nat.le_refl _) _⟩
theorem kind5_any (a : Option Addr) (n c : Nat) (w : World) : Calls Tryz.prog 247 #[.agg #[.slice a n c]] w fun e w' => e = .returned (.int .i64 5) ∧ Below w.heap.size w w' := by
  go_enter Tryz.func247, Tryz.ntmps247
  go_wp2_with fail
  go_ret
  exact ⟨rfl, (Below.refl _ _).alloc (Nat.le_refl _) _⟩
theorem kind6_any (a : Option Addr) (n c : Nat) (a' : Option Addr) (n' c' : Nat) (w : World) : Calls Tryz.prog 245 #[.agg #[.slice a n c, .slice a' n' c']] w fun e w' => e = .returned (.int .i64 6) ∧ Below w.heap.size w w' := by
  go_enter Tryz.func245, Tryz.ntmps245
  go_wp2_with fail
  go_ret
  exact ⟨rfl, (Below.refl _ _).alloc (Nat.le_refl _) _⟩
end Go.Proofs.YtcidjhnogldgmaaGreatDoor

namespace Go.Proofs.YtcidjhnogldgmaaGreatDoor
open Go.RowKit
set_option linter.unusedSimpArgs false
set_option linter.unusedVariables false
theorem news5 (w : World) (c0 c1 c2 c3 c4 : Value) : ∀ j u, [c0, c1, c2, c3, c4][j]? = some u → (w.alloc (.cells #[c0, c1, c2, c3, c4] 32)).cell? ((⟨w.heap.size, 0, none⟩ : Addr).add j) = some u :=
  World.news_of_block (cs := #[c0, c1, c2, c3, c4]) (heap_alloc_new w _)
theorem news5_at (w : World) (b : Nat) (c0 c1 c2 c3 c4 : Value) (hb : w.heap.size = b) : ∀ j u, [c0, c1, c2, c3, c4][j]? = some u → (w.alloc (.cells #[c0, c1, c2, c3, c4] 32)).cell? ((⟨b, 0, none⟩ : Addr).add j) = some u := by
  subst hb; exact news5 w c0 c1 c2 c3 c4
set_option maxRecDepth 100000 in
set_option maxHeartbeats 3200000 in
theorem withNodes_null (base : Nat) (v : Value) (ns : List VN) (KV IV : Nat → Value) (w : World) (h : Nest base w v ns KV IV) (hb : base ≤ w.heap.size) (hn : ns.length ≤ 100000) :
    Calls Tryz.prog 21 #[v, .iface 109 (.agg #[])] w fun e w' => ∃ v' KV' IV', e = .returned v' ∧ Laid base w w' v v' ns [{ kind := 1, n := 0, s := ByteArray.empty, keys := [], kids := [] }] KV IV KV' IV' := by
  have H := hideIt h
  obtain ⟨av, cv, rfl⟩ := own_slice h.row
  clear h
  have tabool := ta_null_bool
  have taint := ta_null_int
  have tatext := ta_null_text
  have tamap := ta_null_map
  obtain ⟨i0, hi0, hz0, hs0, hy0⟩ := info_parts infoNode
  go_enter Tryz.func21, Tryz.ntmps21
  go_wp2_with fail
  refine (kind1_any _).mono ?_
  rintro e w1 ⟨rfl, hb1⟩
  have HB1 := hideIt hb1
  go_wp2_with fail
  refine (parts1_any _).mono ?_
  rintro e w2 ⟨rfl, hb2⟩
  have HM := hideIt (Mid.start H.out hb HB1.out hb2)
  have z2 : w1.heap.size < w2.heap.size := by have := hb2.size; simp at this; omega
  clear hb1 hb2
  go_wp2_with fail
  have y0 : w2.cell? ⟨w1.heap.size, 0, none⟩ = some (.int .i64 1) := HM.out.node.cellAt 0 (by omega)
  have y1 : w2.cell? ⟨w1.heap.size, 1, none⟩ = some (.int .i64 0) := HM.out.node.cellAt 1 (by omega)
  have y2 : w2.cell? ⟨w1.heap.size, 2, none⟩ = some (.string ⟨#[]⟩) := HM.out.node.cellAt 2 (by omega)
  have y3 : w2.cell? ⟨w1.heap.size, 3, none⟩ = some (.slice none 0 0) := HM.out.node.cellAt 3 (by omega)
  have y4 : w2.cell? ⟨w1.heap.size, 4, none⟩ = some (.slice none 0 0) := HM.out.node.cellAt 4 (by omega)
  have HN := hideIt (HM.out.nest.row.alloc (.cells #[.int .i64 1, .int .i64 0, .string ⟨#[]⟩, .slice none 0 0, .slice none 0 0] 32))
  go_loopw [0, 18] (fun o i wr => o = .slice av ns.length cv ∧ i = .int .i64 0 ∧ wr = w2) (fun _ _ _ => 0)
  case atStart => exact ⟨rfl, rfl, rfl⟩
  case round =>
    obtain ⟨rfl, rfl, hw⟩ := hrel
    rw [hw]
    clear hw
    go_wp2_with (at_builtin; refine wpList_append_own_at _ rfl _ _ 24 rfl base 32 i0 zeroNode 5 80 Tryz.underlying24 hi0 hz0 hs0 hy0 rfl (by decide) _ _ _ rfl HN.out ⟨w2.heap.size, 0, none⟩ 1 1 [.int .i64 1, .int .i64 0, .string ⟨#[]⟩, .slice none 0 0, .slice none 0 0] rfl rfl ?c1 ?c2 ?c3 ?c4 ?c5 ?_)
    case c1 => exact news5 _ _ _ _ _ _
    case c2 => intro u hu; simp at hu; rcases hu with rfl | rfl | rfl | rfl <;> rfl
    case c3 => simp [maxLen]; omega
    case c4 => simp; omega
    case c5 => simp; have := HM.out.frame.size; omega
    intro v' w6 hown hgrow _ hat
    have HL := hideIt (Mid.fin (x := { kind := 1, n := 0, s := ⟨#[]⟩, keys := [], kids := [] }) HM.out rfl (World.ownsRow_nil _ _ _ _) (fun j _ y hy => by simp [Value.ownBlock] at hy) (by simpa using hown) hgrow hat)
    clear hown hgrow hat
    go_wp2_with fail
    go_ret
    exact ⟨_, _, _, rfl, HL.out⟩
set_option maxRecDepth 100000 in
set_option maxHeartbeats 3200000 in
theorem withNodes_bool (n : Int) (base : Nat) (v : Value) (ns : List VN) (KV IV : Nat → Value) (w : World) (h : Nest base w v ns KV IV) (hb : base ≤ w.heap.size) (hn : ns.length ≤ 100000) :
    Calls Tryz.prog 21 #[v, .iface 68 (.agg #[.int .i64 n])] w fun e w' => ∃ v' KV' IV', e = .returned v' ∧ Laid base w w' v v' ns [{ kind := 2, n := n, s := ByteArray.empty, keys := [], kids := [] }] KV IV KV' IV' := by
  have H := hideIt h
  obtain ⟨av, cv, rfl⟩ := own_slice h.row
  clear h
  have ta0 := ta_bool_bool
  obtain ⟨i0, hi0, hz0, hs0, hy0⟩ := info_parts infoNode
  go_enter Tryz.func21, Tryz.ntmps21
  go_wp2_with fail
  refine (kind2_any _ _).mono ?_
  rintro e w1 ⟨rfl, hb1⟩
  have HB1 := hideIt hb1
  go_wp2_with fail
  refine (parts2_any _ _).mono ?_
  rintro e w2 ⟨rfl, hb2⟩
  have HM := hideIt (Mid.start H.out hb HB1.out hb2)
  have z2 : w1.heap.size < w2.heap.size := by have := hb2.size; simp at this; omega
  clear hb1 hb2
  go_wp2_with fail
  have y0 : w2.cell? ⟨w1.heap.size, 0, none⟩ = some (.int .i64 2) := HM.out.node.cellAt 0 (by omega)
  have y1 : w2.cell? ⟨w1.heap.size, 1, none⟩ = some (.int .i64 0) := HM.out.node.cellAt 1 (by omega)
  have y2 : w2.cell? ⟨w1.heap.size, 2, none⟩ = some (.string ⟨#[]⟩) := HM.out.node.cellAt 2 (by omega)
  have y3 : w2.cell? ⟨w1.heap.size, 3, none⟩ = some (.slice none 0 0) := HM.out.node.cellAt 3 (by omega)
  have y4 : w2.cell? ⟨w1.heap.size, 4, none⟩ = some (.slice none 0 0) := HM.out.node.cellAt 4 (by omega)
  have f1 : w2.frozen? ⟨w1.heap.size, 1, none⟩ = false := HM.out.node.frozenAt 1
  have HM2 := hideIt ((HM.out.put 1 (.int .i64 n)).grow (World.grownBy_alloc _ (.cells #[.int .i64 n] 68) none))
  have x0 : ((w2.setCell ⟨w1.heap.size, 1, none⟩ (.int .i64 n)).alloc (.cells #[.int .i64 n] 68)).cell? ⟨w1.heap.size, 0, none⟩ = some (.int .i64 2) := HM2.out.node.cellAt 0 (by omega)
  have x1 : ((w2.setCell ⟨w1.heap.size, 1, none⟩ (.int .i64 n)).alloc (.cells #[.int .i64 n] 68)).cell? ⟨w1.heap.size, 1, none⟩ = some (.int .i64 n) := HM2.out.node.cellAt 1 (by omega)
  have x2 : ((w2.setCell ⟨w1.heap.size, 1, none⟩ (.int .i64 n)).alloc (.cells #[.int .i64 n] 68)).cell? ⟨w1.heap.size, 2, none⟩ = some (.string ⟨#[]⟩) := HM2.out.node.cellAt 2 (by omega)
  have x3 : ((w2.setCell ⟨w1.heap.size, 1, none⟩ (.int .i64 n)).alloc (.cells #[.int .i64 n] 68)).cell? ⟨w1.heap.size, 3, none⟩ = some (.slice none 0 0) := HM2.out.node.cellAt 3 (by omega)
  have x4 : ((w2.setCell ⟨w1.heap.size, 1, none⟩ (.int .i64 n)).alloc (.cells #[.int .i64 n] 68)).cell? ⟨w1.heap.size, 4, none⟩ = some (.slice none 0 0) := HM2.out.node.cellAt 4 (by omega)
  have HN := hideIt (HM2.out.nest.row.alloc (.cells #[.int .i64 2, .int .i64 n, .string ⟨#[]⟩, .slice none 0 0, .slice none 0 0] 32))
  have HZ := hideIt HM2.out.frame.size
  go_loopw [0, 18] (fun o i wr => o = .slice av ns.length cv ∧ i = .int .i64 0 ∧ wr = w2) (fun _ _ _ => 0)
  case atStart => exact ⟨rfl, rfl, rfl⟩
  case round =>
    obtain ⟨rfl, rfl, hw⟩ := hrel
    rw [hw]
    clear hw
    go_wp2_with (at_builtin; refine wpList_append_own_at _ rfl _ _ 24 rfl base 32 i0 zeroNode 5 80 Tryz.underlying24 hi0 hz0 hs0 hy0 rfl (by decide) _ _ _ rfl HN.out ⟨w2.heap.size + 1, 0, none⟩ 1 1 [.int .i64 2, .int .i64 n, .string ⟨#[]⟩, .slice none 0 0, .slice none 0 0] rfl rfl ?c1 ?c2 ?c3 ?c4 ?c5 ?_)
    case c1 => exact news5_at _ _ _ _ _ _ _ (by simp)
    case c2 => intro u hu; simp at hu; rcases hu with rfl | rfl | rfl | rfl | rfl <;> rfl
    case c3 => simp [maxLen]; omega
    case c4 => simp; omega
    case c5 => have := HZ.out; simp at this ⊢; omega
    intro v' w6 hown hgrow _ hat
    have HL := hideIt (Mid.fin (x := { kind := 2, n := n, s := ⟨#[]⟩, keys := [], kids := [] }) HM2.out rfl (World.ownsRow_nil _ _ _ _) (fun j _ y hy => by simp [Value.ownBlock] at hy) (by simpa using hown) hgrow (by simpa using hat))
    clear hown hgrow hat
    go_wp2_with fail
    go_ret
    exact ⟨_, _, _, rfl, HL.out⟩
set_option maxRecDepth 100000 in
set_option maxHeartbeats 3200000 in
theorem withNodes_int (n : Int) (base : Nat) (v : Value) (ns : List VN) (KV IV : Nat → Value) (w : World) (h : Nest base w v ns KV IV) (hb : base ≤ w.heap.size) (hn : ns.length ≤ 100000) :
    Calls Tryz.prog 21 #[v, .iface 70 (.agg #[.int .i64 n])] w fun e w' => ∃ v' KV' IV', e = .returned v' ∧ Laid base w w' v v' ns [{ kind := 3, n := n, s := ByteArray.empty, keys := [], kids := [] }] KV IV KV' IV' := by
  have H := hideIt h
  obtain ⟨av, cv, rfl⟩ := own_slice h.row
  clear h
  have ta0 := ta_int_bool
  have ta1 := ta_int_int
  obtain ⟨i0, hi0, hz0, hs0, hy0⟩ := info_parts infoNode
  go_enter Tryz.func21, Tryz.ntmps21
  go_wp2_with fail
  refine (kind3_any _ _).mono ?_
  rintro e w1 ⟨rfl, hb1⟩
  have HB1 := hideIt hb1
  go_wp2_with fail
  refine (parts3_any _ _).mono ?_
  rintro e w2 ⟨rfl, hb2⟩
  have HM := hideIt (Mid.start H.out hb HB1.out hb2)
  have z2 : w1.heap.size < w2.heap.size := by have := hb2.size; simp at this; omega
  clear hb1 hb2
  go_wp2_with fail
  have y0 : w2.cell? ⟨w1.heap.size, 0, none⟩ = some (.int .i64 3) := HM.out.node.cellAt 0 (by omega)
  have y1 : w2.cell? ⟨w1.heap.size, 1, none⟩ = some (.int .i64 0) := HM.out.node.cellAt 1 (by omega)
  have y2 : w2.cell? ⟨w1.heap.size, 2, none⟩ = some (.string ⟨#[]⟩) := HM.out.node.cellAt 2 (by omega)
  have y3 : w2.cell? ⟨w1.heap.size, 3, none⟩ = some (.slice none 0 0) := HM.out.node.cellAt 3 (by omega)
  have y4 : w2.cell? ⟨w1.heap.size, 4, none⟩ = some (.slice none 0 0) := HM.out.node.cellAt 4 (by omega)
  have f1 : w2.frozen? ⟨w1.heap.size, 1, none⟩ = false := HM.out.node.frozenAt 1
  have HM2 := hideIt ((HM.out.put 1 (.int .i64 n)).grow (World.grownBy_alloc _ (.cells #[.int .i64 n] 70) none))
  have x0 : ((w2.setCell ⟨w1.heap.size, 1, none⟩ (.int .i64 n)).alloc (.cells #[.int .i64 n] 70)).cell? ⟨w1.heap.size, 0, none⟩ = some (.int .i64 3) := HM2.out.node.cellAt 0 (by omega)
  have x1 : ((w2.setCell ⟨w1.heap.size, 1, none⟩ (.int .i64 n)).alloc (.cells #[.int .i64 n] 70)).cell? ⟨w1.heap.size, 1, none⟩ = some (.int .i64 n) := HM2.out.node.cellAt 1 (by omega)
  have x2 : ((w2.setCell ⟨w1.heap.size, 1, none⟩ (.int .i64 n)).alloc (.cells #[.int .i64 n] 70)).cell? ⟨w1.heap.size, 2, none⟩ = some (.string ⟨#[]⟩) := HM2.out.node.cellAt 2 (by omega)
  have x3 : ((w2.setCell ⟨w1.heap.size, 1, none⟩ (.int .i64 n)).alloc (.cells #[.int .i64 n] 70)).cell? ⟨w1.heap.size, 3, none⟩ = some (.slice none 0 0) := HM2.out.node.cellAt 3 (by omega)
  have x4 : ((w2.setCell ⟨w1.heap.size, 1, none⟩ (.int .i64 n)).alloc (.cells #[.int .i64 n] 70)).cell? ⟨w1.heap.size, 4, none⟩ = some (.slice none 0 0) := HM2.out.node.cellAt 4 (by omega)
  have HN := hideIt (HM2.out.nest.row.alloc (.cells #[.int .i64 3, .int .i64 n, .string ⟨#[]⟩, .slice none 0 0, .slice none 0 0] 32))
  have HZ := hideIt HM2.out.frame.size
  go_loopw [0, 18] (fun o i wr => o = .slice av ns.length cv ∧ i = .int .i64 0 ∧ wr = w2) (fun _ _ _ => 0)
  case atStart => exact ⟨rfl, rfl, rfl⟩
  case round =>
    obtain ⟨rfl, rfl, hw⟩ := hrel
    rw [hw]
    clear hw
    go_wp2_with (at_builtin; refine wpList_append_own_at _ rfl _ _ 24 rfl base 32 i0 zeroNode 5 80 Tryz.underlying24 hi0 hz0 hs0 hy0 rfl (by decide) _ _ _ rfl HN.out ⟨w2.heap.size + 1, 0, none⟩ 1 1 [.int .i64 3, .int .i64 n, .string ⟨#[]⟩, .slice none 0 0, .slice none 0 0] rfl rfl ?c1 ?c2 ?c3 ?c4 ?c5 ?_)
    case c1 => exact news5_at _ _ _ _ _ _ _ (by simp)
    case c2 => intro u hu; simp at hu; rcases hu with rfl | rfl | rfl | rfl | rfl <;> rfl
    case c3 => simp [maxLen]; omega
    case c4 => simp; omega
    case c5 => have := HZ.out; simp at this ⊢; omega
    intro v' w6 hown hgrow _ hat
    have HL := hideIt (Mid.fin (x := { kind := 3, n := n, s := ⟨#[]⟩, keys := [], kids := [] }) HM2.out rfl (World.ownsRow_nil _ _ _ _) (fun j _ y hy => by simp [Value.ownBlock] at hy) (by simpa using hown) hgrow (by simpa using hat))
    clear hown hgrow hat
    go_wp2_with fail
    go_ret
    exact ⟨_, _, _, rfl, HL.out⟩
set_option maxRecDepth 100000 in
set_option maxHeartbeats 3200000 in
theorem withNodes_text (s : ByteArray) (base : Nat) (v : Value) (ns : List VN) (KV IV : Nat → Value) (w : World) (h : Nest base w v ns KV IV) (hb : base ≤ w.heap.size) (hn : ns.length ≤ 100000) :
    Calls Tryz.prog 21 #[v, .iface 72 (.agg #[.string s])] w fun e w' => ∃ v' KV' IV', e = .returned v' ∧ Laid base w w' v v' ns [{ kind := 4, n := 0, s := s, keys := [], kids := [] }] KV IV KV' IV' := by
  have H := hideIt h
  obtain ⟨av, cv, rfl⟩ := own_slice h.row
  clear h
  have ta0 := ta_text_bool
  have ta1 := ta_text_int
  have ta2 := ta_text_text
  obtain ⟨i0, hi0, hz0, hs0, hy0⟩ := info_parts infoNode
  go_enter Tryz.func21, Tryz.ntmps21
  go_wp2_with fail
  refine (kind4_any _ _).mono ?_
  rintro e w1 ⟨rfl, hb1⟩
  have HB1 := hideIt hb1
  go_wp2_with fail
  refine (parts4_any _ _).mono ?_
  rintro e w2 ⟨rfl, hb2⟩
  have HM := hideIt (Mid.start H.out hb HB1.out hb2)
  have z2 : w1.heap.size < w2.heap.size := by have := hb2.size; simp at this; omega
  clear hb1 hb2
  go_wp2_with fail
  have y0 : w2.cell? ⟨w1.heap.size, 0, none⟩ = some (.int .i64 4) := HM.out.node.cellAt 0 (by omega)
  have y1 : w2.cell? ⟨w1.heap.size, 1, none⟩ = some (.int .i64 0) := HM.out.node.cellAt 1 (by omega)
  have y2 : w2.cell? ⟨w1.heap.size, 2, none⟩ = some (.string ⟨#[]⟩) := HM.out.node.cellAt 2 (by omega)
  have y3 : w2.cell? ⟨w1.heap.size, 3, none⟩ = some (.slice none 0 0) := HM.out.node.cellAt 3 (by omega)
  have y4 : w2.cell? ⟨w1.heap.size, 4, none⟩ = some (.slice none 0 0) := HM.out.node.cellAt 4 (by omega)
  have f2 : w2.frozen? ⟨w1.heap.size, 2, none⟩ = false := HM.out.node.frozenAt 2
  have HM2 := hideIt ((HM.out.put 2 (.string s)).grow (World.grownBy_alloc _ (.cells #[.string s] 72) none))
  have x0 : ((w2.setCell ⟨w1.heap.size, 2, none⟩ (.string s)).alloc (.cells #[.string s] 72)).cell? ⟨w1.heap.size, 0, none⟩ = some (.int .i64 4) := HM2.out.node.cellAt 0 (by omega)
  have x1 : ((w2.setCell ⟨w1.heap.size, 2, none⟩ (.string s)).alloc (.cells #[.string s] 72)).cell? ⟨w1.heap.size, 1, none⟩ = some (.int .i64 0) := HM2.out.node.cellAt 1 (by omega)
  have x2 : ((w2.setCell ⟨w1.heap.size, 2, none⟩ (.string s)).alloc (.cells #[.string s] 72)).cell? ⟨w1.heap.size, 2, none⟩ = some (.string s) := HM2.out.node.cellAt 2 (by omega)
  have x3 : ((w2.setCell ⟨w1.heap.size, 2, none⟩ (.string s)).alloc (.cells #[.string s] 72)).cell? ⟨w1.heap.size, 3, none⟩ = some (.slice none 0 0) := HM2.out.node.cellAt 3 (by omega)
  have x4 : ((w2.setCell ⟨w1.heap.size, 2, none⟩ (.string s)).alloc (.cells #[.string s] 72)).cell? ⟨w1.heap.size, 4, none⟩ = some (.slice none 0 0) := HM2.out.node.cellAt 4 (by omega)
  have HN := hideIt (HM2.out.nest.row.alloc (.cells #[.int .i64 4, .int .i64 0, .string s, .slice none 0 0, .slice none 0 0] 32))
  have HZ := hideIt HM2.out.frame.size
  go_loopw [0, 18] (fun o i wr => o = .slice av ns.length cv ∧ i = .int .i64 0 ∧ wr = w2) (fun _ _ _ => 0)
  case atStart => exact ⟨rfl, rfl, rfl⟩
  case round =>
    obtain ⟨rfl, rfl, hw⟩ := hrel
    rw [hw]
    clear hw
    go_wp2_with (at_builtin; refine wpList_append_own_at _ rfl _ _ 24 rfl base 32 i0 zeroNode 5 80 Tryz.underlying24 hi0 hz0 hs0 hy0 rfl (by decide) _ _ _ rfl HN.out ⟨w2.heap.size + 1, 0, none⟩ 1 1 [.int .i64 4, .int .i64 0, .string s, .slice none 0 0, .slice none 0 0] rfl rfl ?c1 ?c2 ?c3 ?c4 ?c5 ?_)
    case c1 => exact news5_at _ _ _ _ _ _ _ (by simp)
    case c2 => intro u hu; simp at hu; rcases hu with rfl | rfl | rfl | rfl | rfl <;> rfl
    case c3 => simp [maxLen]; omega
    case c4 => simp; omega
    case c5 => have := HZ.out; simp at this ⊢; omega
    intro v' w6 hown hgrow _ hat
    have HL := hideIt (Mid.fin (x := { kind := 4, n := 0, s := s, keys := [], kids := [] }) HM2.out rfl (World.ownsRow_nil _ _ _ _) (fun j _ y hy => by simp [Value.ownBlock] at hy) (by simpa using hown) hgrow (by simpa using hat))
    clear hown hgrow hat
    go_wp2_with fail
    go_ret
    exact ⟨_, _, _, rfl, HL.out⟩
end Go.Proofs.YtcidjhnogldgmaaGreatDoor

namespace Go.Proofs.YtcidjhnogldgmaaGreatDoor
open Go.RowKit
set_option linter.unusedSimpArgs false
set_option linter.unusedVariables false
end Go.Proofs.YtcidjhnogldgmaaGreatDoor

namespace Go.Proofs.YtcidjhnogldgmaaGreatDoor
open Go.RowKit
set_option linter.unusedSimpArgs false
set_option linter.unusedVariables false
structure KindIs (t : Nat) (x : Value) (F : FuncId) (k : Int) : Prop where
  meth : ∀ w, (Go.method 416 t x "loop.example/g00345/impl.kind").run Tryz.prog w = .ok (F, x) w
  enter : ∀ w, (callFunc F #[x]).run Tryz.prog w = .ok (.enter F #[x]) w
  says : ∀ w, Calls Tryz.prog F #[x] w fun e w' => e = .returned (.int .i64 k) ∧ Below w.heap.size w w'
end Go.Proofs.YtcidjhnogldgmaaGreatDoor

namespace Go.Proofs.YtcidjhnogldgmaaGreatDoor
open Go.RowKit
set_option linter.unusedSimpArgs false
set_option linter.unusedVariables false
theorem fold_cover {K : Nat → List Int} : ∀ (l : List Int) (b h : Nat) (q : Nat × Nat), l.foldl (stepKid (tr K)) (some (b, h)) = some q → h ≤ q.2 ∧ q.1 ≤ b ∧ ∀ m, q.1 ≤ m → m < b → ∃ k p, tr K k = some p ∧ p.1 ≤ m ∧ m ≤ k ∧ q.1 ≤ p.1 ∧ p.2 ≤ q.2 ∧ k < b := by
  intro l
  induction l with
  | nil => intro b h q e; simp at e; subst e; exact ⟨Nat.le_refl _, Nat.le_refl _, fun m h1 h2 => absurd h1 (by simp only; omega)⟩
  | cons k l ih =>
    intro b h q e
    obtain ⟨p, h1, h2, h3, h4⟩ := fold_cons_some e
    have hp := tr_le h3
    obtain ⟨i1, i2, i3⟩ := ih _ _ _ h4
    refine ⟨by omega, by omega, fun m hm1 hm2 => ?_⟩
    by_cases c : m < p.1
    · obtain ⟨k', p', a1, a2, a3, a4, a5, a6⟩ := i3 m hm1 c
      exact ⟨k', p', a1, a2, a3, a4, a5, by omega⟩
    · exact ⟨b - 1, p, h3, by omega, by omega, i2, by omega, by omega⟩
theorem tr_fold {K : Nat → List Int} {n : Nat} {p : Nat × Nat} (h : tr K n = some p) : ∃ q, (K n).reverse.foldl (stepKid (tr K)) (some (n, 0)) = some q ∧ p = (q.1, q.2 + 1) := by
  rw [tr_eq] at h
  cases e : (K n).reverse.foldl (stepKid (tr K)) (some (n, 0)) with
  | none => simp [e] at h
  | some q => simp [e] at h; exact ⟨q, rfl, h.symm⟩
theorem tr_sub {K : Nat → List Int} : ∀ (N n : Nat) (p : Nat × Nat), n < N → tr K n = some p → ∀ m, p.1 ≤ m → m ≤ n → ∃ r, tr K m = some r ∧ p.1 ≤ r.1 ∧ r.2 ≤ p.2 := by
  intro N
  induction N with
  | zero => intro n p h; omega
  | succ N ih =>
    intro n p hN h m h1 h2
    by_cases e : m = n
    · subst e; exact ⟨p, h, Nat.le_refl _, Nat.le_refl _⟩
    · obtain ⟨q, hq, rfl⟩ := tr_fold h
      obtain ⟨_, _, hc⟩ := fold_cover _ _ _ _ hq
      obtain ⟨k, r, a1, a2, a3, a4, a5, a6⟩ := hc m h1 (by omega)
      obtain ⟨r', b1, b2, b3⟩ := ih k r (by omega) a1 m a2 a3
      exact ⟨r', b1, by simp only at *; omega, by simp only at *; omega⟩
theorem fold_shift {T T' : Nat → Option (Nat × Nat)} {a N : Nat} (hT : ∀ m p, T m = some p → p.1 ≤ m) (he : ∀ m p, a ≤ m → m < N → T m = some p → a ≤ p.1 → T' (m - a) = some (p.1 - a, p.2)) : ∀ (l : List Int) (b h : Nat) (q : Nat × Nat), b ≤ N → l.foldl (stepKid T) (some (b, h)) = some q → a ≤ q.1 → (l.map (· + -(a : Int))).foldl (stepKid T') (some (b - a, h)) = some (q.1 - a, q.2) := by
  intro l
  induction l with
  | nil => intro b h q _ e _; simp at e; subst e; rfl
  | cons k l ih =>
    intro b h q hb e hq
    obtain ⟨p, h1, h2, h3, h4⟩ := fold_cons_some e
    have hp := hT _ _ h3
    have hl := fold_le hT _ _ _ _ h4
    have ht := he (b - 1) p (by omega) (by omega) h3 (by omega)
    rw [List.map_cons, List.foldl_cons]
    have hs : stepKid T' (some (b - a, h)) (k + -(a : Int)) = some (p.1 - a, max h p.2) := by
      simp only [stepKid]
      rw [if_pos ⟨by omega, by omega⟩, show b - a - 1 = b - 1 - a by omega, ht]
      rfl
    rw [hs]
    exact ih _ _ _ (by omega) h4 hq
theorem run_nodeAt {vs : List VN} {d : Int} {a n i : Nat} (h : i < n) : nodeAt (run vs d a n) i = shiftN d (nodeAt vs (a + i)) := by
  unfold run
  unfold nodeAt
  simp [h]
theorem nodeB_shift (d : Int) (x : VN) : nodeB (shiftN d x) = nodeB x := by
  unfold nodeB unnamedB namedB shiftN
  simp
theorem tr_shift {vs : List VN} {q a h : Nat} (ht : tr (kidsOf vs) q = some (a, h)) : ∀ (N i : Nat), i < N → a + i ≤ q → ∀ p, tr (kidsOf vs) (a + i) = some p → tr (kidsOf (run vs (-(a : Int)) a (q + 1 - a))) i = some (p.1 - a, p.2) := by
  intro N
  induction N with
  | zero => intro i h; omega
  | succ N ih =>
    intro i hN hi p hp
    have hap := tr_le ht
    simp only at hap
    obtain ⟨r, hr, h1, _⟩ := tr_sub _ _ _ (Nat.lt_succ_self _) ht (a + i) (by simp only; omega) hi
    rw [hp] at hr
    simp only [Option.some.injEq] at hr
    subst hr
    obtain ⟨w, hw, rfl⟩ := tr_fold hp
    have hk : kidsOf (run vs (-(a : Int)) a (q + 1 - a)) i = (kidsOf vs (a + i)).map (· + -(a : Int)) := by
      unfold kidsOf
      rw [run_nodeAt (by omega)]
      rfl
    rw [tr_eq, hk, ← List.map_reverse]
    have := fold_shift (T := tr (kidsOf vs)) (T' := tr (kidsOf (run vs (-(a : Int)) a (q + 1 - a)))) (a := a) (N := a + i) (fun m p h => tr_le h)
      (fun m p h1 h2 h3 h4 => by
        have := ih (m - a) (by omega) (by omega) p (by rw [show a + (m - a) = m by omega]; exact h3)
        exact this) _ _ _ _ (Nat.le_refl _) hw h1
    rw [show a + i - a = i by omega] at this
    rw [this]
    rfl
theorem part_okB {vs : List VN} (hok : okB vs = true) {m : Nat} (hm : m < vs.length) : okB (partOf vs m) = true := by
  obtain ⟨p1, p2, p3, p4⟩ := okB_parts hok
  obtain ⟨⟨a0, h0⟩, htr⟩ := p3 m hm
  have e : partOf vs m = run vs (-(a0 : Int)) a0 (m + 1 - a0) := by rw [partOf, htr]; simp [trF]
  have ha := tr_le htr
  simp only at ha
  have hroot : ∃ h, tr (kidsOf vs) (vs.length - 1) = some (0, h) ∧ h ≤ 8 := by
    unfold okB rootB at hok
    simp only [Bool.and_eq_true] at hok
    have h := hok.2
    cases e : tr (kidsOf vs) (vs.length - 1) with
    | none => simp [e] at h
    | some p => obtain ⟨a, b⟩ := p; simp [e] at h; obtain ⟨rfl, h8⟩ := h; exact ⟨b, rfl, h8⟩
  obtain ⟨hr, hr1, hr2⟩ := hroot
  obtain ⟨r, hr3, _, hr5⟩ := tr_sub _ _ _ (Nat.lt_succ_self _) hr1 m (Nat.zero_le _) (by omega)
  rw [htr] at hr3
  simp only [Option.some.injEq] at hr3
  subst hr3
  simp only at hr5
  have hlen : (partOf vs m).length = m + 1 - a0 := by rw [e, run_length]
  rw [← okB_eq]
  unfold tabB
  rw [hlen]
  have s1 : sizeB (partOf vs m) = true := by unfold sizeB; rw [hlen]; simp; omega
  have s2 : ((List.range (m + 1 - a0)).all fun i => nodeB (nodeAt (partOf vs m) i)) = true := by
    rw [List.all_eq_true]
    intro i hi
    have hi' := List.mem_range.1 hi
    rw [e, run_nodeAt hi', nodeB_shift]
    exact (p2 (a0 + i) (by omega)).1
  have s3 : ((List.range (m + 1 - a0)).all fun i => (tr (kidsOf (partOf vs m)) i).isSome) = true := by
    rw [List.all_eq_true]
    intro i hi
    have hi' := List.mem_range.1 hi
    obtain ⟨p, hp⟩ := p3 (a0 + i) (by omega)
    rw [e, tr_shift htr (i + 1) i (by omega) (by omega) p hp]
    rfl
  have s4 : rootB (partOf vs m) = true := by
    unfold rootB
    rw [hlen, e, tr_shift htr (m + 1) (m + 1 - a0 - 1) (by omega) (by omega) (a0, h0) (by rw [show a0 + (m + 1 - a0 - 1) = m by omega]; exact htr)]
    simp
    omega
  rw [s1, s2, s3, s4]
  rfl
end Go.Proofs.YtcidjhnogldgmaaGreatDoor

namespace Go.Proofs.YtcidjhnogldgmaaGreatDoor
open Go.RowKit
set_option linter.unusedSimpArgs false
set_option linter.unusedVariables false
theorem take_node {vs : List VN} {k : Nat} (h : k < vs.length) : vs.take (k + 1) = vs.take k ++ [nodeAt vs k] := by
  rw [List.take_add_one, List.getElem?_eq_getElem h]
  simp [nodeAt, h]
def addKs (l : List Int) (d : Int) (k : Nat) : List Int := (l.take k).map (· + d)
theorem addKs_zero (l : List Int) (d : Int) : addKs l d 0 = [] := by simp [addKs]
theorem addKs_len {l : List Int} {d : Int} {k : Nat} (h : k ≤ l.length) : (addKs l d k).length = k := by unfold addKs; rw [List.length_map, List.length_take]; omega
theorem addKs_succ {l : List Int} {d : Int} {k : Nat} (h : k < l.length) : addKs l d (k + 1) = addKs l d k ++ [intAt l k + d] := by
  unfold addKs
  rw [List.take_add_one, List.getElem?_eq_getElem h, List.map_append, intAt_get h]
  simp
theorem addKs_all (l : List Int) (d : Int) : addKs l d l.length = l.map (· + d) := by simp [addKs]
def Near (x : VN) : Prop := x.keys.length ≤ 100000 ∧ x.kids.length ≤ 100000 ∧ ∀ j, j < x.kids.length → -1000000 ≤ intAt x.kids j ∧ intAt x.kids j ≤ 1000000
theorem news5_of (w : World) (b : Nat) (c0 c1 c2 c3 c4 : Value) (hb : w.heap.size = b) : ∀ j u, [c0, c1, c2, c3, c4][j]? = some u → (w.alloc (.cells #[c0, c1, c2, c3, c4] 32)).cell? ((⟨b, 0, none⟩ : Addr).add j) = some u := by
  subst hb; exact World.news_of_block (cs := #[c0, c1, c2, c3, c4]) (heap_alloc_new w _)
set_option maxRecDepth 100000 in
set_option maxHeartbeats 6400000 in
theorem l1Add_any (B base : Nat) (v u : Value) (ns vs : List VN) (KV IV : Nat → Value) (w : World) (h : Nest base w v ns KV IV) (hu : NodesAt B w u vs) (hB : B ≤ base) (hb : base ≤ w.heap.size) (hn : ns.length + vs.length ≤ 100000) (hnear : ∀ i, i < vs.length → Near (nodeAt vs i)) :
    Calls Tryz.prog 63 #[v, u] w fun e w' => ∃ v' KV' IV', e = .returned v' ∧ Laid base w w' v v' ns (vs.map (shiftN (ns.length : Int))) KV IV KV' IV' := by
  have H := hideIt h
  have HU := hideIt hu
  have HNR := hideIt hnear
  have HV0 := hideIt (fun y hy => (h.row.lt y hy).1)
  obtain ⟨av, cv, rfl⟩ := own_slice h.row
  obtain ⟨hlen, au, cu, rfl, hcu⟩ := hu
  have HCU := hideIt hcu
  clear h hnear hcu
  obtain ⟨i0, hi0, hz0, hs0, hy0⟩ := info_parts infoNode
  obtain ⟨i1, hi1, hz1, hs1, hy1⟩ := info_parts infoStr
  obtain ⟨i2, hi2, hz2, hs2, hy2⟩ := info_parts infoInt
  obtain ⟨D, hD⟩ : ∃ D, ns.length = D := ⟨_, rfl⟩
  have HD := hideIt hD
  rw [hD] at hn ⊢
  clear hD
  go_enter Tryz.func63, Tryz.ntmps63
  go_wp2_with fail
  go_loopw [0, 6] (fun o i wr => ∃ (c : Nat) (KV' IV' : Nat → Value), c ≤ vs.length ∧ i = .int .i64 c ∧ Laid base w wr (.slice av D cv) o ns ((vs.take c).map (shiftN (D : Int))) KV IV KV' IV') (fun _ i _ => vs.length - (intOf i).toNat)
  case atStart => exact ⟨0, KV, IV, Nat.zero_le _, rfl, by have := Laid.refl H.out; rw [HD.out] at this; simpa using this⟩
  case round =>
    obtain ⟨c, KV', IV', hc, rfl, hlaid⟩ := hrel
    have HLD := hideIt hlaid
    have hbl : Below B w wr := hlaid.below (by have := HV0.out; rw [HD.out] at this; exact this) hB hb
    have zs := hbl.size
    obtain ⟨ao, co, eo⟩ := own_slice hlaid.1.row
    obtain ⟨M, hM⟩ : ∃ M, (ns ++ (vs.take c).map (shiftN (D : Int))).length = M := ⟨_, rfl⟩
    have HMM := hideIt hM
    have HM1 : Hid (M = D + c) := by rw [Hid]; rw [← hM, List.length_append, HD.out, List.length_map, List.length_take]; omega
    rw [hM] at eo
    subst eo
    clear hlaid hM
    by_cases hlt : c < vs.length
    · have hM2 : M + 1 ≤ 100000 := by have := HM1.out; omega
      obtain ⟨b0, o0, rfl, hb0, hcell⟩ := HCU.out (by omega)
      obtain ⟨ka, ki, hn1⟩ := hcell c hlt
      have hn2 := hn1.below hbl hb0
      have c0 := hn2.c0
      have c1 := hn2.c1
      have c2 := hn2.c2
      have c3 := hn2.c3
      have c4 := hn2.c4
      obtain ⟨_, _, aK, cK, eK, hkk⟩ := hn2.inn.keys
      obtain ⟨_, hkb, aI, cI, eI, hki⟩ := hn2.inn.kids
      subst eK eI
      have HKK := hideIt hkk
      have HKI := hideIt hki
      have near := HNR.out c hlt
      have HNE := hideIt near.2.2
      have hk1 := near.1
      have hk2 := near.2.1
      clear hn1 hn2 hkk hki hcell near
      obtain ⟨nK, hnK⟩ : ∃ nK, (nodeAt vs c).keys.length = nK := ⟨_, rfl⟩
      obtain ⟨nI, hnI⟩ : ∃ nI, (nodeAt vs c).kids.length = nI := ⟨_, rfl⟩
      have HNK := hideIt hnK
      have HNI := hideIt hnI
      rw [hnK] at c3 hk1
      rw [hnI] at c4 hk2
      clear hnK hnI
      obtain ⟨W1, hW1⟩ : ∃ W1, wr.alloc (.cells #[.int .i64 (nodeAt vs c).kind, .int .i64 (nodeAt vs c).n, .string (nodeAt vs c).s, .slice aK nK cK, .slice aI nI cI] 32) = W1 := ⟨_, rfl⟩
      have hm0 := Mid.start (c0 := .int .i64 (nodeAt vs c).kind) (c1 := .int .i64 (nodeAt vs c).n) (c2 := .string (nodeAt vs c).s) (c3 := .slice aK nK cK) (c4 := .slice aI nI cI) HLD.out.1 (by omega) (Below.refl _ wr) (Below.refl _ _)
      rw [hW1] at hm0
      have HM0 := hideIt hm0
      have z1 : W1.heap.size = wr.heap.size + 1 := by rw [← hW1]; simp
      have HBW : Hid (Below wr.heap.size wr W1) := by rw [Hid, ← hW1]; exact (Below.refl _ _).alloc (Nat.le_refl _) _
      have HSRC : Hid (0 < nK → ∃ ad, aK = some ad ∧ ∀ j u, ((nodeAt vs c).keys.map Value.string)[j]? = some u → (W1.alloc (.cells #[] 9)).cell? (ad.add j) = some u) := by
        intro hp
        obtain ⟨bk, ok, rfl, hbk, hck⟩ := HKK.out (by rw [HNK.out]; exact hp)
        refine ⟨_, rfl, fun j u hj => ?_⟩
        have hj' : j < (nodeAt vs c).keys.length := by have := (List.getElem?_eq_some_iff.1 hj).1; simpa using this
        rw [show (⟨bk, ok, none⟩ : Addr).add j = ⟨bk, ok + j, none⟩ by simp [Addr.add], below_cell ((Below.refl _ W1).alloc (Nat.le_refl _) _) (by omega), below_cell HBW.out (by omega), hck j hj']
        simp [hj', keyAt] at hj ⊢
        exact hj
      have HOWN : Hid ((W1.alloc (.cells #[] 9)).ownsRow wr.heap.size 9 1 (.slice (some ⟨wr.heap.size + 1, 0, none⟩) 0 0) 0 []) := by
        have := World.ownsRow_lit (base := wr.heap.size) (e := 9) (size := 1) W1 #[] 0 (by omega) (by simp [maxLen]) rfl
        rw [z1] at this
        exact this
      have y3 : W1.cell? ⟨wr.heap.size, 3, none⟩ = some (.slice aK nK cK) := HM0.out.node.cellAt 3 (by omega)
      go_wp2_with (at_builtin; refine wpList_append_src rfl _ _ 29 rfl wr.heap.size 9 i1 (.string ByteArray.empty) 1 16 Tryz.underlying29 hi1 hz1 hs1 hy1 rfl (by decide) _ 0 [] rfl HOWN.out aK nK cK ((nodeAt vs c).keys.map .string) rfl (by simp [HNK.out]) HSRC.out ?c2 ?c3 ?c4 ?c5 ?_)
      case c2 => intro u hu; first | rfl | (obtain ⟨q, _, rfl⟩ := List.mem_map.1 hu; rfl)
      case c3 => unfold maxLen; omega
      case c4 => omega
      case c5 => first | omega | (simp; omega)
      intro vk w5 hk2 hg2 hat2
      (try simp only [Nat.zero_add, List.nil_append] at hk2)
      have hgg : W1.grownBy w5 none := (World.grownBy_alloc W1 _ none).andThen hg2 (fun j hj => Or.inl (by simp [Value.ownBlock] at hj; omega))
      have hm5 := HM0.out.grow hgg
      have HFK : Hid (∀ j, j < (ns ++ (vs.take c).map (shiftN (D : Int))).length + ([] : List VN).length → ∀ y, vk.ownBlock = some y → (KV' j).ownBlock ≠ some y) := by
        intro j hj y hy e
        have h1 := ((HLD.out.1.rk j (by simpa using hj)).lt y e).2
        have h2 := (hk2.lt y hy).1
        omega
      have hkr := hk2.kept (hm5.node.stored 3 vk).2 (own_apart hk2 hm5.node (by decide))
      obtain ⟨ak, ck, hvk⟩ := own_slice hk2
      subst hvk
      have hm7 := (hm5.put 3 (.slice ak nK ck)).kid0
      have hkr7 := hkr.alloc (.cells #[] 2)
      have x3 : w5.cell? ⟨wr.heap.size, 3, none⟩ = some (.slice aK nK cK) := hm5.node.cellAt 3 (by omega)
      have f3 : w5.frozen? ⟨wr.heap.size, 3, none⟩ = false := hm5.node.frozenAt 3
      have e5 : (w5.setCell ⟨wr.heap.size, 3, none⟩ (.slice ak nK ck)).heap.size = w5.heap.size := by simp
      rw [e5] at hm7
      have HM7 := hideIt hm7
      have HKR7 := hideIt hkr7
      clear hm7 hkr7 hkr hm5 hgg hk2 hg2 hat2 y3 e5 c0 c1 c2 c3 c4
      go_wp2_with fail
      generalize ((w5.setCell ⟨wr.heap.size, 3, none⟩ (.slice ak nK ck)).alloc (.cells #[] 2)) = W7 at *
      clear x3 f3 HSRC HOWN HM0 HBW z1 hW1 hm0
      obtain ⟨W0, rfl⟩ : ∃ W0, W0 = wr := ⟨_, rfl⟩
      go_loopw [8, 9] (fun it i wr => ∃ k : Nat, k ≤ nI ∧ i = .int .i64 k ∧ Mid base W0 wr W0.heap.size (.slice ao M co) (.slice ao M co) it (ns ++ (vs.take c).map (shiftN (D : Int))) [] (addKs (nodeAt vs c).kids (D : Int) k) [.int .i64 (nodeAt vs c).kind, .int .i64 (nodeAt vs c).n, .string (nodeAt vs c).s, .slice ak nK ck, .slice aI nI cI] KV' IV' KV' IV' ∧ wr.ownsRow W0.heap.size 9 1 (.slice ak nK ck) nK ((nodeAt vs c).keys.map .string)) (fun _ i _ => nI - (intOf i).toNat)
      case atStart => exact ⟨0, Nat.zero_le _, rfl, by rw [addKs_zero]; exact HM7.out, HKR7.out⟩
      case round =>
        obtain ⟨k, hk, rfl, hm, hkr⟩ := hrel
        have HM := hideIt hm
        have HKR := hideIt hkr
        have hfs := hm.frame.size
        have hlen2 : (addKs (nodeAt vs c).kids (D : Int) k).length = k := addKs_len (by rw [HNI.out]; exact hk)
        obtain ⟨ai, ci, ei⟩ := own_slice hm.kids
        rw [hlen2] at ei
        subst ei
        have HLK := hideIt hlen2
        have y4 : wr.cell? ⟨W0.heap.size, 4, none⟩ = some (.slice aI nI cI) := HM.out.node.cellAt 4 (by omega)
        clear hm hkr hlen2
        by_cases hkk : k < nI
        · obtain ⟨bk, ok, rfl, hbk, hck⟩ := HKI.out (by rw [HNI.out]; omega)
          obtain ⟨Q, hQ⟩ : ∃ Q, intAt (nodeAt vs c).kids k = Q := ⟨_, rfl⟩
          have hcq : wr.cell? ⟨bk, ok + k, none⟩ = some (.int .i64 Q) := by rw [← hQ]; exact (below_cell (HM.out.keepL hB) hbk).trans (hck k (by rw [HNI.out]; exact hkk))
          have hQb := HNE.out k (by rw [HNI.out]; exact hkk)
          rw [hQ] at hQb
          obtain ⟨hQ1, hQ2⟩ := hQb
          have HTK : Hid (addKs (nodeAt vs c).kids (D : Int) (k + 1) = addKs (nodeAt vs c).kids (D : Int) k ++ [Q + (D : Int)]) := by rw [Hid, addKs_succ (by rw [HNI.out]; exact hkk), hQ]
          have HKD := hideIt HM.out.kids
          clear hQ hck
          go_wp2_with (at_builtin; refine wpList_append_own_at _ rfl _ _ 30 rfl W0.heap.size 2 i2 (.int .i64 0) 1 8 Tryz.underlying30 hi2 hz2 hs2 hy2 rfl (by decide) _ _ _ rfl (HKD.out.alloc _) ⟨wr.heap.size, 0, none⟩ 1 1 [.int .i64 (Q + (D : Int))] rfl rfl ?c1 ?c2 ?c3 ?c4 ?c5 ?_)
          case c1 => exact cell_one_new _ _ _
          case c2 => first | rfl | (intro u hu; simp at hu; subst hu; rfl)
          case c3 => first | omega | (rw [HLK.out]; unfold maxLen; omega)
          case c4 => first | omega | (rw [HLK.out]; omega)
          case c5 => first | omega | (simp; omega)
          intro kv' w9 hown hgrow _ hat
          have HM9 := hideIt (HM.out.kid1 hown hgrow (by simpa using hat))
          have HKR9 := hideIt (HKR.out.kept ((World.grownBy_alloc wr _ _).trans hgrow) (own_apart HKR.out HKD.out (by decide)))
          clear hown hgrow hat
          go_wp2_with fail
          go_roundw
          case rel => exact ⟨k + 1, by omega, by go_num, by rw [HTK.out]; exact HM9.out, HKR9.out⟩
          case measure => simp [intOf]; omega
        · obtain rfl : k = nI := by omega
          have HMP := hideIt (HM.out.put 4 (.slice ai k ci))
          have f4 : wr.frozen? ⟨W0.heap.size, 4, none⟩ = false := HM.out.node.frozenAt 4
          have HKRP := hideIt (HKR.out.kept (HM.out.node.stored 4 (.slice ai k ci)).2 (own_apart HKR.out HM.out.node (by decide)))
          have X0 : (wr.setCell ⟨W0.heap.size, 4, none⟩ (.slice ai k ci)).cell? ⟨W0.heap.size, 0, none⟩ = some (.int .i64 (nodeAt vs c).kind) := HMP.out.node.cellAt 0 (by omega)
          have X1 : (wr.setCell ⟨W0.heap.size, 4, none⟩ (.slice ai k ci)).cell? ⟨W0.heap.size, 1, none⟩ = some (.int .i64 (nodeAt vs c).n) := HMP.out.node.cellAt 1 (by omega)
          have X2 : (wr.setCell ⟨W0.heap.size, 4, none⟩ (.slice ai k ci)).cell? ⟨W0.heap.size, 2, none⟩ = some (.string (nodeAt vs c).s) := HMP.out.node.cellAt 2 (by omega)
          have X3 : (wr.setCell ⟨W0.heap.size, 4, none⟩ (.slice ai k ci)).cell? ⟨W0.heap.size, 3, none⟩ = some (.slice ak nK ck) := HMP.out.node.cellAt 3 (by omega)
          have X4 : (wr.setCell ⟨W0.heap.size, 4, none⟩ (.slice ai k ci)).cell? ⟨W0.heap.size, 4, none⟩ = some (.slice ai k ci) := HMP.out.node.cellAt 4 (by omega)
          have HN := hideIt (HMP.out.nest.row.alloc (.cells #[.int .i64 (nodeAt vs c).kind, .int .i64 (nodeAt vs c).n, .string (nodeAt vs c).s, .slice ak nK ck, .slice ai k ci] 32))
          rw [List.append_nil, HMM.out] at HN
          go_wp2_with (at_builtin; refine wpList_append_own_at _ rfl _ _ 24 rfl base 32 i0 zeroNode 5 80 Tryz.underlying24 hi0 hz0 hs0 hy0 rfl (by decide) _ _ _ rfl HN.out ⟨wr.heap.size, 0, none⟩ 1 1 [.int .i64 (nodeAt vs c).kind, .int .i64 (nodeAt vs c).n, .string (nodeAt vs c).s, .slice ak nK ck, .slice ai k ci] rfl rfl ?c1 ?c2 ?c3 ?c4 ?c5 ?_)
          case c1 => exact news5_of _ _ _ _ _ _ _ (by simp)
          case c2 => intro u hu; simp at hu; rcases hu with rfl | rfl | rfl | rfl | rfl <;> rfl
          case c3 => unfold maxLen; omega
          case c4 => omega
          case c5 => simp; omega
          intro v' w6 hown hgrow _ hat
          have hfin := Mid.fin (x := shiftN (D : Int) (nodeAt vs c)) HMP.out (by show (nodeAt vs c).kids.map (· + (D : Int)) = _; rw [← HNI.out, addKs_all]) (by show World.ownsRow _ _ _ _ _ (nodeAt vs c).keys.length _; rw [HNK.out]; exact HKRP.out) HFK.out (by rw [List.append_nil, HMM.out, List.map_take]; exact hown) hgrow (by simpa using hat)
          have HL := hideIt (HLD.out.trans hfin)
          have HTN : Hid ((vs.take (c + 1)).map (shiftN (D : Int)) = (vs.take c).map (shiftN (D : Int)) ++ [shiftN (D : Int) (nodeAt vs c)]) := by rw [Hid, take_node hlt, List.map_append]; rfl
          clear hown hgrow hat hfin
          go_wp2_with fail
          go_roundw
          case rel => exact ⟨c + 1, _, _, by omega, by go_num, by rw [HTN.out]; exact HL.out⟩
          case measure => simp [intOf]; omega
    · obtain rfl : c = vs.length := by omega
      go_wp2_with fail
      go_ret
      exact ⟨_, _, _, rfl, by have := HLD.out; rwa [List.take_length] at this⟩
end Go.Proofs.YtcidjhnogldgmaaGreatDoor

namespace Go.Proofs.YtcidjhnogldgmaaGreatDoor
open Go.RowKit
set_option linter.unusedSimpArgs false
set_option linter.unusedVariables false
def catNs (L : Nat → List VN) : Nat → List VN
  | 0 => []
  | i + 1 => catNs L i ++ (L i).map (shiftN ((catNs L i).length : Int))
def catKs (L : Nat → List VN) : Nat → List Int
  | 0 => []
  | i + 1 => catKs L i ++ [((catNs L (i + 1)).length : Int) - 1]
def makeNs (kind : Int) (keys : List ByteArray) (L : Nat → List VN) (m : Nat) : List VN := catNs L m ++ [{ kind := kind, n := 0, s := ByteArray.empty, keys := keys, kids := catKs L m }]
theorem catKs_len (L : Nat → List VN) : ∀ i, (catKs L i).length = i := by
  intro i
  induction i with
  | zero => rfl
  | succ i ih => simp [catKs, ih]
theorem catNs_len (L : Nat → List VN) (i : Nat) : (catNs L (i + 1)).length = (catNs L i).length + (L i).length := by simp [catNs]
theorem catNs_mono (L : Nat → List VN) {i j : Nat} (h : i ≤ j) : (catNs L i).length ≤ (catNs L j).length := by
  induction j with
  | zero => obtain rfl : i = 0 := by omega
            exact Nat.le_refl _
  | succ j ih =>
    rcases Nat.lt_or_ge i (j + 1) with e | e
    · have := ih (by omega)
      rw [catNs_len]
      omega
    · obtain rfl : i = j + 1 := by omega
      exact Nat.le_refl _
structure Duo (base : Nat) (w wr : World) (v kv : Value) (ns : List VN) (ks : List Int) (KV IV : Nat → Value) : Prop where
  nest : Nest base wr v ns KV IV
  kids : wr.ownsRow base 2 1 kv ks.length (ks.map (.int .i64))
  ki : ∀ j, j < ns.length → ∀ y, kv.ownBlock = some y → (IV j).ownBlock ≠ some y
  frame : Below base w wr
theorem Duo.laid {base : Nat} {w wr w' : World} {v v' kv : Value} {ns add : List VN} {ks : List Int} {KV IV KV' IV' : Nat → Value} (h : Duo base w wr v kv ns ks KV IV) (l : Laid base wr w' v v' ns add KV IV KV' IV') (hb : base ≤ wr.heap.size) : Duo base w w' v' kv (ns ++ add) ks KV' IV' := by
  refine ⟨l.1, h.kids.kept l.2.1 (own_apart h.kids h.nest.row (by decide)), fun j hj y hy => ?_, h.frame.grown l.2.1 hb (fun k hk => (h.nest.row.lt k hk).1)⟩
  by_cases e : j < ns.length
  · rw [(l.2.2.2.1 j e).2]; exact h.ki j e y hy
  · intro e2
    have := (l.2.2.2.2 j (by omega) (by simpa using hj)).2 y e2
    have := (h.kids.lt y hy).2
    omega
theorem Duo.kid {base : Nat} {w wr w5 : World} {v kv kv' : Value} {ns : List VN} {ks : List Int} {KV IV : Nat → Value} {o : Obj} {q : Int} (h : Duo base w wr v kv ns ks KV IV) (hb : base ≤ wr.heap.size)
    (hown : w5.ownsRow base 2 1 kv' (ks.length + 1) (ks.map (.int .i64) ++ [.int .i64 q])) (hg : (wr.alloc o).grownBy w5 kv.ownBlock) (hat : kv'.ownBlock = kv.ownBlock ∨ kv'.ownBlock = some (wr.heap.size + 1)) :
    Duo base w w5 v kv' ns (ks ++ [q]) KV IV := by
  have hg1 : wr.grownBy w5 kv.ownBlock := (World.grownBy_alloc wr o _).trans hg
  have hkk : ∀ i, i < ns.length → (IV i).ownBlock = none ∨ (IV i).ownBlock ≠ kv.ownBlock := by
    intro i hi
    cases e : kv.ownBlock with
    | none => cases e2 : (IV i).ownBlock with
      | none => exact Or.inl rfl
      | some y => exact Or.inr (by simp)
    | some y => exact Or.inr (h.ki i hi y e)
  refine ⟨h.nest.kept hg1 (own_apart h.nest.row h.kids (by decide)) (fun i hi => own_apart (h.nest.rk i hi) h.kids (by decide)) hkk, by simpa using hown, fun j hj y hy => ?_, h.frame.grown hg1 hb (fun k hk => (h.kids.lt k hk).1)⟩
  rcases hat with e | e
  · exact h.ki j hj y (e ▸ hy)
  · rw [e] at hy
    simp at hy
    intro e2
    have := ((h.nest.ri j hj).lt y e2).2
    omega
set_option maxRecDepth 100000 in
set_option maxHeartbeats 3200000 in
theorem l1Make_any (B : Nat) (kind : Int) (kv0 u : Value) (keys : List ByteArray) (m : Nat) (L : Nat → List VN) (w : World) (hks : StrsAt B w kv0 keys) (hu : RowsAt B w u m L) (hB : B ≤ w.heap.size) (hm : m ≤ 100000) (hkn : keys.length ≤ 100000) (hn : (catNs L m).length + 1 ≤ 100000) (hnear : ∀ i, i < m → 0 < (L i).length ∧ ∀ j, j < (L i).length → Near (nodeAt (L i) j)) :
    Calls Tryz.prog 45 #[.int .i64 kind, kv0, u] w fun e w' => ∃ r KV IV, e = .returned r ∧ Nest w.heap.size w' r (makeNs kind keys L m) KV IV ∧ Below w.heap.size w w' := by
  have HU := hideIt hu
  have HKS := hideIt hks
  have HNR := hideIt hnear
  obtain ⟨_, au, cu, rfl, hcu⟩ := hu
  obtain ⟨_, _, aK, cK, rfl, hck⟩ := hks
  have HCU := hideIt hcu
  clear hcu hck hnear
  obtain ⟨i0, hi0, hz0, hs0, hy0⟩ := info_parts infoNode
  obtain ⟨i1, hi1, hz1, hs1, hy1⟩ := info_parts infoStr
  obtain ⟨i2, hi2, hz2, hs2, hy2⟩ := info_parts infoInt
  have hd0 : Duo w.heap.size w ((w.alloc (.cells #[] 32)).alloc (.cells #[] 2)) (.slice (some ⟨w.heap.size, 0, none⟩) 0 0) (.slice (some ⟨w.heap.size + 1, 0, none⟩) 0 0) (catNs L 0) (catKs L 0) (fun _ => undef) (fun _ => undef) := by
    refine ⟨⟨?_, fun i hi => absurd hi (by simp [catNs]), fun i hi => absurd hi (by simp [catNs]), fun i j hi => absurd hi (by simp [catNs]), fun i j hi => absurd hi (by simp [catNs])⟩, ?_, fun j hj => absurd hj (by simp [catNs]), ((Below.refl _ _).alloc (Nat.le_refl _) _).alloc (by simp) _⟩
    · exact (World.ownsRow_lit (base := w.heap.size) (e := 32) (size := 5) w #[] 0 (Nat.le_refl _) (by simp [maxLen]) rfl).alloc _
    · have := World.ownsRow_lit (base := w.heap.size) (e := 2) (size := 1) (w.alloc (.cells #[] 32)) #[] 0 (by simp) (by simp [maxLen]) rfl
      simpa [catKs] using this
  have HD0 := hideIt hd0
  clear hd0
  go_enter Tryz.func45, Tryz.ntmps45
  go_wp2_with fail
  go_loopw [7, 8, 9] (fun o kd i wr => ∃ (k : Nat) (KV IV : Nat → Value), k ≤ m ∧ i = .int .i64 k ∧ Duo w.heap.size w wr o kd (catNs L k) (catKs L k) KV IV) (fun _ _ i _ => m - (intOf i).toNat)
  case atStart => exact ⟨0, _, _, Nat.zero_le _, rfl, HD0.out⟩
  case round =>
    obtain ⟨k, KV, IV, hk, rfl, hduo⟩ := hrel
    have HD := hideIt hduo
    have zs := hduo.frame.size
    obtain ⟨ao, co, eo⟩ := own_slice hduo.nest.row
    obtain ⟨ai, ci, ei⟩ := own_slice hduo.kids
    obtain ⟨M, hM⟩ : ∃ M, (catNs L k).length = M := ⟨_, rfl⟩
    have HMM := hideIt hM
    have hMle : M ≤ (catNs L m).length := by rw [← hM]; exact catNs_mono L hk
    rw [hM] at eo
    rw [catKs_len] at ei
    subst eo ei
    clear hduo hM
    by_cases hlt : k < m
    · obtain ⟨b, rfl, hbB, hcell⟩ := HCU.out (by omega)
      obtain ⟨r, hcr, hnr⟩ := hcell k hlt
      have hcr' := (below_cell HD.out.frame (by omega)).trans hcr
      have HNK := hideIt (hnr.below (HD.out.frame.mono hB))
      obtain ⟨_, ar, cr, rfl, _⟩ := hnr
      have HL1 := hideIt (catNs_mono L (show k + 1 ≤ m by omega))
      have HLN := hideIt (catNs_len L k)
      obtain ⟨Lk, hLk⟩ : ∃ Lk, (L k).length = Lk := ⟨_, rfl⟩
      have HLK := hideIt hLk
      rw [hLk] at hcr'
      have hMb : M + Lk + 1 ≤ 100000 := by
        have h1 := HL1.out
        have h2 := HLN.out
        rw [HMM.out, hLk] at h2
        omega
      have HNK2 := hideIt HNK.out
      rw [hLk] at HNK2
      have hLp : 0 < Lk := by rw [← hLk]; exact (HNR.out k hlt).1
      clear hcell hcr hLk hMle
      go_wp2_with fail
      refine (l1Add_any B w.heap.size (.slice ao M co) (.slice ar Lk cr) (catNs L k) (L k) KV IV wr HD.out.nest HNK2.out hB zs (by rw [HMM.out, HLK.out]; omega) (HNR.out k hlt).2).mono ?_
      rintro e w3 ⟨v3, KV3, IV3, rfl, hl3⟩
      have hd3 := HD.out.laid hl3 zs
      have HD3 : Hid (Duo w.heap.size w w3 v3 (.slice ai k ci) (catNs L (k + 1)) (catKs L k) KV3 IV3) := hd3
      have z3 := HD3.out.frame.size
      obtain ⟨a3, c3, e3⟩ := own_slice HD3.out.nest.row
      obtain ⟨N, hN⟩ : ∃ N, (catNs L (k + 1)).length = N := ⟨_, rfl⟩
      have hN1 : N ≤ 100000 := by rw [← hN, HLN.out, HMM.out, HLK.out]; omega
      have hN0 : 1 ≤ N := by rw [← hN, HLN.out, HMM.out, HLK.out]; omega
      have HNN := hideIt hN
      rw [hN] at e3
      subst e3
      have HKD := hideIt HD3.out.kids
      rw [catKs_len] at HKD
      have HKS2 : Hid (catKs L (k + 1) = catKs L k ++ [(N : Int) - 1]) := by rw [Hid, ← HNN.out]; rfl
      clear hl3 hd3 hN
      go_wp2_with (at_builtin; refine wpList_append_own_at _ rfl _ _ 30 rfl w.heap.size 2 i2 (.int .i64 0) 1 8 Tryz.underlying30 hi2 hz2 hs2 hy2 rfl (by decide) _ _ _ rfl (HKD.out.alloc _) ⟨w3.heap.size, 0, none⟩ 1 1 [.int .i64 ((N : Int) - 1)] rfl rfl ?c1 ?c2 ?c3 ?c4 ?c5 ?_)
      case c1 => exact cell_one_new _ _ _
      case c2 => first | rfl | (intro u hu; simp at hu; subst hu; rfl)
      case c3 => unfold maxLen; omega
      case c4 => omega
      case c5 => first | omega | (simp; omega)
      intro kv' w5 hown hgrow _ hat
      have HD5 := hideIt (HD3.out.kid (by omega) (by rw [catKs_len]; exact hown) hgrow (by simpa using hat))
      clear hown hgrow hat
      go_wp2_with fail
      go_roundw
      case rel => exact ⟨k + 1, KV3, IV3, by omega, by go_num, by rw [HKS2.out]; exact HD5.out⟩
      case measure => simp [intOf]; omega
    · obtain rfl : k = m := by omega
      have HOWN : Hid ((wr.alloc (.cells #[] 9)).ownsRow w.heap.size 9 1 (.slice (some ⟨wr.heap.size, 0, none⟩) 0 0) 0 []) := World.ownsRow_lit wr #[] 0 zs (by simp [maxLen]) rfl
      have HSRC : Hid (0 < keys.length → ∃ ad, aK = some ad ∧ ∀ j u, (keys.map Value.string)[j]? = some u → (wr.alloc (.cells #[] 9)).cell? (ad.add j) = some u) := by
        intro hp
        obtain ⟨_, _, aK', cK', e, hck⟩ := HKS.out
        cases e
        obtain ⟨bk, ok, rfl, hbk, hcc⟩ := hck hp
        refine ⟨_, rfl, fun j u hj => ?_⟩
        have hj' : j < keys.length := by have := (List.getElem?_eq_some_iff.1 hj).1; simpa using this
        rw [show (⟨bk, ok, none⟩ : Addr).add j = ⟨bk, ok + j, none⟩ by simp [Addr.add], below_cell ((Below.refl _ wr).alloc (Nat.le_refl _) _) (by omega), below_cell HD.out.frame (by omega), hcc j hj']
        simp [hj', keyAt] at hj ⊢
        exact hj
      go_wp2_with (at_builtin; refine wpList_append_src rfl _ _ 29 rfl w.heap.size 9 i1 (.string ByteArray.empty) 1 16 Tryz.underlying29 hi1 hz1 hs1 hy1 rfl (by decide) _ 0 [] rfl HOWN.out aK keys.length cK (keys.map .string) rfl (by simp) HSRC.out ?c2 ?c3 ?c4 ?c5 ?_)
      case c2 => intro u hu; first | rfl | (obtain ⟨q, _, rfl⟩ := List.mem_map.1 hu; rfl)
      case c3 => unfold maxLen; omega
      case c4 => omega
      case c5 => first | omega | (simp; omega)
      intro vk w5 hk2 hg2 hat2
      (try simp only [Nat.zero_add, List.nil_append] at hk2)
      have hgg : wr.grownBy w5 none := (World.grownBy_alloc wr _ none).andThen hg2 (fun j hj => Or.inl (by simp [Value.ownBlock] at hj; omega))
      have nn : ∀ x : Option Nat, x = none ∨ x ≠ none := fun x => by cases x <;> simp
      have hnest5 := HD.out.nest.kept hgg (nn _) (fun _ _ => nn _) (fun _ _ => nn _)
      have hkids5 := HD.out.kids.kept hgg (nn _)
      have hb5 : Below w.heap.size w w5 := HD.out.frame.grown hgg zs (fun k hk => by cases hk)
      have HFK : Hid (∀ j, j < (catNs L k).length → ∀ y, vk.ownBlock = some y → (KV j).ownBlock ≠ some y) := by
        intro j hj y hy e
        have h1 := ((HD.out.nest.rk j hj).lt y e).2
        rcases hat2 with e2 | e2
        · rw [e2] at hy; simp [Value.ownBlock] at hy; omega
        · rw [e2] at hy; simp at hy; omega
      obtain ⟨ak, ck, hvk⟩ := own_slice hk2
      subst hvk
      have HN5 := hideIt hnest5
      have HK5 := hideIt hkids5
      have HV5 := hideIt hk2
      have HB5 := hideIt hb5
      have z5 := hb5.size
      have HROW := hideIt (hnest5.row.alloc (.cells #[.int .i64 kind, .int .i64 0, .string ⟨#[]⟩, .slice ak keys.length ck, .slice ai k ci] 32))
      rw [HMM.out] at HROW
      clear hnest5 hkids5 hb5 hk2 hg2 hat2 hgg nn HSRC HOWN
      go_wp2_with (at_builtin; go_loud (refine wpList_append_own_at _ rfl _ _ 24 rfl w.heap.size 32 i0 zeroNode 5 80 Tryz.underlying24 hi0 hz0 hs0 hy0 rfl (by decide) _ _ _ rfl HROW.out ⟨w5.heap.size, 0, none⟩ 1 1 [.int .i64 kind, .int .i64 0, .string ⟨#[]⟩, .slice ak keys.length ck, .slice ai k ci] rfl rfl ?c1 ?c2 ?c3 ?c4 ?c5 ?_))
      case c1 => exact news5_of _ _ _ _ _ _ _ (by simp)
      case c2 => intro u hu; simp at hu; rcases hu with rfl | rfl | rfl | rfl | rfl <;> rfl
      case c3 => unfold maxLen; omega
      case c4 => omega
      case c5 => simp; omega
      intro v' w6 hown hgrow _ hat
      have hg6 : w5.grownBy w6 (Value.slice ao M co).ownBlock := (World.grownBy_alloc w5 _ _).trans hgrow
      have HF := hideIt (Nest.snoc (x := { kind := kind, n := 0, s := ⟨#[]⟩, keys := keys, kids := catKs L k }) HN5.out HV5.out HK5.out HFK.out (fun j hj => HD.out.ki j hj) (by rw [HMM.out]; exact hown) hg6)
      have HB6 : Hid (Below w.heap.size w w6) := HB5.out.grown hg6 z5 (fun x hx => (HN5.out.row.lt x hx).1)
      clear hown hgrow hat hg6
      go_wp2_with fail
      go_ret
      exact ⟨_, _, _, rfl, HF.out, HB6.out⟩
end Go.Proofs.YtcidjhnogldgmaaGreatDoor

namespace Go.Proofs.YtcidjhnogldgmaaGreatDoor
open Go.RowKit
set_option linter.unusedSimpArgs false
set_option linter.unusedVariables false
theorem root_first {vs : List VN} (hok : okB vs = true) : ∃ h, tr (kidsOf vs) (vs.length - 1) = some (0, h) := by
  unfold okB rootB at hok
  simp only [Bool.and_eq_true] at hok
  have h := hok.2
  cases e : tr (kidsOf vs) (vs.length - 1) with
  | none => simp [e] at h
  | some p => obtain ⟨a, b⟩ := p; simp [e] at h; obtain ⟨rfl, _⟩ := h; exact ⟨b, rfl⟩
def rootT (vs : List VN) : VT := treeOf vs 80 (vs.length - 1)
theorem run_all (vs : List VN) (d : Int) : run vs d 0 vs.length = vs.map (shiftN d) := by
  unfold run
  apply List.ext_getElem?
  intro j
  by_cases hj : j < vs.length
  · simp [List.getElem?_range', hj, nodeAt]
  · simp [hj]
theorem lay_root {vs : List VN} (hok : okB vs = true) (sh : Nat) : layT 80 (rootT vs) sh = vs.map (shiftN (sh : Int)) := by
  obtain ⟨p1, _, _, _⟩ := okB_parts hok
  obtain ⟨h, htr⟩ := root_first hok
  unfold rootT
  rw [← lay_tree, lay_run vs 80 (vs.length - 1) sh 0 h (by omega) htr, ← run_all]
  have e : vs.length - 1 + 1 - 0 = vs.length := by omega
  rw [e]
  simp
def kidsL (L : Nat → List VN) (m : Nat) : List VT := (List.range m).map fun i => rootT (L i)
theorem kidsL_len (L : Nat → List VN) (m : Nat) : (kidsL L m).length = m := by simp [kidsL]
theorem kidsL_at (L : Nat → List VN) {m j : Nat} (h : j < m) : kidT (kidsL L m) j = rootT (L j) := by simp [kidsL, kidT, h]
theorem cat_lay (L : Nat → List VN) (m : Nat) (hok : ∀ i, i < m → okB (L i) = true) : ∀ k, k ≤ m → accT 80 0 (kidsL L m) k = catNs L k ∧ ksT 80 0 (kidsL L m) k = catKs L k := by
  intro k
  induction k with
  | zero => intro _; exact ⟨accT_zero _ _ _, ksT_zero _ _ _⟩
  | succ k ih =>
    intro hk
    obtain ⟨h1, h2⟩ := ih (by omega)
    have hlt : k < (kidsL L m).length := by rw [kidsL_len]; omega
    have e : accT 80 0 (kidsL L m) (k + 1) = catNs L (k + 1) := by
      rw [accT_succ 80 0 hlt, h1, kidsL_at L (by omega), lay_root (hok k (by omega)), Nat.zero_add]
      rfl
    refine ⟨e, ?_⟩
    rw [ksT_succ 80 0 hlt, h2, e, Nat.zero_add]
    rfl
theorem lay_list (kind : Int) (keys : List ByteArray) (L : Nat → List VN) (m : Nat) (hok : ∀ i, i < m → okB (L i) = true) : layT 81 (.mk kind 0 ByteArray.empty keys (kidsL L m)) 0 = makeNs kind keys L m := by
  rw [layT_eq, kidsL_len]
  obtain ⟨h1, h2⟩ := cat_lay L m hok m (Nat.le_refl _)
  rw [h1, h2]
  rfl
theorem catNs_le {L : Nat → List VN} {m : Nat} (hok : ∀ i, i < m → okB (L i) = true) : ∀ k, k ≤ m → (catNs L k).length ≤ k * 80 := by
  intro k
  induction k with
  | zero => intro _; simp [catNs]
  | succ k ih =>
    intro hk
    have h1 := ih (by omega)
    have h2 := (okB_parts (hok k (by omega))).1
    rw [catNs_len]
    omega
theorem nodeAt_left {a b : List VN} {i : Nat} (h : i < a.length) : nodeAt (a ++ b) i = nodeAt a i := by
  unfold nodeAt; rw [List.getD_eq_getElem?_getD, List.getD_eq_getElem?_getD, List.getElem?_append_left h]
theorem nodeAt_right {a b : List VN} {i : Nat} (h : a.length ≤ i) : nodeAt (a ++ b) i = nodeAt b (i - a.length) := by
  unfold nodeAt; rw [List.getD_eq_getElem?_getD, List.getD_eq_getElem?_getD, List.getElem?_append_right h]
theorem nodeAt_map {vs : List VN} {d : Int} {i : Nat} (h : i < vs.length) : nodeAt (vs.map (shiftN d)) i = shiftN d (nodeAt vs i) := by
  unfold nodeAt; simp [h]
def Nice (x : VN) : Prop := Fits x ∧ x.keys.length ≤ 80 ∧ x.kids.length ≤ 80 ∧ ∀ j, j < x.kids.length → -10000 ≤ intAt x.kids j ∧ intAt x.kids j ≤ 10000
theorem cat_nice {L : Nat → List VN} {m : Nat} (hm : m ≤ 80) (hok : ∀ i, i < m → okB (L i) = true) (hf : ∀ i, i < m → ∀ j, j < (L i).length → Fits (nodeAt (L i) j)) : ∀ k, k ≤ m → ∀ i, i < (catNs L k).length → Nice (nodeAt (catNs L k) i) := by
  intro k
  induction k with
  | zero => intro _ i hi; simp [catNs] at hi
  | succ k ih =>
    intro hk i hi
    have hle := catNs_le hok k (by omega)
    rw [catNs]
    by_cases e : i < (catNs L k).length
    · rw [nodeAt_left e]; exact ih (by omega) i e
    · rw [nodeAt_right (by omega)]
      rw [catNs_len] at hi
      rw [nodeAt_map (by omega)]
      have hj : i - (catNs L k).length < (L k).length := by omega
      generalize i - (catNs L k).length = j at hj
      have f := hf k (by omega) j hj
      have kf := keys_few (hok k (by omega)) j hj
      have p1 := (okB_parts (hok k (by omega))).1
      have hb : ∀ q, q < (shiftN ((catNs L k).length : Int) (nodeAt (L k) j)).kids.length → -10000 ≤ intAt (shiftN ((catNs L k).length : Int) (nodeAt (L k) j)).kids q ∧ intAt (shiftN ((catNs L k).length : Int) (nodeAt (L k) j)).kids q ≤ 10000 := by
        intro q hq
        have hq' : q < (nodeAt (L k) j).kids.length := by simpa [shiftN] using hq
        have hr := kidsIn_get kf.1 hq'
        have ei : intAt (shiftN ((catNs L k).length : Int) (nodeAt (L k) j)).kids q = intAt (nodeAt (L k) j).kids q + ((catNs L k).length : Int) := by
          rw [intAt_get hq, intAt_get hq']; simp [shiftN]
        rw [ei]
        omega
      exact ⟨⟨f.keysN, f.keysS, by simpa [shiftN] using f.kidsN, fun q hq => by have := hb q hq; omega, f.size, f.klo, f.khi, f.nlo, f.nhi⟩, kf.2.2, by simpa [shiftN] using kf.2.1, hb⟩
theorem catKs_get (L : Nat → List VN) : ∀ (m j : Nat), j < m → intAt (catKs L m) j = ((catNs L (j + 1)).length : Int) - 1 := by
  intro m
  induction m with
  | zero => intro j hj; omega
  | succ m ih =>
    intro j hj
    have hl : j < (catKs L (m + 1)).length := by rw [catKs_len]; exact hj
    rw [intAt_get hl]
    by_cases e : j < m
    · have := ih j e
      rw [intAt_get (by rw [catKs_len]; exact e)] at this
      simp only [catKs]
      rw [List.getElem_append_left (by rw [catKs_len]; exact e)]
      exact this
    · obtain rfl : j = m := by omega
      simp only [catKs]
      rw [List.getElem_append_right (by rw [catKs_len]; exact Nat.le_refl _)]
      simp [catKs_len]
theorem make_nice {L : Nat → List VN} {m : Nat} (hm : m ≤ 80) (hok : ∀ i, i < m → okB (L i) = true) (hf : ∀ i, i < m → ∀ j, j < (L i).length → Fits (nodeAt (L i) j)) {kind : Int} (h1 : 1 ≤ kind) (h6 : kind ≤ 6) {keys : List ByteArray} (hk : keys.length ≤ 80) (hks : ∀ i, i < keys.length → (keyAt keys i).size ≤ 140737488355328) :
    (makeNs kind keys L m).length ≤ 6401 ∧ ∀ i, i < (makeNs kind keys L m).length → Nice (nodeAt (makeNs kind keys L m) i) := by
  have hle := catNs_le hok m (Nat.le_refl _)
  refine ⟨by unfold makeNs; simp; omega, fun i hi => ?_⟩
  unfold makeNs at hi ⊢
  by_cases e : i < (catNs L m).length
  · rw [nodeAt_left e]; exact cat_nice hm hok hf m (Nat.le_refl _) i e
  · have e0 : i - (catNs L m).length = 0 := by simp at hi; omega
    rw [nodeAt_right (by omega), e0]
    have hb : ∀ j, j < (catKs L m).length → -10000 ≤ intAt (catKs L m) j ∧ intAt (catKs L m) j ≤ 10000 := by
      intro j hj
      rw [catKs_len] at hj
      rw [catKs_get L m j hj]
      have := catNs_le hok (j + 1) (by omega)
      omega
    exact ⟨⟨by show keys.length ≤ _; omega, hks, by show (catKs L m).length ≤ _; rw [catKs_len]; omega, fun j hj => by have := hb j hj; show -9223372036854775808 ≤ intAt (catKs L m) j ∧ intAt (catKs L m) j ≤ 9223372036854775807; omega, by show ByteArray.empty.size ≤ _; decide, by show -9223372036854775808 ≤ kind; omega, by show kind ≤ _; omega, by show (-9223372036854775808 : Int) ≤ 0; decide, by show (0 : Int) ≤ 9223372036854775807; decide⟩, hk, by show (catKs L m).length ≤ 80; rw [catKs_len]; exact hm, hb⟩
end Go.Proofs.YtcidjhnogldgmaaGreatDoor

namespace Go.Proofs.YtcidjhnogldgmaaGreatDoor
open Go.RowKit
set_option linter.unusedSimpArgs false
set_option linter.unusedVariables false
def FullT : Nat → VT → Prop
  | 0, _ => False
  | f + 1, .mk _ _ _ _ kids => ∀ j, j < kids.length → FullT f (kidT kids j)
def nodeT (kind n : Int) (s : ByteArray) (keys : List ByteArray) (m : Nat) : Bool := nodeB ⟨kind, n, s, keys, List.replicate m 0⟩
def goodT : Nat → VT → Prop
  | 0, _ => False
  | f + 1, .mk kind n s keys kids => nodeT kind n s keys kids.length = true ∧ ∀ j, j < kids.length → goodT f (kidT kids j)
def hiK (F : VT → Nat) (kids : List VT) : Nat → Nat
  | 0 => 0
  | k + 1 => max (hiK F kids k) (F (kidT kids k))
def hiT : Nat → VT → Nat
  | 0, _ => 0
  | f + 1, .mk _ _ _ _ kids => hiK (hiT f) kids kids.length + 1
theorem goodT.full : ∀ {f : Nat} {t : VT}, goodT f t → FullT f t
  | 0, _, h => h.elim
  | f + 1, .mk _ _ _ _ _, h => fun j hj => (h.2 j hj).full
theorem nodeT_eq (x : VN) : nodeB x = nodeT x.kind x.n x.s x.keys x.kids.length := by
  unfold nodeT nodeB unnamedB namedB
  simp
theorem accT_pre (f sh : Nat) (kids : List VT) {k m : Nat} (h : k ≤ m) (hm : m ≤ kids.length) : ∃ t, accT f sh kids m = accT f sh kids k ++ t := by
  induction m with
  | zero => obtain rfl : k = 0 := by omega
            exact ⟨[], by simp⟩
  | succ m ih =>
    by_cases e : k = m + 1
    · subst e; exact ⟨[], by simp⟩
    · obtain ⟨t, ht⟩ := ih (by omega) (by omega)
      exact ⟨t ++ _, by rw [accT_succ f sh (by omega), ht, List.append_assoc]⟩
theorem layT_len {f : Nat} {t : VT} (h : FullT f t) (sh : Nat) : 1 ≤ (layT f t sh).length := by
  cases f with
  | zero => exact h.elim
  | succ f => obtain ⟨kind, n, s, keys, kids⟩ := t; rw [layT_eq]; simp
theorem tr_lay : ∀ {f : Nat} {t : VT}, FullT f t → ∀ (vs : List VN) (sh : Nat), (∀ j, j < (layT f t sh).length → kidsOf vs (sh + j) = (nodeAt (layT f t sh) j).kids) → tr (kidsOf vs) (sh + (layT f t sh).length - 1) = some (sh, hiT f t) := by
  intro f
  induction f with
  | zero => intro t h; exact h.elim
  | succ f ih =>
    intro t h vs sh hk
    obtain ⟨kind, n, s, keys, kids⟩ := t
    rw [layT_eq] at hk ⊢
    rw [List.length_append, List.length_cons, List.length_nil] at hk ⊢
    have hroot := hk (accT f sh kids kids.length).length (by omega)
    rw [nodeAt_right (Nat.le_refl _), Nat.sub_self] at hroot
    have hroot' : kidsOf vs (sh + (accT f sh kids kids.length).length) = ksT f sh kids kids.length := hroot
    rw [show sh + ((accT f sh kids kids.length).length + (0 + 1)) - 1 = sh + (accT f sh kids kids.length).length by omega, tr_eq, hroot']
    have hf : ∀ k, k ≤ kids.length → ∀ h0, (ksT f sh kids k).reverse.foldl (stepKid (tr (kidsOf vs))) (some (sh + (accT f sh kids k).length, h0)) = some (sh, max h0 (hiK (hiT f) kids k)) := by
      intro k
      induction k with
      | zero => intro _ h0; rw [ksT_zero, accT_zero]; simp [hiK]
      | succ k ihk =>
        intro hkl h0
        rw [ksT_succ f sh (by omega), List.reverse_append, List.reverse_cons, List.reverse_nil, List.nil_append, List.cons_append, List.nil_append, List.foldl_cons]
        have hlen : (accT f sh kids (k + 1)).length = (accT f sh kids k).length + (layT f (kidT kids k) (sh + (accT f sh kids k).length)).length := by rw [accT_succ f sh (by omega), List.length_append]
        have hpos := layT_len (h k (by omega)) (sh + (accT f sh kids k).length)
        have htr := ih (h k (by omega)) vs (sh + (accT f sh kids k).length) (fun j hj => by
          obtain ⟨t1, ht1⟩ := accT_pre f sh kids (show k + 1 ≤ kids.length by omega) (Nat.le_refl _)
          have hl1 := congrArg List.length ht1
          rw [List.length_append] at hl1
          have := hk ((accT f sh kids k).length + j) (by omega)
          rw [nodeAt_left (by omega), ht1, nodeAt_left (by omega), accT_succ f sh (by omega), nodeAt_right (by omega)] at this
          rw [Nat.add_assoc, this, Nat.add_sub_cancel_left])
        have hst : stepKid (tr (kidsOf vs)) (some (sh + (accT f sh kids (k + 1)).length, h0)) (((sh + (accT f sh kids (k + 1)).length : Nat) : Int) - 1) = some (sh + (accT f sh kids k).length, max h0 (hiT f (kidT kids k))) := by
          unfold stepKid
          simp only
          rw [if_pos ⟨by omega, trivial⟩]
          rw [show sh + (accT f sh kids (k + 1)).length - 1 = sh + (accT f sh kids k).length + (layT f (kidT kids k) (sh + (accT f sh kids k).length)).length - 1 by omega, htr]
          rfl
        rw [hst, ihk (by omega), hiK]
        congr 2
        omega
    rw [hf _ (Nat.le_refl _) 0]
    simp [hiT]
theorem acc_nodes (f sh : Nat) (kids : List VT) (P : VN → Prop) : ∀ k, k ≤ kids.length → ((∀ j, j < (accT f sh kids k).length → P (nodeAt (accT f sh kids k) j)) ↔ ∀ i, i < k → ∀ j, j < (layT f (kidT kids i) (sh + (accT f sh kids i).length)).length → P (nodeAt (layT f (kidT kids i) (sh + (accT f sh kids i).length)) j)) := by
  intro k
  induction k with
  | zero => intro _; rw [accT_zero]; simp
  | succ k ih =>
    intro hk
    have ih' := ih (by omega)
    rw [accT_succ f sh (by omega), List.length_append]
    constructor
    · intro h i hi j hj
      by_cases e : i = k
      · subst e
        have := h ((accT f sh kids i).length + j) (by omega)
        rw [nodeAt_right (by omega), Nat.add_sub_cancel_left] at this
        exact this
      · exact ih'.1 (fun j hj => by have := h j (by omega); rw [nodeAt_left hj] at this; exact this) i (by omega) j hj
    · intro h j hj
      by_cases e : j < (accT f sh kids k).length
      · rw [nodeAt_left e]
        exact ih'.2 (fun i hi => h i (by omega)) j e
      · rw [nodeAt_right (by omega)]
        exact h k (by omega) _ (by omega)
theorem nodes_lay : ∀ {f : Nat} {t : VT}, FullT f t → ∀ sh, ((∀ j, j < (layT f t sh).length → nodeB (nodeAt (layT f t sh) j) = true) ↔ goodT f t) := by
  intro f
  induction f with
  | zero => intro t h; exact h.elim
  | succ f ih =>
    intro t h sh
    obtain ⟨kind, n, s, keys, kids⟩ := t
    rw [layT_eq, List.length_append, List.length_cons, List.length_nil]
    have hr : nodeB (nodeAt (accT f sh kids kids.length ++ [{ kind := kind, n := n, s := s, keys := keys, kids := ksT f sh kids kids.length }]) (accT f sh kids kids.length).length) = nodeT kind n s keys kids.length := by
      rw [nodeAt_right (Nat.le_refl _), Nat.sub_self]
      have := nodeT_eq { kind := kind, n := n, s := s, keys := keys, kids := ksT f sh kids kids.length }
      rw [ksT_len f sh kids (Nat.le_refl _)] at this
      exact this
    have ha := acc_nodes f sh kids (fun x => nodeB x = true) kids.length (Nat.le_refl _)
    constructor
    · intro hj
      refine ⟨by rw [← hr]; exact hj _ (by omega), fun i hi => ?_⟩
      refine (ih (h i hi) (sh + (accT f sh kids i).length)).1 ?_
      exact ha.1 (fun j hj' => by have := hj j (by omega); rw [nodeAt_left hj'] at this; exact this) i hi
    · rintro ⟨g1, g2⟩ j hj
      by_cases e : j < (accT f sh kids kids.length).length
      · rw [nodeAt_left e]
        exact ha.2 (fun i hi => (ih (h i hi) _).2 (g2 i hi)) j e
      · obtain rfl : j = (accT f sh kids kids.length).length := by omega
        rw [hr]; exact g1
theorem ok_lay {f : Nat} {t : VT} (h : FullT f t) : okB (layT f t 0) = true ↔ (layT f t 0).length ≤ 80 ∧ goodT f t ∧ hiT f t ≤ 8 := by
  have hpos := layT_len h 0
  have htr := tr_lay h (layT f t 0) 0 (fun j hj => by rw [Nat.zero_add]; rfl)
  rw [Nat.zero_add] at htr
  have hn := nodes_lay h 0
  rw [← okB_eq]
  unfold tabB
  have hall : ((List.range (layT f t 0).length).all fun i => (tr (kidsOf (layT f t 0)) i).isSome) = true := by
    simp only [List.all_eq_true, List.mem_range]
    intro i hi
    obtain ⟨q, hq⟩ := tr_span _ _ htr i (by simp) (by omega)
    rw [hq]; rfl
  rw [hall]
  unfold rootB sizeB
  rw [htr]
  simp only [Bool.and_eq_true, decide_eq_true_eq, List.all_eq_true, List.mem_range, true_and]
  rw [hn]
  constructor
  · rintro ⟨⟨⟨_, a⟩, b⟩, c⟩; exact ⟨a, b, c⟩
  · rintro ⟨a, b, c⟩; exact ⟨⟨⟨hpos, a⟩, b⟩, c⟩
end Go.Proofs.YtcidjhnogldgmaaGreatDoor
