/-
  Values behind the interface by nodes, their rows and keys anywhere below a block. (lo: only said, nothing is asked of it.)
-/
import Derived.Test.YtgmnihofkpjboaaGreatDoorTree
namespace Go.Proofs.YtgmnihofkpjboaaGreatDoor
open Go.RowKit
set_option linter.unusedSimpArgs false
set_option linter.unusedVariables false

def ItemsG (lo B : Nat) (w : World) (it : Value) (n : Nat) (P : Nat → Value → Prop) : Prop :=
  ∃ a cap, it = .slice a n cap ∧ (0 < n → ∃ b, a = some ⟨b, 0, none⟩ ∧ True ∧ b < B ∧ ∀ j, j < n → ∃ t x, w.cell? ⟨b, j, none⟩ = some (.iface t x) ∧ P j (.iface t x))

/-- The value of node i; its rows and keys lie below B. -/
def ValG (lo B : Nat) (w : World) (vs : List VN) : Nat → Nat → Value → Prop
  | 0, _, _ => False
  | f + 1, i, v =>
    ((nodeAt vs i).kind = 1 ∧ v = .iface 103 (.agg #[])) ∨
    ((nodeAt vs i).kind = 2 ∧ v = .iface 97 (.agg #[.int .i64 (nodeAt vs i).n])) ∨
    ((nodeAt vs i).kind = 3 ∧ v = .iface 69 (.agg #[.int .i64 (nodeAt vs i).n])) ∨
    ((nodeAt vs i).kind = 4 ∧ v = .iface 99 (.agg #[.string (nodeAt vs i).s])) ∨
    ((nodeAt vs i).kind = 5 ∧ ∃ it, v = .iface 73 (.agg #[it]) ∧ ItemsG lo B w it (nodeAt vs i).kids.length (fun j u => ValG lo B w vs f (intAt (nodeAt vs i).kids j).toNat u)) ∨
    ((nodeAt vs i).kind = 6 ∧ ∃ ks it, v = .iface 101 (.agg #[ks, it]) ∧ StrsAt B w ks (nodeAt vs i).keys ∧ ItemsG lo B w it (nodeAt vs i).kids.length (fun j u => ValG lo B w vs f (intAt (nodeAt vs i).kids j).toNat u))

theorem ValG.iface {lo B : Nat} {w : World} {vs : List VN} {f i : Nat} {v : Value} (h : ValG lo B w vs f i v) : ∃ t x, v = .iface t x := by
  cases f with
  | zero => exact h.elim
  | succ f =>
    rcases h with ⟨_, rfl⟩ | ⟨_, rfl⟩ | ⟨_, rfl⟩ | ⟨_, rfl⟩ | ⟨_, it, rfl, _⟩ | ⟨_, ks, it, rfl, _⟩ <;> exact ⟨_, _, rfl⟩

theorem keepG_below {B : Nat} {w w' : World} (h : Below B w w') : ∀ k, k < B → w'.heap[k]? = w.heap[k]? := fun k hk => h.block k hk
theorem ValG.keep {lo B B' : Nat} {w w' : World} {vs : List VN} (hk : ∀ k, k < B → w'.heap[k]? = w.heap[k]?) (hB : B ≤ B') (hlo : lo ≤ B) : ∀ {f i : Nat} {v : Value}, ValG lo B w vs f i v → ValG lo B' w' vs f i v := by
  intro f
  induction f with
  | zero => intro i v h; exact h.elim
  | succ f ih =>
    intro i v h
    have hit : ∀ it, ItemsG lo B w it (nodeAt vs i).kids.length (fun j u => ValG lo B w vs f (intAt (nodeAt vs i).kids j).toNat u) → ItemsG lo B' w' it (nodeAt vs i).kids.length (fun j u => ValG lo B' w' vs f (intAt (nodeAt vs i).kids j).toNat u) := by
      rintro it ⟨a, cap, e, hx⟩
      refine ⟨a, cap, e, fun hn => ?_⟩
      obtain ⟨b, ea, h1, h2, h3⟩ := hx hn
      refine ⟨b, ea, h1, by omega, fun j hj => ?_⟩
      obtain ⟨t, x, hc, hv⟩ := h3 j hj
      exact ⟨t, x, (World.cell?_of_block (hk b h2)).trans hc, ih hv⟩
    rcases h with h | h | h | h | ⟨hk5, it, e, hi⟩ | ⟨hk6, ks, it, e, hs, hi⟩
    · exact Or.inl h
    · exact Or.inr (Or.inl h)
    · exact Or.inr (Or.inr (Or.inl h))
    · exact Or.inr (Or.inr (Or.inr (Or.inl h)))
    · exact Or.inr (Or.inr (Or.inr (Or.inr (Or.inl ⟨hk5, it, e, hit it hi⟩))))
    · exact Or.inr (Or.inr (Or.inr (Or.inr (Or.inr ⟨hk6, ks, it, e, (hs.keep (lo := B) (B := B) (fun k _ hk' => hk k hk') (Nat.le_refl _)).wide hB, hit it hi⟩))))

theorem ValG.more {lo B : Nat} {w : World} {vs : List VN} : ∀ {f g i : Nat} {v : Value}, f ≤ g → ValG lo B w vs f i v → ValG lo B w vs g i v := by
  intro f
  induction f with
  | zero => intro g i v _ h; exact h.elim
  | succ f ih =>
    intro g i v hfg h
    match g, hfg with
    | g + 1, hfg =>
      have hit : ∀ it, ItemsG lo B w it (nodeAt vs i).kids.length (fun j u => ValG lo B w vs f (intAt (nodeAt vs i).kids j).toNat u) → ItemsG lo B w it (nodeAt vs i).kids.length (fun j u => ValG lo B w vs g (intAt (nodeAt vs i).kids j).toNat u) := by
        rintro it ⟨a, cap, e, hx⟩
        refine ⟨a, cap, e, fun hn => ?_⟩
        obtain ⟨b, ea, h1, h2, h3⟩ := hx hn
        refine ⟨b, ea, h1, h2, fun j hj => ?_⟩
        obtain ⟨t, x, hc, hv⟩ := h3 j hj
        exact ⟨t, x, hc, ih (by omega) hv⟩
      rcases h with h | h | h | h | ⟨hk5, it, e, hi⟩ | ⟨hk6, ks, it, e, hs, hi⟩
      · exact Or.inl h
      · exact Or.inr (Or.inl h)
      · exact Or.inr (Or.inr (Or.inl h))
      · exact Or.inr (Or.inr (Or.inr (Or.inl h)))
      · exact Or.inr (Or.inr (Or.inr (Or.inr (Or.inl ⟨hk5, it, e, hit it hi⟩))))
      · exact Or.inr (Or.inr (Or.inr (Or.inr (Or.inr ⟨hk6, ks, it, e, hs, hit it hi⟩))))

theorem ValG.tree {lo B : Nat} {w : World} {vs : List VN} (hlo : lo ≤ B) (hr : ∀ k, k < vs.length → nodeB (nodeAt vs k) = true ∧ kidsIn vs k = true) (hk : ∀ k, k < vs.length → (nodeAt vs k).kids.length ≤ k) (h80 : vs.length ≤ 80) : ∀ {f i : Nat} {v : Value}, i < vs.length → ValG lo B w vs f i v → TreeAt B w f (treeOf vs f i) v := by
  intro f
  induction f with
  | zero => intro i v _ h; exact h.elim
  | succ f ih =>
    intro i v hi h
    have hit : ∀ it, ItemsG lo B w it (nodeAt vs i).kids.length (fun j u => ValG lo B w vs f (intAt (nodeAt vs i).kids j).toNat u) → TItems B w it ((nodeAt vs i).kids.map fun k => treeOf vs f k.toNat).length (fun j u => TreeAt B w f (kidT ((nodeAt vs i).kids.map fun k => treeOf vs f k.toNat) j) u) := by
      rintro it ⟨a, cap, e, hx⟩
      refine ⟨by have := hk i hi; simp; omega, a, cap, by simpa using e, fun hn => ?_⟩
      rw [List.length_map] at hn
      obtain ⟨b, ea, h1, h2, h3⟩ := hx hn
      refine ⟨b, ea, h2, fun j hj => ?_⟩
      rw [List.length_map] at hj
      obtain ⟨t, x, hcc, hv⟩ := h3 j hj
      refine ⟨t, x, hcc, ?_⟩
      show TreeAt B w f (kidT ((nodeAt vs i).kids.map fun k => treeOf vs f k.toNat) j) (.iface t x)
      rw [kidT_map hj]
      have hb := kidsIn_get (hr i hi).2 hj
      exact ih (by omega) hv
    have hn := (hr i hi).1
    unfold nodeB unnamedB at hn
    have es : ∀ s : ByteArray, s.toList = [] → s = ByteArray.empty := fun s h => by
      cases s with | mk d => rw [ByteArray.toList_eq] at h; simp at h; subst h; rfl
    simp only [Bool.and_eq_true, Bool.not_eq_true', Bool.and_eq_false_iff, decide_eq_false_iff_not, Decidable.not_not, Nat.not_lt, Nat.le_zero, List.length_eq_zero_iff] at hn
    obtain ⟨⟨⟨⟨n1, n2⟩, n3⟩, n4⟩, _⟩ := hn
    rw [treeOf]
    rcases h with ⟨k1, e⟩ | ⟨k2, e⟩ | ⟨k3, e⟩ | ⟨k4, e⟩ | ⟨k5, it, e, hi⟩ | ⟨k6, ks, it, e, hs, hi⟩
    · exact Or.inl ⟨k1, by omega, es _ (by rcases n2 with h | h; omega; exact h), by rcases n3 with h | h; omega; exact h, by rcases n4 with (h | h) | h; omega; omega; rw [h]; rfl, e⟩
    · exact Or.inr (Or.inl ⟨k2, es _ (by rcases n2 with h | h; omega; exact h), by rcases n3 with h | h; omega; exact h, by rcases n4 with (h | h) | h; omega; omega; rw [h]; rfl, e⟩)
    · exact Or.inr (Or.inr (Or.inl ⟨k3, es _ (by rcases n2 with h | h; omega; exact h), by rcases n3 with h | h; omega; exact h, by rcases n4 with (h | h) | h; omega; omega; rw [h]; rfl, e⟩))
    · exact Or.inr (Or.inr (Or.inr (Or.inl ⟨k4, by omega, by rcases n3 with h | h; omega; exact h, by rcases n4 with (h | h) | h; omega; omega; rw [h]; rfl, e⟩)))
    · exact Or.inr (Or.inr (Or.inr (Or.inr (Or.inl ⟨k5, by omega, es _ (by rcases n2 with h | h; omega; exact h), by rcases n3 with h | h; omega; exact h, it, e, hit it hi⟩))))
    · exact Or.inr (Or.inr (Or.inr (Or.inr (Or.inr ⟨k6, by omega, es _ (by rcases n2 with h | h; omega; exact h), ks, it, e, hs, hit it hi⟩))))

theorem ValIs.gen {lo B : Nat} {w : World} {vs : List VN} (hlo : lo ≤ B) : ∀ {f i : Nat} {v : Value}, ValIs lo B w vs f i v → ValG lo B w vs f i v := by
  intro f
  induction f with
  | zero => intro i v h; exact h.elim
  | succ f ih =>
    intro i v h
    have hit : ∀ it, ItemsAt lo B w it (nodeAt vs i).kids.length (fun j u => ValIs lo B w vs f (intAt (nodeAt vs i).kids j).toNat u) → ItemsG lo B w it (nodeAt vs i).kids.length (fun j u => ValG lo B w vs f (intAt (nodeAt vs i).kids j).toNat u) := by
      rintro it ⟨a, cap, e, hx⟩
      refine ⟨a, cap, e, fun hn => ?_⟩
      obtain ⟨b, ea, h1, h2, h3⟩ := hx hn
      refine ⟨b, ea, trivial, h2, fun j hj => ?_⟩
      obtain ⟨t, x, hc, hv⟩ := h3 j hj
      exact ⟨t, x, hc, ih hv⟩
    rcases h with h | h | h | h | ⟨hk5, it, e, hi⟩ | ⟨hk6, ks, it, e, hs, hi⟩
    · exact Or.inl h
    · exact Or.inr (Or.inl h)
    · exact Or.inr (Or.inr (Or.inl h))
    · exact Or.inr (Or.inr (Or.inr (Or.inl h)))
    · exact Or.inr (Or.inr (Or.inr (Or.inr (Or.inl ⟨hk5, it, e, hit it hi⟩))))
    · exact Or.inr (Or.inr (Or.inr (Or.inr (Or.inr ⟨hk6, ks, it, e, hs.wide hlo, hit it hi⟩))))
/-- The tree of a node, read back. -/
theorem TreeAt.val {lo B : Nat} {w : World} {vs : List VN} : ∀ {f i : Nat} {v : Value}, TreeAt B w f (treeOf vs f i) v → ValG lo B w vs f i v := by
  intro f
  induction f with
  | zero => intro i v h; exact h.elim
  | succ f ih =>
    intro i v h
    rw [treeOf] at h
    have hit : ∀ it, TItems B w it ((nodeAt vs i).kids.map fun k => treeOf vs f k.toNat).length (fun j u => TreeAt B w f (kidT ((nodeAt vs i).kids.map fun k => treeOf vs f k.toNat) j) u) → ItemsG lo B w it (nodeAt vs i).kids.length (fun j u => ValG lo B w vs f (intAt (nodeAt vs i).kids j).toNat u) := by
      rintro it ⟨_, a, cap, e, hx⟩
      rw [List.length_map] at e hx
      refine ⟨a, cap, e, fun hn => ?_⟩
      obtain ⟨b, ea, h2, h3⟩ := hx hn
      refine ⟨b, ea, trivial, h2, fun j hj => ?_⟩
      obtain ⟨t, x, hc, hv⟩ := h3 j hj
      refine ⟨t, x, hc, ih ?_⟩
      have hv' : TreeAt B w f (kidT ((nodeAt vs i).kids.map fun k => treeOf vs f k.toNat) j) (.iface t x) := hv
      rwa [kidT_map hj] at hv'
    rcases h with ⟨k, _, _, _, _, e⟩ | ⟨k, _, _, _, e⟩ | ⟨k, _, _, _, e⟩ | ⟨k, _, _, _, e⟩ | ⟨k, _, _, _, it, e, hi⟩ | ⟨k, _, _, ks, it, e, hs, hi⟩
    · exact Or.inl ⟨k, e⟩
    · exact Or.inr (Or.inl ⟨k, e⟩)
    · exact Or.inr (Or.inr (Or.inl ⟨k, e⟩))
    · exact Or.inr (Or.inr (Or.inr (Or.inl ⟨k, e⟩)))
    · exact Or.inr (Or.inr (Or.inr (Or.inr (Or.inl ⟨k, it, e, hit it hi⟩))))
    · exact Or.inr (Or.inr (Or.inr (Or.inr (Or.inr ⟨k, ks, it, e, hs, hit it hi⟩))))
end Go.Proofs.YtgmnihofkpjboaaGreatDoor
