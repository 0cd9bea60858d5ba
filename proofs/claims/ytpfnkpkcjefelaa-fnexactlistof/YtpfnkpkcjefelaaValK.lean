/-
  Values behind the interface, their keys below a block of their own: as Val has it, for texts in which something else is written beside them.
-/
import Derived.Test.YtpfnkpkcjefelaaTree
namespace Go.Proofs.Ytpfnkpkcjefelaa
open Go.RowKit
set_option linter.unusedSimpArgs false
set_option linter.unusedVariables false

/-- The value of node i. Its rows lie between the blocks lo and B, its keys below K. -/
def ValIsK (K lo B : Nat) (w : World) (vs : List VN) : Nat → Nat → Value → Prop
  | 0, _, _ => False
  | f + 1, i, v =>
    ((nodeAt vs i).kind = 1 ∧ v = .iface 135 (.agg #[])) ∨
    ((nodeAt vs i).kind = 2 ∧ v = .iface 121 (.agg #[.int .i64 (nodeAt vs i).n])) ∨
    ((nodeAt vs i).kind = 3 ∧ v = .iface 122 (.agg #[.int .i64 (nodeAt vs i).n])) ∨
    ((nodeAt vs i).kind = 4 ∧ v = .iface 124 (.agg #[.string (nodeAt vs i).s])) ∨
    ((nodeAt vs i).kind = 5 ∧ ∃ it, v = .iface 93 (.agg #[it]) ∧ ItemsAt lo B w it (nodeAt vs i).kids.length (fun j u => ValIsK K lo B w vs f (intAt (nodeAt vs i).kids j).toNat u)) ∨
    ((nodeAt vs i).kind = 6 ∧ ∃ ks it, v = .iface 95 (.agg #[ks, it]) ∧ StrsAt K w ks (nodeAt vs i).keys ∧ ItemsAt lo B w it (nodeAt vs i).kids.length (fun j u => ValIsK K lo B w vs f (intAt (nodeAt vs i).kids j).toNat u))

theorem ValIsK.iface {K lo B : Nat} {w : World} {vs : List VN} {f i : Nat} {v : Value} (h : ValIsK K lo B w vs f i v) : ∃ t x, v = .iface t x := by
  cases f with
  | zero => exact h.elim
  | succ f =>
    rcases h with ⟨_, rfl⟩ | ⟨_, rfl⟩ | ⟨_, rfl⟩ | ⟨_, rfl⟩ | ⟨_, it, rfl, _⟩ | ⟨_, ks, it, rfl, _⟩ <;> exact ⟨_, _, rfl⟩

theorem StrsAt.move {K : Nat} {w w' : World} {v : Value} {l : List ByteArray} (h : StrsAt K w v l) (hk : ∀ k, k < K → w'.heap[k]? = w.heap[k]?) : StrsAt K w' v l :=
  h.keep (lo := K) (B := K) (fun k _ hk' => hk k hk') (Nat.le_refl _)

theorem ValIsK.move {K lo B B' : Nat} {w w' : World} {vs : List VN} (h1 : ∀ k, k < K → w'.heap[k]? = w.heap[k]?) (h2 : ∀ k, lo < k → k < B → w'.heap[k]? = w.heap[k]?) (hB : B ≤ B') : ∀ {f i : Nat} {v : Value}, ValIsK K lo B w vs f i v → ValIsK K lo B' w' vs f i v := by
  intro f
  induction f with
  | zero => intro i v h; exact h.elim
  | succ f ih =>
    intro i v h
    have hit : ∀ it, ItemsAt lo B w it (nodeAt vs i).kids.length (fun j u => ValIsK K lo B w vs f (intAt (nodeAt vs i).kids j).toNat u) → ItemsAt lo B' w' it (nodeAt vs i).kids.length (fun j u => ValIsK K lo B' w' vs f (intAt (nodeAt vs i).kids j).toNat u) := by
      rintro it ⟨a, cap, e, hx⟩
      refine ⟨a, cap, e, fun hn => ?_⟩
      obtain ⟨b, ea, h3, h4, h5⟩ := hx hn
      refine ⟨b, ea, h3, by omega, fun j hj => ?_⟩
      obtain ⟨t, x, hc, hv⟩ := h5 j hj
      exact ⟨t, x, (World.cell?_of_block (h2 b h3 h4)).trans hc, ih hv⟩
    rcases h with h | h | h | h | ⟨hk5, it, e, hi⟩ | ⟨hk6, ks, it, e, hs, hi⟩
    · exact Or.inl h
    · exact Or.inr (Or.inl h)
    · exact Or.inr (Or.inr (Or.inl h))
    · exact Or.inr (Or.inr (Or.inr (Or.inl h)))
    · exact Or.inr (Or.inr (Or.inr (Or.inr (Or.inl ⟨hk5, it, e, hit it hi⟩))))
    · exact Or.inr (Or.inr (Or.inr (Or.inr (Or.inr ⟨hk6, ks, it, e, hs.move h1, hit it hi⟩))))

theorem ValIsK.keep {K lo B B' : Nat} {w w' : World} {vs : List VN} (hK : K ≤ lo) (hk : Keep lo B w w') (hB : B ≤ B') (hlo : lo ≤ B) : ∀ {f i : Nat} {v : Value}, ValIsK K lo B w vs f i v → ValIsK K lo B' w' vs f i v :=
  fun h => h.move (fun k h1 => hk k (by omega) (by omega)) (fun k h1 h2 => hk k (by omega) h2) hB

theorem ValIsK.more {K lo B : Nat} {w : World} {vs : List VN} : ∀ {f g i : Nat} {v : Value}, f ≤ g → ValIsK K lo B w vs f i v → ValIsK K lo B w vs g i v := by
  intro f
  induction f with
  | zero => intro g i v _ h; exact h.elim
  | succ f ih =>
    intro g i v hfg h
    match g, hfg with
    | g + 1, hfg =>
      have hit : ∀ it, ItemsAt lo B w it (nodeAt vs i).kids.length (fun j u => ValIsK K lo B w vs f (intAt (nodeAt vs i).kids j).toNat u) → ItemsAt lo B w it (nodeAt vs i).kids.length (fun j u => ValIsK K lo B w vs g (intAt (nodeAt vs i).kids j).toNat u) := by
        rintro it ⟨a, cap, e, hx⟩
        refine ⟨a, cap, e, fun hn => ?_⟩
        obtain ⟨b, ea, h1, h2, h3⟩ := hx hn
        refine ⟨b, ea, h1, h2, fun j hj => ?_⟩
        obtain ⟨t, x, hc, hv⟩ := h3 j hj
        exact ⟨t, x, hc, ih (by omega) hv⟩
      rcases h with h | h | h | h | ⟨hk5, it, e, hi⟩ | ⟨hk6, ks, it, e, hs, hi⟩
      · exact Or.inl h
      · exact Or.inr (Or.inl h)
      · exact Or.inr (Or.inr (Or.inl h))
      · exact Or.inr (Or.inr (Or.inr (Or.inl h)))
      · exact Or.inr (Or.inr (Or.inr (Or.inr (Or.inl ⟨hk5, it, e, hit it hi⟩))))
      · exact Or.inr (Or.inr (Or.inr (Or.inr (Or.inr ⟨hk6, ks, it, e, hs, hit it hi⟩))))

theorem ValIsK.plain {K lo B : Nat} {w : World} {vs : List VN} (hK : K ≤ lo) : ∀ {f i : Nat} {v : Value}, ValIsK K lo B w vs f i v → ValIs lo B w vs f i v := by
  intro f
  induction f with
  | zero => intro i v h; exact h.elim
  | succ f ih =>
    intro i v h
    have hit : ∀ it, ItemsAt lo B w it (nodeAt vs i).kids.length (fun j u => ValIsK K lo B w vs f (intAt (nodeAt vs i).kids j).toNat u) → ItemsAt lo B w it (nodeAt vs i).kids.length (fun j u => ValIs lo B w vs f (intAt (nodeAt vs i).kids j).toNat u) := by
      rintro it ⟨a, cap, e, hx⟩
      refine ⟨a, cap, e, fun hn => ?_⟩
      obtain ⟨b, ea, h1, h2, h3⟩ := hx hn
      refine ⟨b, ea, h1, h2, fun j hj => ?_⟩
      obtain ⟨t, x, hc, hv⟩ := h3 j hj
      exact ⟨t, x, hc, ih hv⟩
    rcases h with h | h | h | h | ⟨hk5, it, e, hi⟩ | ⟨hk6, ks, it, e, hs, hi⟩
    · exact Or.inl h
    · exact Or.inr (Or.inl h)
    · exact Or.inr (Or.inr (Or.inl h))
    · exact Or.inr (Or.inr (Or.inr (Or.inl h)))
    · exact Or.inr (Or.inr (Or.inr (Or.inr (Or.inl ⟨hk5, it, e, hit it hi⟩))))
    · exact Or.inr (Or.inr (Or.inr (Or.inr (Or.inr ⟨hk6, ks, it, e, hs.wide hK, hit it hi⟩))))
end Go.Proofs.Ytpfnkpkcjefelaa
