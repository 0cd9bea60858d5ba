/-
  Parts as pointers: how a tree of parts lies in memory, each part between two blocks, its rows its own. No walk.
-/
import Derived.Test.YtbclgogolimbgaaSS
import Derived.Test.YtbclgogolimbgaaTree
namespace Go.Proofs.Ytbclgogolimbgaa
open Go.RowKit
set_option linter.unusedSimpArgs false
set_option linter.unusedVariables false

/-- The blocks of one part itself. -/
def POwn (p : Nat) (ks it : Value) (x : Nat) : Prop := x = p ∨ ks.ownBlock = some x ∨ it.ownBlock = some x

/-- One part in block p: its value, its keys, its n parts; what those are, K says. -/
structure PNode (w : World) (lo hi : Nat) (sv : Value) (keys : List ByteArray) (n : Nat) (K : Nat → Nat → Nat → Value → Prop) (p : Nat) (ks it : Value) (ps : Nat → Value) (ls hs : Nat → Nat) : Prop where
  node : w.ownsRow lo 119 3 (.slice (some ⟨p, 0, none⟩) 1 1) 1 [sv, ks, it]
  keysR : w.ownsRow lo 9 1 ks keys.length (keys.map .string)
  kidsR : w.ownsRow lo 64 1 it n ((List.range n).map ps)
  top : ∀ x, POwn p ks it x → x < hi
  rng : ∀ j, j < n → lo ≤ ls j ∧ ls j ≤ hs j ∧ hs j ≤ hi
  out : ∀ j, j < n → ∀ x, POwn p ks it x → x < ls j ∨ hs j ≤ x
  ord : ∀ i j, i < j → j < n → hs i ≤ ls j
  kid : ∀ j, j < n → K j (ls j) (hs j) (ps j)

def PT (B : Nat) (w : World) : Nat → VT → Nat → Nat → Value → Prop
  | 0, _, _, _, _ => False
  | f + 1, .mk kind n s keys kids, lo, hi, v =>
    ∃ (sv : Value) (p : Nat) (ks it : Value) (ps : Nat → Value) (ls hs : Nat → Nat), v = .pointer (some ⟨p, 0, none⟩) ∧ TreeAt B w (f + 1) (.mk kind n s keys kids) sv ∧
      PNode w lo hi sv keys kids.length (fun j l h u => PT B w f (kidT kids j) l h u) p ks it ps ls hs

theorem own_same {w w' : World} {base e s n : Nat} {v : Value} {xs : List Value} (h : w.ownsRow base e s v n xs) (hb : ∀ x, v.ownBlock = some x → w'.heap[x]? = w.heap[x]?) : w'.ownsRow base e s v n xs := by
  refine ⟨h.1, ?_⟩
  rcases h.2 with hn | ⟨g, cap, cur, rfl, hg, hgg, rest⟩
  · exact .inl hn
  · exact .inr ⟨g, cap, cur, rfl, hg, (hb g rfl).trans hgg, rest⟩

theorem PNode.lt {w : World} {lo hi : Nat} {sv : Value} {keys : List ByteArray} {n : Nat} {K : Nat → Nat → Nat → Value → Prop} {p : Nat} {ks it : Value} {ps : Nat → Value} {ls hs : Nat → Nat} (h : PNode w lo hi sv keys n K p ks it ps ls hs) {x : Nat} (hx : POwn p ks it x) : lo ≤ x ∧ x < w.heap.size := by
  rcases hx with rfl | hx | hx
  · exact h.node.lt x rfl
  · exact h.keysR.lt x hx
  · exact h.kidsR.lt x hx

/-- The blocks between lo and hi, and those below B, are all that matters. -/
theorem PT.move {B : Nat} {w w' : World} (h1 : ∀ k, k < B → w'.heap[k]? = w.heap[k]?) : ∀ {f : Nat} {t : VT} {lo hi lo' hi' : Nat} {v : Value}, lo' ≤ lo → hi ≤ hi' → (∀ k, lo ≤ k → k < hi → w'.heap[k]? = w.heap[k]?) → PT B w f t lo hi v → PT B w' f t lo' hi' v := by
  intro f
  induction f with
  | zero => intro t lo hi lo' hi' v _ _ _ h; exact h.elim
  | succ f ih =>
    intro t lo hi lo' hi' v hl hh h2 h
    obtain ⟨kind, n, s, keys, kids⟩ := t
    obtain ⟨sv, p, ks, it, ps, ls, hs, e, ht, hp⟩ := h
    have hb : ∀ x, POwn p ks it x → w'.heap[x]? = w.heap[x]? := fun x hx => h2 x (hp.lt hx).1 (hp.top x hx)
    refine ⟨sv, p, ks, it, ps, ls, hs, e, TreeAt.keep h1 (Nat.le_refl _) ht, ⟨?_, ?_, ?_, fun x hx => Nat.lt_of_lt_of_le (hp.top x hx) hh, fun j hj => ?_, hp.out, hp.ord, fun j hj => ?_⟩⟩
    · exact own_mono (own_same hp.node (fun x hx => hb x (Or.inl (by simpa [Value.ownBlock] using hx.symm)))) hl
    · exact own_mono (own_same hp.keysR (fun x hx => hb x (Or.inr (Or.inl hx)))) hl
    · exact own_mono (own_same hp.kidsR (fun x hx => hb x (Or.inr (Or.inr hx)))) hl
    · have := hp.rng j hj; omega
    · have hr := hp.rng j hj
      exact ih (Nat.le_refl _) (Nat.le_refl _) (fun k h3 h4 => h2 k (by omega) (by omega)) (hp.kid j hj)

theorem PT.below {B : Nat} {w w' : World} {f : Nat} {t : VT} {lo hi : Nat} {v : Value} (h : PT B w f t lo hi v) (hb : Below w.heap.size w w') (hB : B ≤ w.heap.size) (hh : hi ≤ w.heap.size) : PT B w' f t lo hi v :=
  h.move (fun k hk => hb.block k (by omega)) (Nat.le_refl _) (Nat.le_refl _) (fun k _ hk => hb.block k (by omega))

theorem PT.more {B : Nat} {w : World} : ∀ {f g : Nat} {t : VT} {lo hi : Nat} {v : Value}, f ≤ g → PT B w f t lo hi v → PT B w g t lo hi v := by
  intro f
  induction f with
  | zero => intro g t lo hi v _ h; exact h.elim
  | succ f ih =>
    intro g t lo hi v hfg h
    match g, hfg with
    | g + 1, hfg =>
      obtain ⟨kind, n, s, keys, kids⟩ := t
      obtain ⟨sv, p, ks, it, ps, ls, hs, e, ht, hp⟩ := h
      exact ⟨sv, p, ks, it, ps, ls, hs, e, TreeAt.more hfg ht, hp.node, hp.keysR, hp.kidsR, hp.top, hp.rng, hp.out, hp.ord, fun j hj => ih (by omega) (hp.kid j hj)⟩

/-- One part more. -/
theorem PNode.snoc {B : Nat} {wr w1 w5 : World} {lo : Nat} {sv : Value} {keys : List ByteArray} {k f : Nat} {T : Nat → VT} {p : Nat} {ks it u : Value} {ps : Nat → Value} {ls hs : Nat → Nat} {o : Obj} {g cap : Nat}
    (h : PNode wr lo wr.heap.size sv keys k (fun j l h u => PT B wr f (T j) l h u) p ks it ps ls hs) (hB : B ≤ lo) (hlo : lo ≤ wr.heap.size) (hb : Below wr.heap.size wr w1) (hk : PT B w1 f (T k) wr.heap.size w1.heap.size u)
    (hown : w5.ownsRow lo 64 1 (.slice (some ⟨g, 0, none⟩) (k + 1) cap) (k + 1) ((List.range k).map ps ++ [u])) (hg : (w1.alloc o).grownBy w5 it.ownBlock) (hor : it.ownBlock = some g ∨ g = w1.heap.size + 1) :
    PNode (w5.setCell ⟨p, 2, none⟩ (.slice (some ⟨g, 0, none⟩) (k + 1) cap)) lo (w5.setCell ⟨p, 2, none⟩ (.slice (some ⟨g, 0, none⟩) (k + 1) cap)).heap.size sv keys (k + 1)
      (fun j l h u => PT B (w5.setCell ⟨p, 2, none⟩ (.slice (some ⟨g, 0, none⟩) (k + 1) cap)) f (T j) l h u) p ks (.slice (some ⟨g, 0, none⟩) (k + 1) cap) (updF ps k u) (updF ls k wr.heap.size) (updF hs k w1.heap.size) := by
  have hs1 := hb.size
  have hgs : w1.heap.size + 1 ≤ w5.heap.size := by simpa using hg.size
  have hpl := (h.lt (Or.inl rfl)).2
  have ane : it.ownBlock ≠ some p := fun e => by
    rcases own_apart h.kidsR h.node (by decide) with e2 | e2
    · rw [e2] at e; cases e
    · exact e2 (by rw [e]; rfl)
  have kp1 : ∀ c, c < w1.heap.size → it.ownBlock ≠ some c → w5.heap[c]? = w1.heap[c]? := fun c h1 h2 =>
    (hg.block c (by simp; omega) (fun e => h2 e.symm)).trans (Below.block ((Below.refl w1.heap.size w1).alloc (Nat.le_refl _) o) c h1)
  have kp : ∀ c, c < wr.heap.size → it.ownBlock ≠ some c → w5.heap[c]? = wr.heap[c]? := fun c h1 h2 => (kp1 c (by omega) h2).trans (hb.block c h1)
  have st : ∀ c, c ≠ p → (w5.setCell ⟨p, 2, none⟩ (.slice (some ⟨g, 0, none⟩) (k + 1) cap)).heap[c]? = w5.heap[c]? := fun c hc => Below.heap_setCell w5 _ _ c hc
  have hn5 : w5.ownsRow lo 119 3 (.slice (some ⟨p, 0, none⟩) 1 1) 1 [sv, ks, it] := own_same h.node (fun x hx => by
    have e : p = x := by simpa [Value.ownBlock] using hx
    subst e; exact kp p hpl ane)
  have hk5 : w5.ownsRow lo 9 1 ks keys.length (keys.map .string) := own_same h.keysR (fun x hx => kp x (h.lt (Or.inr (Or.inl hx))).2 (fun e => by
    rcases own_apart h.keysR h.kidsR (by decide) with e2 | e2
    · rw [e2] at hx; cases hx
    · exact e2 (hx.trans e.symm)))
  have hkl := h.keysR.lt
  have hil := h.kidsR.lt
  have hgl := (hown.lt g rfl).2
  have hgp : g ≠ p := by
    rintro rfl
    rcases own_apart hown hn5 (by decide) with e2 | e2
    · cases e2
    · exact e2 rfl
  have own' : ∀ x, POwn p ks (.slice (some ⟨g, 0, none⟩) (k + 1) cap) x → POwn p ks it x ∨ x = w1.heap.size + 1 := by
    rintro x (rfl | hx | hx)
    · exact Or.inl (Or.inl rfl)
    · exact Or.inl (Or.inr (Or.inl hx))
    · have e : g = x := by simpa [Value.ownBlock] using hx
      subst e
      rcases hor with e | e
      · exact Or.inl (Or.inr (Or.inr e))
      · exact Or.inr e
  refine ⟨?_, ?_, ?_, fun x hx => ?_, fun j hj => ?_, fun j hj x hx => ?_, fun i j hij hj => ?_, fun j hj => ?_⟩
  · have := (hn5.stored 2 (.slice (some ⟨g, 0, none⟩) (k + 1) cap)).1
    simpa using this
  · exact own_set hk5 _ (fun x hx e => by
      subst e
      rcases own_apart hk5 hn5 (by decide) with e2 | e2
      · rw [e2] at hx; cases hx
      · exact e2 (by rw [hx]; rfl))
  · rw [range_map_snoc]
    exact own_set hown _ (fun x hx e => by
      have e3 : g = x := by simpa [Value.ownBlock] using hx
      exact hgp (e3.trans e))
  · rw [World.size_setCell]
    rcases own' x hx with h1 | h1
    · have := h.lt h1; omega
    · rcases hx with rfl | hx | hx
      · omega
      · have := hkl x hx; omega
      · have e : g = x := by simpa [Value.ownBlock] using hx
        omega
  · rw [World.size_setCell]
    by_cases e : j = k
    · subst e; rw [updF_same, updF_same]; omega
    · rw [updF_other _ _ e, updF_other _ _ e]
      have := h.rng j (by omega)
      omega
  · by_cases e : j = k
    · subst e
      rw [updF_same, updF_same]
      rcases own' x hx with h1 | h1
      · have := h.lt h1; omega
      · omega
    · rw [updF_other _ _ e, updF_other _ _ e]
      have := h.rng j (by omega)
      rcases own' x hx with h1 | h1
      · exact h.out j (by omega) x h1
      · omega
  · by_cases e : j = k
    · subst e
      rw [updF_same, updF_other _ _ (by omega)]
      have := h.rng i (by omega)
      omega
    · rw [updF_other _ _ e, updF_other _ _ (by omega)]
      exact h.ord i j hij (by omega)
  · by_cases e : j = k
    · subst e
      rw [updF_same, updF_same, updF_same]
      refine hk.move (fun c hc => ?_) (Nat.le_refl _) (Nat.le_refl _) (fun c h1 h2 => ?_)
      · exact (st c (by have := (h.lt (Or.inl rfl)).1; omega)).trans (kp1 c (by omega) (fun e => by have := hil c e; omega))
      · exact (st c (by omega)).trans (kp1 c h2 (fun e => by have := hil c e; omega))
    · rw [updF_other _ _ e, updF_other _ _ e, updF_other _ _ e]
      have hr := h.rng j (by omega)
      refine (h.kid j (by omega)).move (fun c hc => ?_) (Nat.le_refl _) (Nat.le_refl _) (fun c h1 h2 => ?_)
      · exact (st c (by have := (h.lt (Or.inl rfl)).1; omega)).trans (kp c (by omega) (fun e => by have := hil c e; omega))
      · exact (st c (fun e => by have := h.out j (by omega) p (Or.inl rfl); omega)).trans (kp c (by omega) (fun e => by have := h.out j (by omega) c (Or.inr (Or.inr e)); omega))
end Go.Proofs.Ytbclgogolimbgaa
