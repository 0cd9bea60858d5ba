/-
  How the values behind the interface lie in memory: the value of a node of right nodes, its parts in rows of new blocks.
-/
import Derived.Test.YtgmnihofkpjboaaDoorSpc3
import Derived.Test.YtgmnihofkpjboaaDoorTo
import Derived.RangeFuncBox
namespace Go.Proofs.YtgmnihofkpjboaaDoor
open Go.RowKit
set_option linter.unusedSimpArgs false
set_option linter.unusedVariables false

def ItemsAt (lo B : Nat) (w : World) (it : Value) (n : Nat) (P : Nat → Value → Prop) : Prop :=
  ∃ a cap, it = .slice a n cap ∧ (0 < n → ∃ b, a = some ⟨b, 0, none⟩ ∧ lo < b ∧ b < B ∧ ∀ j, j < n → ∃ t x, w.cell? ⟨b, j, none⟩ = some (.iface t x) ∧ P j (.iface t x))

/-- The value of node i. Its rows lie between the blocks lo and B, its keys below lo. -/
def ValIs (lo B : Nat) (w : World) (vs : List VN) : Nat → Nat → Value → Prop
  | 0, _, _ => False
  | f + 1, i, v =>
    ((nodeAt vs i).kind = 1 ∧ v = .iface 101 (.agg #[])) ∨
    ((nodeAt vs i).kind = 2 ∧ v = .iface 79 (.agg #[.int .i64 (nodeAt vs i).n])) ∨
    ((nodeAt vs i).kind = 3 ∧ v = .iface 81 (.agg #[.int .i64 (nodeAt vs i).n])) ∨
    ((nodeAt vs i).kind = 4 ∧ v = .iface 83 (.agg #[.string (nodeAt vs i).s])) ∨
    ((nodeAt vs i).kind = 5 ∧ ∃ it, v = .iface 97 (.agg #[it]) ∧ ItemsAt lo B w it (nodeAt vs i).kids.length (fun j u => ValIs lo B w vs f (intAt (nodeAt vs i).kids j).toNat u)) ∨
    ((nodeAt vs i).kind = 6 ∧ ∃ ks it, v = .iface 99 (.agg #[ks, it]) ∧ StrsAt lo w ks (nodeAt vs i).keys ∧ ItemsAt lo B w it (nodeAt vs i).kids.length (fun j u => ValIs lo B w vs f (intAt (nodeAt vs i).kids j).toNat u))

theorem ValIs.iface {lo B : Nat} {w : World} {vs : List VN} {f i : Nat} {v : Value} (h : ValIs lo B w vs f i v) : ∃ t x, v = .iface t x := by
  cases f with
  | zero => exact h.elim
  | succ f =>
    rcases h with ⟨_, rfl⟩ | ⟨_, rfl⟩ | ⟨_, rfl⟩ | ⟨_, rfl⟩ | ⟨_, it, rfl, _⟩ | ⟨_, ks, it, rfl, _⟩ <;> exact ⟨_, _, rfl⟩

/-- All blocks below B but lo are as they were. -/
def Keep (lo B : Nat) (w w' : World) : Prop := ∀ k, k ≠ lo → k < B → w'.heap[k]? = w.heap[k]?

theorem Keep.of_below {lo B : Nat} {w w' : World} (h : Below B w w') : Keep lo B w w' := fun k _ hk => h.block k hk
theorem Keep.setCell {lo B o : Nat} (w : World) (v : Value) : Keep lo B w (w.setCell ⟨lo, o, none⟩ v) := fun k hk _ => Below.heap_setCell w _ v k hk
theorem Keep.trans {lo B : Nat} {a b c : World} (h : Keep lo B a b) (k : Keep lo B b c) : Keep lo B a c := fun i h1 h2 => (k i h1 h2).trans (h i h1 h2)
theorem Keep.cell {lo B : Nat} {w w' : World} (h : Keep lo B w w') {b o : Nat} (h1 : b ≠ lo) (h2 : b < B) : w'.cell? ⟨b, o, none⟩ = w.cell? ⟨b, o, none⟩ := by
  unfold World.cell?
  rw [show w'.heap[(⟨b, o, none⟩ : Addr).block]? = w.heap[(⟨b, o, none⟩ : Addr).block]? from h b h1 h2]

theorem StrsAt.keep {lo B : Nat} {w w' : World} {v : Value} {l : List ByteArray} (h : StrsAt lo w v l) (hk : Keep lo B w w') (hB : lo ≤ B) : StrsAt lo w' v l := by
  obtain ⟨h1, h2, a, cap, e, h3⟩ := h
  refine ⟨h1, h2, a, cap, e, fun hl => ?_⟩
  obtain ⟨b, o, ea, hb, hc⟩ := h3 hl
  exact ⟨b, o, ea, hb, fun i hi => (hk.cell (by omega) (by omega)).trans (hc i hi)⟩

theorem ValIs.keep {lo B B' : Nat} {w w' : World} {vs : List VN} (hk : Keep lo B w w') (hB : B ≤ B') (hlo : lo ≤ B) : ∀ {f i : Nat} {v : Value}, ValIs lo B w vs f i v → ValIs lo B' w' vs f i v := by
  intro f
  induction f with
  | zero => intro i v h; exact h.elim
  | succ f ih =>
    intro i v h
    have hit : ∀ it, ItemsAt lo B w it (nodeAt vs i).kids.length (fun j u => ValIs lo B w vs f (intAt (nodeAt vs i).kids j).toNat u) → ItemsAt lo B' w' it (nodeAt vs i).kids.length (fun j u => ValIs lo B' w' vs f (intAt (nodeAt vs i).kids j).toNat u) := by
      rintro it ⟨a, cap, e, hx⟩
      refine ⟨a, cap, e, fun hn => ?_⟩
      obtain ⟨b, ea, h1, h2, h3⟩ := hx hn
      refine ⟨b, ea, h1, by omega, fun j hj => ?_⟩
      obtain ⟨t, x, hc, hv⟩ := h3 j hj
      exact ⟨t, x, (hk.cell (by omega) h2).trans hc, ih hv⟩
    rcases h with h | h | h | h | ⟨hk5, it, e, hi⟩ | ⟨hk6, ks, it, e, hs, hi⟩
    · exact Or.inl h
    · exact Or.inr (Or.inl h)
    · exact Or.inr (Or.inr (Or.inl h))
    · exact Or.inr (Or.inr (Or.inr (Or.inl h)))
    · exact Or.inr (Or.inr (Or.inr (Or.inr (Or.inl ⟨hk5, it, e, hit it hi⟩))))
    · exact Or.inr (Or.inr (Or.inr (Or.inr (Or.inr ⟨hk6, ks, it, e, hs.keep hk hlo, hit it hi⟩))))

theorem ValIs.more {lo B : Nat} {w : World} {vs : List VN} : ∀ {f g i : Nat} {v : Value}, f ≤ g → ValIs lo B w vs f i v → ValIs lo B w vs g i v := by
  intro f
  induction f with
  | zero => intro g i v _ h; exact h.elim
  | succ f ih =>
    intro g i v hfg h
    match g, hfg with
    | g + 1, hfg =>
      have hit : ∀ it, ItemsAt lo B w it (nodeAt vs i).kids.length (fun j u => ValIs lo B w vs f (intAt (nodeAt vs i).kids j).toNat u) → ItemsAt lo B w it (nodeAt vs i).kids.length (fun j u => ValIs lo B w vs g (intAt (nodeAt vs i).kids j).toNat u) := by
        rintro it ⟨a, cap, e, hx⟩
        refine ⟨a, cap, e, fun hn => ?_⟩
        obtain ⟨b, ea, h1, h2, h3⟩ := hx hn
        refine ⟨b, ea, h1, h2, fun j hj => ?_⟩
        obtain ⟨t, x, hc, hv⟩ := h3 j hj
        exact ⟨t, x, hc, ih (by omega) hv⟩
      rcases h with h | h | h | h | ⟨hk5, it, e, hi⟩ | ⟨hk6, ks, it, e, hs, hi⟩
      · exact Or.inl h
      · exact Or.inr (Or.inl h)
      · exact Or.inr (Or.inr (Or.inl h))
      · exact Or.inr (Or.inr (Or.inr (Or.inl h)))
      · exact Or.inr (Or.inr (Or.inr (Or.inr (Or.inl ⟨hk5, it, e, hit it hi⟩))))
      · exact Or.inr (Or.inr (Or.inr (Or.inr (Or.inr ⟨hk6, ks, it, e, hs, hit it hi⟩))))

theorem infoVal : (Tryd.prog.info? 44).map (fun i => (i.zero, i.size, i.bytes)) = some (some .nilIface, 1, 16) := by kernel_rfl

def fillI (VV : Nat → Value) (k j : Nat) : Value := if j < k then VV j else .nilIface
theorem fillI_step {w : World} {b t n k : Nat} {VV : Nat → Value} {v : Value} (h : w.rowIs b t n (fillI VV k)) : (w.setCell ⟨b, k, none⟩ v).rowIs b t n (fillI (fun j => if j = k then v else VV j) (k + 1)) := by
  refine (h.set k _).congr fun i _ => ?_
  unfold fillI
  by_cases e : i = k
  · subst e; rw [if_pos rfl, if_pos (by omega)]; simp
  · rw [if_neg e]; by_cases g : i < k
    · rw [if_pos g, if_pos (by omega)]; simp [e]
    · rw [if_neg g, if_neg (by omega)]

theorem kidsIn_get {vs : List VN} {i j : Nat} (h : kidsIn vs i = true) (hj : j < (nodeAt vs i).kids.length) : 0 ≤ intAt (nodeAt vs i).kids j ∧ intAt (nodeAt vs i).kids j ≤ (i : Int) - 1 := by
  unfold kidsIn at h
  rw [List.all_eq_true] at h
  have := h (intAt (nodeAt vs i).kids j) (by unfold kidsOf; rw [intAt_get hj]; exact List.getElem_mem _)
  simpa using this

theorem fold_len {T : Nat → Option (Nat × Nat)} (hT : ∀ m p, T m = some p → p.1 ≤ m) : ∀ (l : List Int) (b h : Nat) (q : Nat × Nat), l.foldl (stepKid T) (some (b, h)) = some q → l.length ≤ b := by
  intro l
  induction l with
  | nil => intro b h q _; exact Nat.zero_le _
  | cons k l ih =>
    intro b h q e
    obtain ⟨p, h1, _, h3, h4⟩ := fold_cons_some e
    have := ih _ _ _ h4
    have := hT _ _ h3
    simp only [List.length_cons]
    omega

theorem tr_len {K : Nat → List Int} {n : Nat} {p : Nat × Nat} (e : tr K n = some p) : (K n).length ≤ n := by
  rw [tr_eq] at e
  cases hf : (K n).reverse.foldl (stepKid (tr K)) (some (n, 0)) with
  | none => simp [hf] at e
  | some q => have := fold_len (fun m p hp => tr_le hp) _ _ _ _ hf; simpa using this

/-- What right nodes are good for. -/
theorem okB_parts {vs : List VN} (h : okB vs = true) : (1 ≤ vs.length ∧ vs.length ≤ 80) ∧ (∀ k, k < vs.length → nodeB (nodeAt vs k) = true ∧ kidsIn vs k = true) ∧ (∀ k, k < vs.length → ∃ p, tr (kidsOf vs) k = some p) ∧ (∀ k, k < vs.length → (nodeAt vs k).kids.length ≤ k) := by
  have ht := okB_eq vs
  rw [h] at ht
  unfold okB sizeB at h
  unfold tabB at ht
  simp only [Bool.and_eq_true, List.all_eq_true, List.mem_range, decide_eq_true_eq] at h ht
  obtain ⟨⟨h1, h2⟩, h3⟩ := h
  have hs : ∀ k, k < vs.length → ∃ p, tr (kidsOf vs) k = some p := fun k hk => Option.isSome_iff_exists.1 (ht.2.1 k hk)
  exact ⟨h1, h2, hs, fun k hk => by obtain ⟨p, hp⟩ := hs k hk; exact tr_len hp⟩

/-- Own rows as items. -/
theorem items_of_own {lo base e n : Nat} {w : World} {it : Value} {f : Nat → Value} {P : Nat → Value → Prop} (h : w.ownsRow base e 1 it n ((List.range n).map f)) (hlo : lo < base) (hP : ∀ j, j < n → ∃ t x, f j = .iface t x ∧ P j (.iface t x)) : ItemsAt lo w.heap.size w it n P := by
  obtain ⟨_, h⟩ := h
  rcases h with ⟨rfl, rfl⟩ | ⟨g, cap, cur, rfl, hb, hg, hn, _, hsz, htk⟩
  · exact ⟨none, 0, rfl, fun h => absurd h (by omega)⟩
  · refine ⟨_, cap, rfl, fun hpos => ⟨g, rfl, by omega, (Array.getElem?_eq_some_iff.1 hg).1, fun j hj => ?_⟩⟩
    obtain ⟨t, x, hf, hp⟩ := hP j hj
    refine ⟨t, x, ?_, hp⟩
    have h1 : (cur.toList.take (n * 1))[j]? = some (f j) := by rw [htk]; simp [hj]
    rw [List.getElem?_take_of_lt (by omega), Array.getElem?_toList] at h1
    simp [World.cell?, hg, h1, hf]
end Go.Proofs.YtgmnihofkpjboaaDoor
