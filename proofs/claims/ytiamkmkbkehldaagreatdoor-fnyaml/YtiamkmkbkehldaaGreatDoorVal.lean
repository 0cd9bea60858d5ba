/-
  The functions that copy numbers, texts and nodes into new memory: what they hand back lies in new blocks and holds what came in.
-/
import Derived.Test.YtiamkmkbkehldaaGreatDoorPhase
import Derived.Test.YtiamkmkbkehldaaGreatDoorProg
import Derived.Deep.OwnRows
import Derived.KernelRfl
import Derived.Test.YtiamkmkbkehldaaGreatDoorSpc3
import Derived.RangeFuncBox
namespace Go.Proofs.YtiamkmkbkehldaaGreatDoor
open Go.RowKit
set_option linter.unusedSimpArgs false
set_option linter.unusedVariables false

theorem infoInt : (Tryz.prog.info? 2).map (fun i => (i.zero, i.size, i.bytes)) = some (some (.int .i64 0), 1, 8) := by kernel_rfl
theorem infoStr : (Tryz.prog.info? 9).map (fun i => (i.zero, i.size, i.bytes)) = some (some (.string ByteArray.empty), 1, 16) := by kernel_rfl

theorem rowIs_below {B b t n : Nat} {w w' : World} {f : Nat → Value} (h : w.rowIs b t n f) (hb : Below B w w') (hB : b < B) : w'.rowIs b t n f := h.of_block (hb.block b hB)

/-! ### All nodes -/
def zeroNode : Value := .agg #[.int .i64 0, .int .i64 0, .string ByteArray.empty, .slice none 0 0, .slice none 0 0]
theorem infoNode : (Tryz.prog.info? 73).map (fun i => (i.zero, i.size, i.bytes)) = some (some zeroNode, 5, 80) := by kernel_rfl

def nodeCell (vs : List VN) (KB KI : Nat → Nat) (j : Nat) : Value :=
  if j % 5 = 0 then .int .i64 (nodeAt vs (j / 5)).kind
  else if j % 5 = 1 then .int .i64 (nodeAt vs (j / 5)).n
  else if j % 5 = 2 then .string (nodeAt vs (j / 5)).s
  else if j % 5 = 3 then .slice (some ⟨KB (j / 5), 0, none⟩) (nodeAt vs (j / 5)).keys.length (nodeAt vs (j / 5)).keys.length
  else .slice (some ⟨KI (j / 5), 0, none⟩) (nodeAt vs (j / 5)).kids.length (nodeAt vs (j / 5)).kids.length

theorem nodeCell0 (vs : List VN) (KB KI : Nat → Nat) (i : Nat) : nodeCell vs KB KI (i * 5) = .int .i64 (nodeAt vs i).kind := by
  unfold nodeCell
  rw [if_pos (by omega), show i * 5 / 5 = i by omega]
theorem nodeCell1 (vs : List VN) (KB KI : Nat → Nat) (i : Nat) : nodeCell vs KB KI (i * 5 + 1) = .int .i64 (nodeAt vs i).n := by
  unfold nodeCell
  rw [if_neg (by omega), if_pos (by omega), show (i * 5 + 1) / 5 = i by omega]
theorem nodeCell2 (vs : List VN) (KB KI : Nat → Nat) (i : Nat) : nodeCell vs KB KI (i * 5 + 2) = .string (nodeAt vs i).s := by
  unfold nodeCell
  rw [if_neg (by omega), if_neg (by omega), if_pos (by omega), show (i * 5 + 2) / 5 = i by omega]
theorem nodeCell3 (vs : List VN) (KB KI : Nat → Nat) (i : Nat) : nodeCell vs KB KI (i * 5 + 3) = .slice (some ⟨KB i, 0, none⟩) (nodeAt vs i).keys.length (nodeAt vs i).keys.length := by
  unfold nodeCell
  rw [if_neg (by omega), if_neg (by omega), if_neg (by omega), if_pos (by omega), show (i * 5 + 3) / 5 = i by omega]
theorem nodeCell4 (vs : List VN) (KB KI : Nat → Nat) (i : Nat) : nodeCell vs KB KI (i * 5 + 4) = .slice (some ⟨KI i, 0, none⟩) (nodeAt vs i).kids.length (nodeAt vs i).kids.length := by
  unfold nodeCell
  rw [if_neg (by omega), if_neg (by omega), if_neg (by omega), if_neg (by omega), show (i * 5 + 4) / 5 = i by omega]

/-- Nodes that lie in new memory from block b on: their row, and the rows of their keys and kids, all apart. 'k': so many are there. -/
structure OwnTo (w : World) (b : Nat) (vs : List VN) (KB KI : Nat → Nat) (k : Nat) : Prop where
  lo : ∀ i, i < k → b < KB i ∧ KB i < KI i
  rk : ∀ i, i < k → w.rowIs (KB i) 9 (nodeAt vs i).keys.length (fun j => .string (keyAt (nodeAt vs i).keys j))
  ri : ∀ i, i < k → w.rowIs (KI i) 2 (nodeAt vs i).kids.length (fun j => .int .i64 (intAt (nodeAt vs i).kids j))
  mono : ∀ i j, i < j → j < k → KI i < KB j

structure OwnAt (w : World) (b : Nat) (vs : List VN) (KB KI : Nat → Nat) : Prop where
  row : w.rowIs b 73 (vs.length * 5) (nodeCell vs KB KI)
  to : OwnTo w b vs KB KI vs.length

theorem OwnTo.below {w w' : World} {b k : Nat} {vs : List VN} {KB KI : Nat → Nat} (h : OwnTo w b vs KB KI k) (hb : Below w.heap.size w w') : OwnTo w' b vs KB KI k :=
  ⟨h.lo, fun i hi => rowIs_below (h.rk i hi) hb (h.rk i hi).lt, fun i hi => rowIs_below (h.ri i hi) hb (h.ri i hi).lt, h.mono⟩

theorem OwnAt.below {w w' : World} {b : Nat} {vs : List VN} {KB KI : Nat → Nat} (h : OwnAt w b vs KB KI) (hb : Below w.heap.size w w') : OwnAt w' b vs KB KI :=
  ⟨rowIs_below h.row hb h.row.lt, h.to.below hb⟩

theorem OwnTo.set {w : World} {b k o : Nat} {v : Value} {vs : List VN} {KB KI : Nat → Nat} (h : OwnTo w b vs KB KI k) : OwnTo (w.setCell ⟨b, o, none⟩ v) b vs KB KI k :=
  ⟨h.lo, fun i hi => (h.rk i hi).setOther (by have := h.lo i hi; simp; omega) _, fun i hi => (h.ri i hi).setOther (by have := h.lo i hi; simp; omega) _, h.mono⟩

theorem OwnTo.step {w : World} {b k bk bi : Nat} {vs : List VN} {KB KI : Nat → Nat} (h : OwnTo w b vs KB KI k) (h1 : b < bk) (h2 : bk < bi) (h3 : ∀ i, i < k → KI i < bk)
    (r1 : w.rowIs bk 9 (nodeAt vs k).keys.length (fun j => .string (keyAt (nodeAt vs k).keys j))) (r2 : w.rowIs bi 2 (nodeAt vs k).kids.length (fun j => .int .i64 (intAt (nodeAt vs k).kids j))) :
    OwnTo w b vs (fun i => if i = k then bk else KB i) (fun i => if i = k then bi else KI i) (k + 1) := by
  refine ⟨fun i hi => ?_, fun i hi => ?_, fun i hi => ?_, fun i j hij hj => ?_⟩
  · by_cases e : i = k
    · simp only [if_pos e]; exact ⟨h1, h2⟩
    · simp only [if_neg e]; exact h.lo i (by omega)
  · by_cases e : i = k
    · subst e; simp only [if_true]; exact r1
    · simp only [if_neg e]; exact h.rk i (by omega)
  · by_cases e : i = k
    · subst e; simp only [if_true]; exact r2
    · simp only [if_neg e]; exact h.ri i (by omega)
  · simp only [if_neg (show ¬ i = k by omega)]
    by_cases e : j = k
    · simp only [if_pos e]; exact h3 i (by omega)
    · simp only [if_neg e]; exact h.mono i j hij (by omega)

theorem rowStrs {w : World} {b : Nat} {l : List ByteArray} (h : w.rowIs b 9 l.length (fun j => .string (keyAt l j))) (h1 : l.length ≤ 8796093022208) (h2 : ∀ i, i < l.length → (keyAt l i).size ≤ 140737488355328) (B : Nat) (hB : b < B) :
    StrsAt B w (.slice (some ⟨b, 0, none⟩) l.length l.length) l :=
  ⟨h1, h2, _, _, rfl, fun _ => ⟨b, 0, rfl, hB, fun i hi => by rw [Nat.zero_add]; exact h.cell hi⟩⟩

theorem rowInts {w : World} {b : Nat} {l : List Int} (h : w.rowIs b 2 l.length (fun j => .int .i64 (intAt l j))) (h1 : l.length ≤ 17592186044416) (h2 : ∀ i, i < l.length → -9223372036854775808 ≤ intAt l i ∧ intAt l i ≤ 9223372036854775807) (B : Nat) (hB : b < B) :
    IntsAt B w (.slice (some ⟨b, 0, none⟩) l.length l.length) l :=
  ⟨h1, h2, _, _, rfl, fun _ => ⟨b, 0, rfl, hB, fun i hi => by rw [Nat.zero_add]; exact h.cell hi⟩⟩

theorem OwnAt.nodes {w : World} {b : Nat} {vs : List VN} {KB KI : Nat → Nat} (h : OwnAt w b vs KB KI) (hn : vs.length ≤ 1759218604416) (hf : ∀ i, i < vs.length → Fits (nodeAt vs i)) :
    NodesAt w.heap.size w (.slice (some ⟨b, 0, none⟩) vs.length vs.length) vs := by
  refine ⟨hn, _, _, rfl, fun _ => ⟨b, 0, rfl, h.row.lt, fun i hi => ⟨.slice (some ⟨KB i, 0, none⟩) (nodeAt vs i).keys.length (nodeAt vs i).keys.length, .slice (some ⟨KI i, 0, none⟩) (nodeAt vs i).kids.length (nodeAt vs i).kids.length, ?_⟩⟩⟩
  have f := hf i hi
  rw [Nat.zero_add]
  refine ⟨?_, ?_, ?_, ?_, ?_, ⟨rowStrs (h.to.rk i hi) f.keysN f.keysS _ (h.to.rk i hi).lt, rowInts (h.to.ri i hi) f.kidsN f.kidsB _ (h.to.ri i hi).lt, f.size, f.klo, f.khi, f.nlo, f.nhi⟩⟩
  · rw [h.row.cell (by omega), nodeCell0]
  · rw [h.row.cell (by omega), nodeCell1]
  · rw [h.row.cell (by omega), nodeCell2]
  · rw [h.row.cell (by omega), nodeCell3]
  · rw [h.row.cell (by omega), nodeCell4]

end Go.Proofs.YtiamkmkbkehldaaGreatDoor

/-
  How the values behind the interface lie in memory: the value of a node of right nodes, its parts in rows of new blocks.
-/
namespace Go.Proofs.YtiamkmkbkehldaaGreatDoor
open Go.RowKit
set_option linter.unusedSimpArgs false
set_option linter.unusedVariables false

def ItemsAt (lo B : Nat) (w : World) (it : Value) (n : Nat) (P : Nat → Value → Prop) : Prop :=
  ∃ a cap, it = .slice a n cap ∧ (0 < n → ∃ b, a = some ⟨b, 0, none⟩ ∧ lo < b ∧ b < B ∧ ∀ j, j < n → ∃ t x, w.cell? ⟨b, j, none⟩ = some (.iface t x) ∧ P j (.iface t x))

/-- The value of node i. Its rows lie between the blocks lo and B, its keys below lo. -/
def ValIs (lo B : Nat) (w : World) (vs : List VN) : Nat → Nat → Value → Prop
  | 0, _, _ => False
  | f + 1, i, v =>
    ((nodeAt vs i).kind = 1 ∧ v = .iface 170 (.agg #[])) ∨
    ((nodeAt vs i).kind = 2 ∧ v = .iface 163 (.agg #[.int .i64 (nodeAt vs i).n])) ∨
    ((nodeAt vs i).kind = 3 ∧ v = .iface 164 (.agg #[.int .i64 (nodeAt vs i).n])) ∨
    ((nodeAt vs i).kind = 4 ∧ v = .iface 110 (.agg #[.string (nodeAt vs i).s])) ∨
    ((nodeAt vs i).kind = 5 ∧ ∃ it, v = .iface 174 (.agg #[it]) ∧ ItemsAt lo B w it (nodeAt vs i).kids.length (fun j u => ValIs lo B w vs f (intAt (nodeAt vs i).kids j).toNat u)) ∨
    ((nodeAt vs i).kind = 6 ∧ ∃ ks it, v = .iface 119 (.agg #[ks, it]) ∧ StrsAt lo w ks (nodeAt vs i).keys ∧ ItemsAt lo B w it (nodeAt vs i).kids.length (fun j u => ValIs lo B w vs f (intAt (nodeAt vs i).kids j).toNat u))

theorem ValIs.iface {lo B : Nat} {w : World} {vs : List VN} {f i : Nat} {v : Value} (h : ValIs lo B w vs f i v) : ∃ t x, v = .iface t x := by
  cases f with
  | zero => exact h.elim
  | succ f =>
    rcases h with ⟨_, rfl⟩ | ⟨_, rfl⟩ | ⟨_, rfl⟩ | ⟨_, rfl⟩ | ⟨_, it, rfl, _⟩ | ⟨_, ks, it, rfl, _⟩ <;> exact ⟨_, _, rfl⟩

/-- All blocks below B but lo are as they were. -/
def Keep (lo B : Nat) (w w' : World) : Prop := ∀ k, k ≠ lo → k < B → w'.heap[k]? = w.heap[k]?

theorem Keep.of_below {lo B : Nat} {w w' : World} (h : Below B w w') : Keep lo B w w' := fun k _ hk => h.block k hk
theorem Keep.setCell {lo B o : Nat} (w : World) (v : Value) : Keep lo B w (w.setCell ⟨lo, o, none⟩ v) := fun k hk _ => Below.heap_setCell w _ v k hk
theorem Keep.trans {lo B : Nat} {a b c : World} (h : Keep lo B a b) (k : Keep lo B b c) : Keep lo B a c := fun i h1 h2 => (k i h1 h2).trans (h i h1 h2)
theorem Keep.cell {lo B : Nat} {w w' : World} (h : Keep lo B w w') {b o : Nat} (h1 : b ≠ lo) (h2 : b < B) : w'.cell? ⟨b, o, none⟩ = w.cell? ⟨b, o, none⟩ := by
  unfold World.cell?
  rw [show w'.heap[(⟨b, o, none⟩ : Addr).block]? = w.heap[(⟨b, o, none⟩ : Addr).block]? from h b h1 h2]

theorem StrsAt.keep {lo B : Nat} {w w' : World} {v : Value} {l : List ByteArray} (h : StrsAt lo w v l) (hk : Keep lo B w w') (hB : lo ≤ B) : StrsAt lo w' v l := by
  obtain ⟨h1, h2, a, cap, e, h3⟩ := h
  refine ⟨h1, h2, a, cap, e, fun hl => ?_⟩
  obtain ⟨b, o, ea, hb, hc⟩ := h3 hl
  exact ⟨b, o, ea, hb, fun i hi => (hk.cell (by omega) (by omega)).trans (hc i hi)⟩

theorem ValIs.keep {lo B B' : Nat} {w w' : World} {vs : List VN} (hk : Keep lo B w w') (hB : B ≤ B') (hlo : lo ≤ B) : ∀ {f i : Nat} {v : Value}, ValIs lo B w vs f i v → ValIs lo B' w' vs f i v := by
  intro f
  induction f with
  | zero => intro i v h; exact h.elim
  | succ f ih =>
    intro i v h
    have hit : ∀ it, ItemsAt lo B w it (nodeAt vs i).kids.length (fun j u => ValIs lo B w vs f (intAt (nodeAt vs i).kids j).toNat u) → ItemsAt lo B' w' it (nodeAt vs i).kids.length (fun j u => ValIs lo B' w' vs f (intAt (nodeAt vs i).kids j).toNat u) := by
      rintro it ⟨a, cap, e, hx⟩
      refine ⟨a, cap, e, fun hn => ?_⟩
      obtain ⟨b, ea, h1, h2, h3⟩ := hx hn
      refine ⟨b, ea, h1, by omega, fun j hj => ?_⟩
      obtain ⟨t, x, hc, hv⟩ := h3 j hj
      exact ⟨t, x, (hk.cell (by omega) h2).trans hc, ih hv⟩
    rcases h with h | h | h | h | ⟨hk5, it, e, hi⟩ | ⟨hk6, ks, it, e, hs, hi⟩
    · exact Or.inl h
    · exact Or.inr (Or.inl h)
    · exact Or.inr (Or.inr (Or.inl h))
    · exact Or.inr (Or.inr (Or.inr (Or.inl h)))
    · exact Or.inr (Or.inr (Or.inr (Or.inr (Or.inl ⟨hk5, it, e, hit it hi⟩))))
    · exact Or.inr (Or.inr (Or.inr (Or.inr (Or.inr ⟨hk6, ks, it, e, hs.keep hk hlo, hit it hi⟩))))

theorem ValIs.more {lo B : Nat} {w : World} {vs : List VN} : ∀ {f g i : Nat} {v : Value}, f ≤ g → ValIs lo B w vs f i v → ValIs lo B w vs g i v := by
  intro f
  induction f with
  | zero => intro g i v _ h; exact h.elim
  | succ f ih =>
    intro g i v hfg h
    match g, hfg with
    | g + 1, hfg =>
      have hit : ∀ it, ItemsAt lo B w it (nodeAt vs i).kids.length (fun j u => ValIs lo B w vs f (intAt (nodeAt vs i).kids j).toNat u) → ItemsAt lo B w it (nodeAt vs i).kids.length (fun j u => ValIs lo B w vs g (intAt (nodeAt vs i).kids j).toNat u) := by
        rintro it ⟨a, cap, e, hx⟩
        refine ⟨a, cap, e, fun hn => ?_⟩
        obtain ⟨b, ea, h1, h2, h3⟩ := hx hn
        refine ⟨b, ea, h1, h2, fun j hj => ?_⟩
        obtain ⟨t, x, hc, hv⟩ := h3 j hj
        exact ⟨t, x, hc, ih (by omega) hv⟩
      rcases h with h | h | h | h | ⟨hk5, it, e, hi⟩ | ⟨hk6, ks, it, e, hs, hi⟩
      · exact Or.inl h
      · exact Or.inr (Or.inl h)
      · exact Or.inr (Or.inr (Or.inl h))
      · exact Or.inr (Or.inr (Or.inr (Or.inl h)))
      · exact Or.inr (Or.inr (Or.inr (Or.inr (Or.inl ⟨hk5, it, e, hit it hi⟩))))
      · exact Or.inr (Or.inr (Or.inr (Or.inr (Or.inr ⟨hk6, ks, it, e, hs, hit it hi⟩))))

theorem infoVal : (Tryz.prog.info? 45).map (fun i => (i.zero, i.size, i.bytes)) = some (some .nilIface, 1, 16) := by kernel_rfl

def fillI (VV : Nat → Value) (k j : Nat) : Value := if j < k then VV j else .nilIface
theorem fillI_step {w : World} {b t n k : Nat} {VV : Nat → Value} {v : Value} (h : w.rowIs b t n (fillI VV k)) : (w.setCell ⟨b, k, none⟩ v).rowIs b t n (fillI (fun j => if j = k then v else VV j) (k + 1)) := by
  refine (h.set k _).congr fun i _ => ?_
  unfold fillI
  by_cases e : i = k
  · subst e; rw [if_pos rfl, if_pos (by omega)]; simp
  · rw [if_neg e]; by_cases g : i < k
    · rw [if_pos g, if_pos (by omega)]; simp [e]
    · rw [if_neg g, if_neg (by omega)]

theorem kidsIn_get {vs : List VN} {i j : Nat} (h : kidsIn vs i = true) (hj : j < (nodeAt vs i).kids.length) : 0 ≤ intAt (nodeAt vs i).kids j ∧ intAt (nodeAt vs i).kids j ≤ (i : Int) - 1 := by
  unfold kidsIn at h
  rw [List.all_eq_true] at h
  have := h (intAt (nodeAt vs i).kids j) (by unfold kidsOf; rw [intAt_get hj]; exact List.getElem_mem _)
  simpa using this

theorem fold_len {T : Nat → Option (Nat × Nat)} (hT : ∀ m p, T m = some p → p.1 ≤ m) : ∀ (l : List Int) (b h : Nat) (q : Nat × Nat), l.foldl (stepKid T) (some (b, h)) = some q → l.length ≤ b := by
  intro l
  induction l with
  | nil => intro b h q _; exact Nat.zero_le _
  | cons k l ih =>
    intro b h q e
    obtain ⟨p, h1, _, h3, h4⟩ := fold_cons_some e
    have := ih _ _ _ h4
    have := hT _ _ h3
    simp only [List.length_cons]
    omega

theorem tr_len {K : Nat → List Int} {n : Nat} {p : Nat × Nat} (e : tr K n = some p) : (K n).length ≤ n := by
  rw [tr_eq] at e
  cases hf : (K n).reverse.foldl (stepKid (tr K)) (some (n, 0)) with
  | none => simp [hf] at e
  | some q => have := fold_len (fun m p hp => tr_le hp) _ _ _ _ hf; simpa using this

/-- What right nodes are good for. -/
theorem okB_parts {vs : List VN} (h : okB vs = true) : (1 ≤ vs.length ∧ vs.length ≤ 80) ∧ (∀ k, k < vs.length → nodeB (nodeAt vs k) = true ∧ kidsIn vs k = true) ∧ (∀ k, k < vs.length → ∃ p, tr (kidsOf vs) k = some p) ∧ (∀ k, k < vs.length → (nodeAt vs k).kids.length ≤ k) := by
  have ht := okB_eq vs
  rw [h] at ht
  unfold okB sizeB at h
  unfold tabB at ht
  simp only [Bool.and_eq_true, List.all_eq_true, List.mem_range, decide_eq_true_eq] at h ht
  obtain ⟨⟨h1, h2⟩, h3⟩ := h
  have hs : ∀ k, k < vs.length → ∃ p, tr (kidsOf vs) k = some p := fun k hk => Option.isSome_iff_exists.1 (ht.2.1 k hk)
  exact ⟨h1, h2, hs, fun k hk => by obtain ⟨p, hp⟩ := hs k hk; exact tr_len hp⟩

/-- Own rows as items. -/
theorem items_of_own {lo base e n : Nat} {w : World} {it : Value} {f : Nat → Value} {P : Nat → Value → Prop} (h : w.ownsRow base e 1 it n ((List.range n).map f)) (hlo : lo < base) (hP : ∀ j, j < n → ∃ t x, f j = .iface t x ∧ P j (.iface t x)) : ItemsAt lo w.heap.size w it n P := by
  obtain ⟨_, h⟩ := h
  rcases h with ⟨rfl, rfl⟩ | ⟨g, cap, cur, rfl, hb, hg, hn, _, hsz, htk⟩
  · exact ⟨none, 0, rfl, fun h => absurd h (by omega)⟩
  · refine ⟨_, cap, rfl, fun hpos => ⟨g, rfl, by omega, (Array.getElem?_eq_some_iff.1 hg).1, fun j hj => ?_⟩⟩
    obtain ⟨t, x, hf, hp⟩ := hP j hj
    refine ⟨t, x, ?_, hp⟩
    have h1 : (cur.toList.take (n * 1))[j]? = some (f j) := by rw [htk]; simp [hj]
    rw [List.getElem?_take_of_lt (by omega), Array.getElem?_toList] at h1
    simp [World.cell?, hg, h1, hf]
end Go.Proofs.YtiamkmkbkehldaaGreatDoor
