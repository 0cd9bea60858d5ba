/-
  The paths of a value, node by node. Plain mathematics.
-/
import Derived.Test.YtbclgogolimbgaaStepN
import Derived.Test.YtbclgogolimbgaaSParts
import Derived.Test.YtbclgogolimbgaaTree
import Derived.Test.YtbclgogolimbgaaWn5
import Derived.Test.YtbclgogolimbgaaSortP
import Derived.Test.YtbclgogolimbgaaProg
import Derived.Deep.QuietTactic
import Derived.BigQuiet
import Derived.WalkSmall
namespace Go.Proofs.Ytbclgogolimbgaa
open Go.RowKit
set_option linter.unusedSimpArgs false
set_option linter.unusedVariables false

/-- The step to part i. -/
def stepOf (kind : Int) (keys : List ByteArray) (i : Nat) : PS := if kind = 6 then ⟨true, keyAt keys i, 0⟩ else ⟨false, ByteArray.empty, (i : Int)⟩

def pathsN (vs : List VN) : Nat → Nat → List PS → List (List PS)
  | 0, _, _ => []
  | f + 1, n, head => head :: (List.range (nodeAt vs n).kids.length).flatMap fun i => pathsN vs f (intAt (nodeAt vs n).kids i).toNat (head ++ [stepOf (nodeAt vs n).kind (nodeAt vs n).keys i])

/-- With the paths of the first k parts. -/
def pathsTo (vs : List VN) (f n : Nat) (head : List PS) (k : Nat) : List (List PS) :=
  head :: (List.range k).flatMap fun i => pathsN vs f (intAt (nodeAt vs n).kids i).toNat (head ++ [stepOf (nodeAt vs n).kind (nodeAt vs n).keys i])

theorem pathsTo_zero (vs : List VN) (f n : Nat) (head : List PS) : pathsTo vs f n head 0 = [head] := by simp [pathsTo]
theorem pathsTo_succ (vs : List VN) (f n : Nat) (head : List PS) (k : Nat) : pathsTo vs f n head (k + 1) = pathsTo vs f n head k ++ pathsN vs f (intAt (nodeAt vs n).kids k).toNat (head ++ [stepOf (nodeAt vs n).kind (nodeAt vs n).keys k]) := by
  unfold pathsTo; rw [List.range_succ, List.flatMap_append]; simp
theorem pathsN_eq (vs : List VN) (f n : Nat) (head : List PS) : pathsN vs (f + 1) n head = pathsTo vs f n head (nodeAt vs n).kids.length := rfl

theorem paths_len (vs : List VN) : ∀ (f n : Nat) (head : List PS) (sh : Nat), (pathsN vs f n head).length = (layT f (treeOf vs f n) sh).length := by
  intro f
  induction f with
  | zero => intro n head sh; rfl
  | succ f ih =>
    intro n head sh
    rw [pathsN_eq, treeOf, layT_eq, List.length_append, List.length_map]
    have key : ∀ k, k ≤ (nodeAt vs n).kids.length → (pathsTo vs f n head k).length = (accT f sh ((nodeAt vs n).kids.map fun k => treeOf vs f k.toNat) k).length + 1 := by
      intro k
      induction k with
      | zero => intro _; rw [pathsTo_zero, accT_zero]; rfl
      | succ k ihk =>
        intro hk
        rw [pathsTo_succ, List.length_append, ihk (by omega), accT_succ f sh (by rw [List.length_map]; omega), List.length_append, kidT_map (by omega), ih _ _ (sh + (accT f sh ((nodeAt vs n).kids.map fun k => treeOf vs f k.toNat) k).length)]
        omega
    rw [key _ (Nat.le_refl _)]
    rfl

theorem paths_le {vs : List VN} (hok : okB vs = true) {f n : Nat} (hf : n < f) (hn : n < vs.length) (head : List PS) : (pathsN vs f n head).length ≤ 80 := by
  rw [paths_len vs f n head 0, (lay_part hok hf hn).1]
  exact (lay_part hok hf hn).2

theorem pathsTo_le {vs : List VN} (f n : Nat) (head : List PS) {k : Nat} (hk : k ≤ (nodeAt vs n).kids.length) : (pathsTo vs f n head k).length ≤ (pathsN vs (f + 1) n head).length := by
  rw [pathsN_eq]
  obtain ⟨d, hd⟩ : ∃ d, (nodeAt vs n).kids.length = k + d := ⟨_, (Nat.add_sub_cancel' hk).symm⟩
  rw [hd]
  clear hd hk
  induction d with
  | zero => exact Nat.le_refl _
  | succ d ih => rw [← Nat.add_assoc, pathsTo_succ, List.length_append]; omega

/-- The rows' lengths, and what their steps hold. -/
def Short (m : Nat) (ps : List PS) : Prop := ps.length ≤ m ∧ ∀ i, i < ps.length → (stepAt ps i).key.size ≤ 1048576 ∧ -9223372036854775808 ≤ (stepAt ps i).pl ∧ (stepAt ps i).pl ≤ 9223372036854775807

theorem Short.snoc {m : Nat} {ps : List PS} (h : Short m ps) {x : PS} (hx : x.key.size ≤ 1048576 ∧ -9223372036854775808 ≤ x.pl ∧ x.pl ≤ 9223372036854775807) : Short (m + 1) (ps ++ [x]) := by
  refine ⟨by simp; exact h.1, fun i hi => ?_⟩
  by_cases e : i < ps.length
  · have : stepAt (ps ++ [x]) i = stepAt ps i := by unfold stepAt; rw [List.getD_eq_getElem?_getD, List.getD_eq_getElem?_getD, List.getElem?_append_left e]
    rw [this]; exact h.2 i e
  · have e2 : i = ps.length := by simp at hi; omega
    subst e2
    have : stepAt (ps ++ [x]) ps.length = x := by unfold stepAt; simp
    rw [this]; exact hx

theorem Short.wide {m m' : Nat} {ps : List PS} (h : Short m ps) (hm : m ≤ m') : Short m' ps := ⟨by have := h.1; omega, h.2⟩

theorem stepOf_short {vs : List VN} (hok : okB vs = true) {n i : Nat} (hn : n < vs.length) (hi : i < (nodeAt vs n).kids.length) : (stepOf (nodeAt vs n).kind (nodeAt vs n).keys i).key.size ≤ 1048576 ∧ -9223372036854775808 ≤ (stepOf (nodeAt vs n).kind (nodeAt vs n).keys i).pl ∧ (stepOf (nodeAt vs n).kind (nodeAt vs n).keys i).pl ≤ 9223372036854775807 := by
  have hk := (keys_few hok n hn).2.1
  have hnb := ((okB_parts hok).2.1 n hn).1
  unfold stepOf
  split
  · rename_i h6
    unfold nodeB namedB at hnb
    simp [h6] at hnb
    have hr := hnb.2.2
    unfold riseB at hr
    rw [List.all_eq_true] at hr
    have := hr i (List.mem_range.2 (by rw [hnb.2.1]; exact hi))
    unfold riseAt textB at this
    simp only [Bool.and_eq_true, decide_eq_true_eq] at this
    simp only
    omega
  · refine ⟨by simp, by simp only; omega, by simp only; omega⟩

theorem paths_short {vs : List VN} (hok : okB vs = true) : ∀ (f n m : Nat) (head : List PS), n < f → n < vs.length → Short m head → ∀ p ∈ pathsN vs f n head, Short (m + f) p := by
  intro f
  induction f with
  | zero => intro n m head hf; omega
  | succ f ih =>
    intro n m head hf hn hs p hp
    rw [pathsN] at hp
    rcases List.mem_cons.1 hp with rfl | hp
    · exact hs.wide (by omega)
    · obtain ⟨i, hi, hp⟩ := List.mem_flatMap.1 hp
      have hi' := List.mem_range.1 hi
      have hkin := kidsIn_get (keys_few hok n hn).1 hi'
      have := ih (intAt (nodeAt vs n).kids i).toNat (m + 1) _ (by omega) (by omega) (hs.snoc (stepOf_short hok hn hi')) p hp
      exact this.wide (by omega)
end Go.Proofs.Ytbclgogolimbgaa

/-
  Parts as pointers: how a tree of parts lies in memory, each part between two blocks, its rows its own. No walk.
-/
namespace Go.Proofs.Ytbclgogolimbgaa
open Go.RowKit
set_option linter.unusedSimpArgs false
set_option linter.unusedVariables false

/-- The blocks of one part itself. -/
def POwn (p : Nat) (ks it : Value) (x : Nat) : Prop := x = p ∨ ks.ownBlock = some x ∨ it.ownBlock = some x

/-- One part in block p: its value, its keys, its n parts; what those are, K says. -/
structure PNode (w : World) (lo hi : Nat) (sv : Value) (keys : List ByteArray) (n : Nat) (K : Nat → Nat → Nat → Value → Prop) (p : Nat) (ks it : Value) (ps : Nat → Value) (ls hs : Nat → Nat) : Prop where
  node : w.ownsRow lo 119 3 (.slice (some ⟨p, 0, none⟩) 1 1) 1 [sv, ks, it]
  keysR : w.ownsRow lo 9 1 ks keys.length (keys.map .string)
  kidsR : w.ownsRow lo 64 1 it n ((List.range n).map ps)
  top : ∀ x, POwn p ks it x → x < hi
  rng : ∀ j, j < n → lo ≤ ls j ∧ ls j ≤ hs j ∧ hs j ≤ hi
  out : ∀ j, j < n → ∀ x, POwn p ks it x → x < ls j ∨ hs j ≤ x
  ord : ∀ i j, i < j → j < n → hs i ≤ ls j
  kid : ∀ j, j < n → K j (ls j) (hs j) (ps j)

def PT (B : Nat) (w : World) : Nat → VT → Nat → Nat → Value → Prop
  | 0, _, _, _, _ => False
  | f + 1, .mk kind n s keys kids, lo, hi, v =>
    ∃ (sv : Value) (p : Nat) (ks it : Value) (ps : Nat → Value) (ls hs : Nat → Nat), v = .pointer (some ⟨p, 0, none⟩) ∧ TreeAt B w (f + 1) (.mk kind n s keys kids) sv ∧
      PNode w lo hi sv keys kids.length (fun j l h u => PT B w f (kidT kids j) l h u) p ks it ps ls hs

theorem own_same {w w' : World} {base e s n : Nat} {v : Value} {xs : List Value} (h : w.ownsRow base e s v n xs) (hb : ∀ x, v.ownBlock = some x → w'.heap[x]? = w.heap[x]?) : w'.ownsRow base e s v n xs := by
  refine ⟨h.1, ?_⟩
  rcases h.2 with hn | ⟨g, cap, cur, rfl, hg, hgg, rest⟩
  · exact .inl hn
  · exact .inr ⟨g, cap, cur, rfl, hg, (hb g rfl).trans hgg, rest⟩

theorem PNode.lt {w : World} {lo hi : Nat} {sv : Value} {keys : List ByteArray} {n : Nat} {K : Nat → Nat → Nat → Value → Prop} {p : Nat} {ks it : Value} {ps : Nat → Value} {ls hs : Nat → Nat} (h : PNode w lo hi sv keys n K p ks it ps ls hs) {x : Nat} (hx : POwn p ks it x) : lo ≤ x ∧ x < w.heap.size := by
  rcases hx with rfl | hx | hx
  · exact h.node.lt x rfl
  · exact h.keysR.lt x hx
  · exact h.kidsR.lt x hx

/-- The blocks between lo and hi, and those below B, are all that matters. -/
theorem PT.move {B : Nat} {w w' : World} (h1 : ∀ k, k < B → w'.heap[k]? = w.heap[k]?) : ∀ {f : Nat} {t : VT} {lo hi lo' hi' : Nat} {v : Value}, lo' ≤ lo → hi ≤ hi' → (∀ k, lo ≤ k → k < hi → w'.heap[k]? = w.heap[k]?) → PT B w f t lo hi v → PT B w' f t lo' hi' v := by
  intro f
  induction f with
  | zero => intro t lo hi lo' hi' v _ _ _ h; exact h.elim
  | succ f ih =>
    intro t lo hi lo' hi' v hl hh h2 h
    obtain ⟨kind, n, s, keys, kids⟩ := t
    obtain ⟨sv, p, ks, it, ps, ls, hs, e, ht, hp⟩ := h
    have hb : ∀ x, POwn p ks it x → w'.heap[x]? = w.heap[x]? := fun x hx => h2 x (hp.lt hx).1 (hp.top x hx)
    refine ⟨sv, p, ks, it, ps, ls, hs, e, TreeAt.keep h1 (Nat.le_refl _) ht, ⟨?_, ?_, ?_, fun x hx => Nat.lt_of_lt_of_le (hp.top x hx) hh, fun j hj => ?_, hp.out, hp.ord, fun j hj => ?_⟩⟩
    · exact own_mono (own_same hp.node (fun x hx => hb x (Or.inl (by simpa [Value.ownBlock] using hx.symm)))) hl
    · exact own_mono (own_same hp.keysR (fun x hx => hb x (Or.inr (Or.inl hx)))) hl
    · exact own_mono (own_same hp.kidsR (fun x hx => hb x (Or.inr (Or.inr hx)))) hl
    · have := hp.rng j hj; omega
    · have hr := hp.rng j hj
      exact ih (Nat.le_refl _) (Nat.le_refl _) (fun k h3 h4 => h2 k (by omega) (by omega)) (hp.kid j hj)

theorem PT.below {B : Nat} {w w' : World} {f : Nat} {t : VT} {lo hi : Nat} {v : Value} (h : PT B w f t lo hi v) (hb : Below w.heap.size w w') (hB : B ≤ w.heap.size) (hh : hi ≤ w.heap.size) : PT B w' f t lo hi v :=
  h.move (fun k hk => hb.block k (by omega)) (Nat.le_refl _) (Nat.le_refl _) (fun k _ hk => hb.block k (by omega))

theorem PT.more {B : Nat} {w : World} : ∀ {f g : Nat} {t : VT} {lo hi : Nat} {v : Value}, f ≤ g → PT B w f t lo hi v → PT B w g t lo hi v := by
  intro f
  induction f with
  | zero => intro g t lo hi v _ h; exact h.elim
  | succ f ih =>
    intro g t lo hi v hfg h
    match g, hfg with
    | g + 1, hfg =>
      obtain ⟨kind, n, s, keys, kids⟩ := t
      obtain ⟨sv, p, ks, it, ps, ls, hs, e, ht, hp⟩ := h
      exact ⟨sv, p, ks, it, ps, ls, hs, e, TreeAt.more hfg ht, hp.node, hp.keysR, hp.kidsR, hp.top, hp.rng, hp.out, hp.ord, fun j hj => ih (by omega) (hp.kid j hj)⟩

/-- One part more. -/
theorem PNode.snoc {B : Nat} {wr w1 w5 : World} {lo : Nat} {sv : Value} {keys : List ByteArray} {k f : Nat} {T : Nat → VT} {p : Nat} {ks it u : Value} {ps : Nat → Value} {ls hs : Nat → Nat} {o : Obj} {g cap : Nat}
    (h : PNode wr lo wr.heap.size sv keys k (fun j l h u => PT B wr f (T j) l h u) p ks it ps ls hs) (hB : B ≤ lo) (hlo : lo ≤ wr.heap.size) (hb : Below wr.heap.size wr w1) (hk : PT B w1 f (T k) wr.heap.size w1.heap.size u)
    (hown : w5.ownsRow lo 64 1 (.slice (some ⟨g, 0, none⟩) (k + 1) cap) (k + 1) ((List.range k).map ps ++ [u])) (hg : (w1.alloc o).grownBy w5 it.ownBlock) (hor : it.ownBlock = some g ∨ g = w1.heap.size + 1) :
    PNode (w5.setCell ⟨p, 2, none⟩ (.slice (some ⟨g, 0, none⟩) (k + 1) cap)) lo (w5.setCell ⟨p, 2, none⟩ (.slice (some ⟨g, 0, none⟩) (k + 1) cap)).heap.size sv keys (k + 1)
      (fun j l h u => PT B (w5.setCell ⟨p, 2, none⟩ (.slice (some ⟨g, 0, none⟩) (k + 1) cap)) f (T j) l h u) p ks (.slice (some ⟨g, 0, none⟩) (k + 1) cap) (updF ps k u) (updF ls k wr.heap.size) (updF hs k w1.heap.size) := by
  have hs1 := hb.size
  have hgs : w1.heap.size + 1 ≤ w5.heap.size := by simpa using hg.size
  have hpl := (h.lt (Or.inl rfl)).2
  have ane : it.ownBlock ≠ some p := fun e => by
    rcases own_apart h.kidsR h.node (by decide) with e2 | e2
    · rw [e2] at e; cases e
    · exact e2 (by rw [e]; rfl)
  have kp1 : ∀ c, c < w1.heap.size → it.ownBlock ≠ some c → w5.heap[c]? = w1.heap[c]? := fun c h1 h2 =>
    (hg.block c (by simp; omega) (fun e => h2 e.symm)).trans (Below.block ((Below.refl w1.heap.size w1).alloc (Nat.le_refl _) o) c h1)
  have kp : ∀ c, c < wr.heap.size → it.ownBlock ≠ some c → w5.heap[c]? = wr.heap[c]? := fun c h1 h2 => (kp1 c (by omega) h2).trans (hb.block c h1)
  have st : ∀ c, c ≠ p → (w5.setCell ⟨p, 2, none⟩ (.slice (some ⟨g, 0, none⟩) (k + 1) cap)).heap[c]? = w5.heap[c]? := fun c hc => Below.heap_setCell w5 _ _ c hc
  have hn5 : w5.ownsRow lo 119 3 (.slice (some ⟨p, 0, none⟩) 1 1) 1 [sv, ks, it] := own_same h.node (fun x hx => by
    have e : p = x := by simpa [Value.ownBlock] using hx
    subst e; exact kp p hpl ane)
  have hk5 : w5.ownsRow lo 9 1 ks keys.length (keys.map .string) := own_same h.keysR (fun x hx => kp x (h.lt (Or.inr (Or.inl hx))).2 (fun e => by
    rcases own_apart h.keysR h.kidsR (by decide) with e2 | e2
    · rw [e2] at hx; cases hx
    · exact e2 (hx.trans e.symm)))
  have hkl := h.keysR.lt
  have hil := h.kidsR.lt
  have hgl := (hown.lt g rfl).2
  have hgp : g ≠ p := by
    rintro rfl
    rcases own_apart hown hn5 (by decide) with e2 | e2
    · cases e2
    · exact e2 rfl
  have own' : ∀ x, POwn p ks (.slice (some ⟨g, 0, none⟩) (k + 1) cap) x → POwn p ks it x ∨ x = w1.heap.size + 1 := by
    rintro x (rfl | hx | hx)
    · exact Or.inl (Or.inl rfl)
    · exact Or.inl (Or.inr (Or.inl hx))
    · have e : g = x := by simpa [Value.ownBlock] using hx
      subst e
      rcases hor with e | e
      · exact Or.inl (Or.inr (Or.inr e))
      · exact Or.inr e
  refine ⟨?_, ?_, ?_, fun x hx => ?_, fun j hj => ?_, fun j hj x hx => ?_, fun i j hij hj => ?_, fun j hj => ?_⟩
  · have := (hn5.stored 2 (.slice (some ⟨g, 0, none⟩) (k + 1) cap)).1
    simpa using this
  · exact own_set hk5 _ (fun x hx e => by
      subst e
      rcases own_apart hk5 hn5 (by decide) with e2 | e2
      · rw [e2] at hx; cases hx
      · exact e2 (by rw [hx]; rfl))
  · rw [range_map_snoc]
    exact own_set hown _ (fun x hx e => by
      have e3 : g = x := by simpa [Value.ownBlock] using hx
      exact hgp (e3.trans e))
  · rw [World.size_setCell]
    rcases own' x hx with h1 | h1
    · have := h.lt h1; omega
    · rcases hx with rfl | hx | hx
      · omega
      · have := hkl x hx; omega
      · have e : g = x := by simpa [Value.ownBlock] using hx
        omega
  · rw [World.size_setCell]
    by_cases e : j = k
    · subst e; rw [updF_same, updF_same]; omega
    · rw [updF_other _ _ e, updF_other _ _ e]
      have := h.rng j (by omega)
      omega
  · by_cases e : j = k
    · subst e
      rw [updF_same, updF_same]
      rcases own' x hx with h1 | h1
      · have := h.lt h1; omega
      · omega
    · rw [updF_other _ _ e, updF_other _ _ e]
      have := h.rng j (by omega)
      rcases own' x hx with h1 | h1
      · exact h.out j (by omega) x h1
      · omega
  · by_cases e : j = k
    · subst e
      rw [updF_same, updF_other _ _ (by omega)]
      have := h.rng i (by omega)
      omega
    · rw [updF_other _ _ e, updF_other _ _ (by omega)]
      exact h.ord i j hij (by omega)
  · by_cases e : j = k
    · subst e
      rw [updF_same, updF_same, updF_same]
      refine hk.move (fun c hc => ?_) (Nat.le_refl _) (Nat.le_refl _) (fun c h1 h2 => ?_)
      · exact (st c (by have := (h.lt (Or.inl rfl)).1; omega)).trans (kp1 c (by omega) (fun e => by have := hil c e; omega))
      · exact (st c (by omega)).trans (kp1 c h2 (fun e => by have := hil c e; omega))
    · rw [updF_other _ _ e, updF_other _ _ e, updF_other _ _ e]
      have hr := h.rng j (by omega)
      refine (h.kid j (by omega)).move (fun c hc => ?_) (Nat.le_refl _) (Nat.le_refl _) (fun c h1 h2 => ?_)
      · exact (st c (by have := (h.lt (Or.inl rfl)).1; omega)).trans (kp c (by omega) (fun e => by have := hil c e; omega))
      · exact (st c (fun e => by have := h.out j (by omega) p (Or.inl rfl); omega)).trans (kp c (by omega) (fun e => by have := h.out j (by omega) c (Or.inr (Or.inr e)); omega))
end Go.Proofs.Ytbclgogolimbgaa

/-
  slices.BinarySearch among keys that rise: how many are ahead, and whether the key is there.
-/
namespace Go.Proofs.Ytbclgogolimbgaa
open Go.RowKit
set_option linter.unusedSimpArgs false
set_option linter.unusedVariables false

theorem cmpNaN_any (s : ByteArray) (w : World) : Calls Try.prog 122 #[.string s] w fun e w' => e = .returned (.bool false) ∧ w' = w := by
  have f3 : (s.toList == s.toList) = true := by simp
  go_enter Try.func122, Try.ntmps122
  go_wp2_with fail
  go_ret
  exact ⟨by simp, rfl⟩

theorem slNaN_any (s : ByteArray) (w : World) : Calls Try.prog 120 #[.string s] w fun e w' => e = .returned (.bool false) ∧ w' = w := by
  have f3 : (s.toList == s.toList) = true := by simp
  go_enter Try.func120, Try.ntmps120
  go_wp2_with fail
  go_ret
  exact ⟨by simp, rfl⟩

theorem cmpLess_any (a b : ByteArray) (w : World) : Calls Try.prog 119 #[.string a, .string b] w fun e w' => e = .returned (.bool (lessB a b)) ∧ w' = w := by
  go_enter Try.func119, Try.ntmps119
  go_wp2_with (go_at_call 122; refine (cmpNaN_any _ _).mono ?_; rintro e w' ⟨rfl, rfl⟩)
  go_ret
  exact ⟨rfl, rfl⟩

set_option maxRecDepth 100000 in
set_option maxHeartbeats 1600000 in
theorem search_any (B : Nat) (v : Value) (l : List ByteArray) (key : ByteArray) (w : World) (h : StrsAt B w v l) (hr : Rise l) (hl : l.length ≤ 1048576) :
    Calls Try.prog 111 #[v, .string key] w fun e w' => e = .returned (.tuple #[.int .i64 (posK l key : Nat), .bool (hasK l key)]) ∧ w' = w := by
  obtain ⟨_, _, a, cap, rfl, hc⟩ := h
  have HC := hideIt hc
  have HR := hideIt hr
  clear hc hr
  go_enter Try.func111, Try.ntmps111
  go_wp2_with fail
  go_loop [7, 8, 9] (fun p q _ => ∃ i j : Nat, i ≤ j ∧ j ≤ l.length ∧ p = .int .i64 i ∧ q = .int .i64 j ∧ Hid (∀ t, t < i → lessB (keyAt l t) key = true) ∧ Hid (j < l.length → lessB (keyAt l j) key = false)) (fun p q _ => (intOf q).toNat - (intOf p).toNat)
  case atStart => exact ⟨0, l.length, Nat.zero_le _, Nat.le_refl _, rfl, rfl, fun t ht => by omega, fun h => absurd h (by omega)⟩
  case round =>
    obtain ⟨i, j, hij, hjl, rfl, rfl, HL, HG⟩ := hrel
    by_cases hlt : i < j
    · obtain ⟨b, o, rfl, hbB, hcc⟩ := HC.out (by omega)
      obtain ⟨h, hh⟩ : ∃ h : Nat, h = (i + j) / 2 := ⟨_, rfl⟩
      have h1 : i ≤ h := by omega
      have h2 : h < j := by omega
      have hck := hcc h (by omega)
      have p0 : ((i : Int) + (j : Int)) / 2 = (h : Int) := by omega
      have hhl : h < l.length := by omega
      clear hcc hh
      go_wp2_with fail
      refine (cmpLess_any _ _ _).mono ?_
      rintro e w1 ⟨rfl, rfl⟩
      cases hle : lessB (keyAt l h) key
      · have HG2 : Hid (h < l.length → lessB (keyAt l h) key = false) := fun _ => hle
        go_wp2_with fail
        go_round
        case rel => exact ⟨i, h, h1, by omega, rfl, rfl, HL, HG2⟩
        case measure => simp [intOf]; omega
      · have HL2 : Hid (∀ t, t < h + 1 → lessB (keyAt l t) key = true) := fun t ht => by
          by_cases e : t = h
          · subst e; exact hle
          · exact less_trans (HR.out t h (by omega) hhl) hle
        go_wp2_with fail
        go_round
        case rel => exact ⟨h + 1, j, by omega, hjl, by go_num, rfl, HL2, HG⟩
        case measure => simp [intOf]; omega
    · obtain rfl : i = j := by omega
      have HP := hideIt (posK_eq hjl HL.out HG.out)
      by_cases hil : i < l.length
      · obtain ⟨b, o, rfl, hbB, hcc⟩ := HC.out (by omega)
        have hck := hcc i hil
        by_cases he : (keyAt l i).toList = key.toList
        · have HH : Hid (hasK l key = true) := by unfold Hid hasK; rw [HP.out]; simp [hil, he]
          have hz : ((keyAt l i).toList == key.toList) = true := by simp [he]
          clear hcc
          go_wp2_with fail
          go_ret2
          exact ⟨by rw [HH.out, HP.out]; rfl, rfl⟩
        · have HH : Hid (hasK l key = false) := by unfold Hid hasK; rw [HP.out]; simp [hil, he]
          have hz : ((keyAt l i).toList == key.toList) = false := by simpa using he
          clear hcc
          go_wp2_with (go_at_call 120; refine (slNaN_any _ _).mono ?_; rintro e w' ⟨rfl, rfl⟩)
          go_ret2
          exact ⟨by rw [HH.out, HP.out]; rfl, rfl⟩
      · have HH : Hid (hasK l key = false) := by unfold Hid hasK; rw [HP.out]; simp [hil]
        have hil' : ¬ ((i : Int) < (l.length : Int)) := by omega
        go_wp2_with fail
        go_ret2
        exact ⟨by rw [HH.out, HP.out]; rfl, rfl⟩
end Go.Proofs.Ytbclgogolimbgaa
