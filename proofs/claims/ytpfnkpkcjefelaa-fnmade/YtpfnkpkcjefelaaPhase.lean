/-
  Plain mathematics on nodes of values: what makes a value right, said twice (by a recursion from the root, and by a table over all nodes), and that both say the same. No Go, no memory.
-/
import Derived.WalkKit
import Derived.OrdersIn
import Derived.RangeFuncCalls
namespace Go.Proofs.Ytpfnkpkcjefelaa

/-- A node of a value. -/
structure VN where
  kind : Int
  n : Int
  s : ByteArray
  keys : List ByteArray
  kids : List Int

def VN.zero : VN := ⟨0, 0, ByteArray.empty, [], []⟩

def textB (s : ByteArray) : Bool := decide (s.size ≤ 60) && s.data.toList.all fun c => decide (c.toNat ≤ 127)
def lessB (a b : ByteArray) : Bool := Op.bytesLess a.toList b.toList
def keyAt (l : List ByteArray) (i : Nat) : ByteArray := l.getD i ByteArray.empty
def riseAt (l : List ByteArray) (j : Nat) : Bool := textB (keyAt l j) && (decide (j = 0) || lessB (keyAt l (j - 1)) (keyAt l j))
def riseB (l : List ByteArray) : Bool := (List.range l.length).all (riseAt l)

def unnamedB (x : VN) : Bool :=
  !(decide (x.kind ≠ 2) && decide (x.kind ≠ 3) && decide (x.n ≠ 0)) && !(decide (x.kind ≠ 4) && decide (x.s.toList ≠ [])) &&
  !(decide (x.kind ≠ 6) && decide (0 < x.keys.length)) && !(decide (x.kind ≠ 5) && decide (x.kind ≠ 6) && decide (0 < x.kids.length))

def namedB (x : VN) : Bool :=
  if x.kind = 1 ∨ x.kind = 5 then true
  else if x.kind = 2 then decide (x.n = 0) || decide (x.n = 1)
  else if x.kind = 3 then decide (-1000000000000000 ≤ x.n) && decide (x.n ≤ 1000000000000000)
  else if x.kind = 4 then textB x.s
  else if x.kind = 6 then decide (x.keys.length = x.kids.length) && riseB x.keys
  else false

def nodeB (x : VN) : Bool := unnamedB x && namedB x

theorem len0 (n : Nat) : ((n : Int) == 0) = !decide (0 < n) := by
  cases n with
  | zero => rfl
  | succ n => simp; omega

/-! ### Trees -/
def stepKid (T : Nat → Option (Nat × Nat)) (st : Option (Nat × Nat)) (k : Int) : Option (Nat × Nat) :=
  match st with
  | none => none
  | some (b, h) => if b ≠ 0 ∧ k = (b : Int) - 1 then (T (b - 1)).map (fun p => (p.1, max h p.2)) else none

def tree (K : Nat → List Int) : Nat → Nat → Option (Nat × Nat)
  | 0, _ => none
  | f + 1, n => ((K n).reverse.foldl (stepKid (tree K f)) (some (n, 0))).map fun p => (p.1, p.2 + 1)

theorem fold_none (T : Nat → Option (Nat × Nat)) (l : List Int) : l.foldl (stepKid T) none = none := by
  induction l with
  | nil => rfl
  | cons k l ih => exact ih

theorem step_some {T : Nat → Option (Nat × Nat)} {b h : Nat} {k : Int} {q : Nat × Nat} (e : stepKid T (some (b, h)) k = some q) :
    b ≠ 0 ∧ k = (b : Int) - 1 ∧ ∃ p, T (b - 1) = some p ∧ q = (p.1, max h p.2) := by
  unfold stepKid at e
  simp only at e
  split at e
  · rename_i hc
    cases ht : T (b - 1) with
    | none => simp [ht] at e
    | some p => simp [ht] at e; exact ⟨hc.1, hc.2, p, rfl, e.symm⟩
  · cases e

theorem fold_cons_some {T : Nat → Option (Nat × Nat)} {b h : Nat} {k : Int} {l : List Int} {q : Nat × Nat} (e : (k :: l).foldl (stepKid T) (some (b, h)) = some q) :
    ∃ p, b ≠ 0 ∧ k = (b : Int) - 1 ∧ T (b - 1) = some p ∧ l.foldl (stepKid T) (some (p.1, max h p.2)) = some q := by
  rw [List.foldl_cons] at e
  cases hs : stepKid T (some (b, h)) k with
  | none => rw [hs, fold_none] at e; cases e
  | some r =>
    obtain ⟨h1, h2, p, h3, rfl⟩ := step_some hs
    exact ⟨p, h1, h2, h3, by rw [hs] at e; exact e⟩

theorem fold_le {T : Nat → Option (Nat × Nat)} (hT : ∀ m p, T m = some p → p.1 ≤ m) : ∀ (l : List Int) (b h : Nat) (q : Nat × Nat), l.foldl (stepKid T) (some (b, h)) = some q → q.1 ≤ b := by
  intro l
  induction l with
  | nil => intro b h q e; simp at e; rw [← e]; exact Nat.le_refl _
  | cons k l ih =>
    intro b h q e
    obtain ⟨p, h1, _, h3, h4⟩ := fold_cons_some e
    have := ih _ _ _ h4
    have := hT _ _ h3
    omega

theorem tree_le (K : Nat → List Int) : ∀ (f n : Nat) (p : Nat × Nat), tree K f n = some p → p.1 ≤ n := by
  intro f
  induction f with
  | zero => intro n p e; cases e
  | succ f ih =>
    intro n p e
    rw [tree] at e
    cases hf : (K n).reverse.foldl (stepKid (tree K f)) (some (n, 0)) with
    | none => simp [hf] at e
    | some q =>
      simp [hf] at e
      have := fold_le ih _ _ _ _ hf
      rw [← e]
      exact this

theorem fold_congr {T T' : Nat → Option (Nat × Nat)} (N : Nat) (hT : ∀ m p, T m = some p → p.1 ≤ m) (he : ∀ m, m < N → T m = T' m) : ∀ (l : List Int) (b h : Nat), b ≤ N → l.foldl (stepKid T) (some (b, h)) = l.foldl (stepKid T') (some (b, h)) := by
  intro l
  induction l with
  | nil => intro b h _; rfl
  | cons k l ih =>
    intro b h hb
    rw [List.foldl_cons, List.foldl_cons]
    by_cases hc : b ≠ 0 ∧ k = (b : Int) - 1
    · have e1 : T (b - 1) = T' (b - 1) := he _ (by omega)
      cases ht : T (b - 1) with
      | none =>
        rw [show stepKid T (some (b, h)) k = none by simp [stepKid, hc, ht], show stepKid T' (some (b, h)) k = none by simp [stepKid, hc, ← e1, ht], fold_none, fold_none]
      | some p =>
        rw [show stepKid T (some (b, h)) k = some (p.1, max h p.2) by simp only [stepKid]; rw [if_pos hc, ht]; rfl, show stepKid T' (some (b, h)) k = some (p.1, max h p.2) by simp only [stepKid]; rw [if_pos hc, ← e1, ht]; rfl]
        have := hT _ _ ht
        exact ih _ _ (by omega)
    · rw [show stepKid T (some (b, h)) k = none by simp only [stepKid]; rw [if_neg hc], show stepKid T' (some (b, h)) k = none by simp only [stepKid]; rw [if_neg hc], fold_none, fold_none]

theorem tree_fuel (K : Nat → List Int) : ∀ (N n f g : Nat), n < N → n < f → n < g → tree K f n = tree K g n := by
  intro N
  induction N with
  | zero => intro n f g h; omega
  | succ N ih =>
    intro n f g hN hf hg
    match f, g with
    | 0, _ => omega
    | _ + 1, 0 => omega
    | f + 1, g + 1 =>
      rw [tree, tree]
      rw [fold_congr n (tree_le K f) (fun m hm => ih m f g (by omega) (by omega) (by omega)) _ _ _ (Nat.le_refl _)]

/-- The tree of node n: its first node and how deep it is; none: it is no tree. -/
def tr (K : Nat → List Int) (n : Nat) : Option (Nat × Nat) := tree K (n + 1) n

theorem tr_le {K : Nat → List Int} {n : Nat} {p : Nat × Nat} (h : tr K n = some p) : p.1 ≤ n := tree_le K _ _ _ h

theorem tr_eq (K : Nat → List Int) (n : Nat) : tr K n = ((K n).reverse.foldl (stepKid (tr K)) (some (n, 0))).map fun p => (p.1, p.2 + 1) := by
  rw [tr, tree]
  rw [fold_congr n (tree_le K n) (fun m hm => tree_fuel K (n + 1) m n (m + 1) (by omega) (by omega) (by omega)) _ _ _ (Nat.le_refl _)]
  rfl

theorem tr_local {K K' : Nat → List Int} : ∀ (N : Nat), (∀ m, m < N → K m = K' m) → ∀ n, n < N → tr K n = tr K' n := by
  intro N h n
  induction n using Nat.strongRecOn with
  | ind n ih =>
    intro hn
    rw [tr_eq, tr_eq, h n hn, fold_congr n (fun m p hp => tr_le hp) (fun m hm => ih m hm (by omega)) _ _ _ (Nat.le_refl _)]

theorem fold_deep {T : Nat → Option (Nat × Nat)} (hT : ∀ m p, T m = some p → p.1 ≤ m ∧ p.2 ≤ m + 1) : ∀ (l : List Int) (b h : Nat) (q : Nat × Nat) (N : Nat), b ≤ N → h ≤ N → l.foldl (stepKid T) (some (b, h)) = some q → q.2 ≤ N := by
  intro l
  induction l with
  | nil => intro b h q N hb hh e; simp at e; rw [← e]; exact hh
  | cons k l ih =>
    intro b h q N hb hh e
    obtain ⟨p, h1, _, h3, h4⟩ := fold_cons_some e
    have := hT _ _ h3
    exact ih _ _ _ N (by omega) (by omega) h4

theorem tr_deep {K : Nat → List Int} : ∀ (n : Nat) (p : Nat × Nat), tr K n = some p → p.1 ≤ n ∧ p.2 ≤ n + 1 := by
  intro n
  induction n using Nat.strongRecOn with
  | ind n ih =>
    intro p e
    refine ⟨tr_le e, ?_⟩
    rw [tr_eq] at e
    have hx : (K n).reverse.foldl (stepKid (tr K)) (some (n, 0)) = (K n).reverse.foldl (stepKid fun m => if m < n then tr K m else none) (some (n, 0)) :=
      fold_congr n (fun m p hp => tr_le hp) (fun m hm => by rw [if_pos hm]) _ _ _ (Nat.le_refl _)
    rw [hx] at e
    cases hf : (K n).reverse.foldl (stepKid fun m => if m < n then tr K m else none) (some (n, 0)) with
    | none => simp [hf] at e
    | some q =>
      rw [hf] at e
      simp at e
      have := fold_deep (T := fun m => if m < n then tr K m else none) (fun m p hp => by
        by_cases hm : m < n
        · simp only [if_pos hm] at hp; exact ih m hm p hp
        · simp only [if_neg hm] at hp; cases hp) _ _ _ _ n (Nat.le_refl _) (Nat.zero_le _) hf
      rw [← e]
      simp only
      omega

theorem fold_span {T : Nat → Option (Nat × Nat)} (hT : ∀ m p, T m = some p → p.1 ≤ m) : ∀ (l : List Int) (b h : Nat) (q : Nat × Nat), l.foldl (stepKid T) (some (b, h)) = some q → ∀ m, q.1 ≤ m → m < b → ∃ c p, T c = some p ∧ c < b ∧ p.1 ≤ m ∧ m ≤ c := by
  intro l
  induction l with
  | nil => intro b h q e m h1 h2; simp at e; rw [← e] at h1; simp only at h1; omega
  | cons k l ih =>
    intro b h q e m h1 h2
    obtain ⟨p, g1, _, g3, g4⟩ := fold_cons_some e
    by_cases hm : p.1 ≤ m
    · exact ⟨b - 1, p, g3, by omega, hm, by omega⟩
    · obtain ⟨c, p', e1, e2, e3, e4⟩ := ih _ _ _ g4 m h1 (by omega)
      have := hT _ _ g3
      exact ⟨c, p', e1, by omega, e3, e4⟩

theorem tr_span {K : Nat → List Int} : ∀ (n : Nat) (p : Nat × Nat), tr K n = some p → ∀ m, p.1 ≤ m → m ≤ n → ∃ q, tr K m = some q := by
  intro n
  induction n using Nat.strongRecOn with
  | ind n ih =>
    intro p e m h1 h2
    by_cases hm : m = n
    · exact ⟨p, hm ▸ e⟩
    rw [tr_eq] at e
    cases hf : (K n).reverse.foldl (stepKid (tr K)) (some (n, 0)) with
    | none => simp [hf] at e
    | some q =>
      rw [hf] at e
      simp at e
      rw [← e] at h1
      obtain ⟨c, p', e1, e2, e3, e4⟩ := fold_span (fun m p hp => tr_le hp) _ _ _ _ hf m h1 (by omega)
      exact ih c e2 p' e1 m e3 e4

theorem fold_kids {T : Nat → Option (Nat × Nat)} (hT : ∀ m p, T m = some p → p.1 ≤ m) : ∀ (l : List Int) (b h : Nat) (q : Nat × Nat), l.foldl (stepKid T) (some (b, h)) = some q → ∀ k ∈ l, 0 ≤ k ∧ k ≤ (b : Int) - 1 := by
  intro l
  induction l with
  | nil => intro b h q e k hk; cases hk
  | cons x l ih =>
    intro b h q e k hk
    obtain ⟨p, g1, g2, g3, g4⟩ := fold_cons_some e
    have := hT _ _ g3
    rcases List.mem_cons.1 hk with rfl | hk
    · omega
    · have := ih _ _ _ g4 k hk
      omega

theorem tr_kids {K : Nat → List Int} {n : Nat} {p : Nat × Nat} (e : tr K n = some p) : ∀ k ∈ K n, 0 ≤ k ∧ k ≤ (n : Int) - 1 := by
  rw [tr_eq] at e
  cases hf : (K n).reverse.foldl (stepKid (tr K)) (some (n, 0)) with
  | none => simp [hf] at e
  | some q => exact fun k hk => fold_kids (fun m p hp => tr_le hp) _ _ _ _ hf k (by simpa using hk)

/-! ### Right values, said twice -/
def nodeAt (vs : List VN) (i : Nat) : VN := vs.getD i VN.zero
def kidsOf (vs : List VN) (i : Nat) : List Int := (nodeAt vs i).kids
def kidsIn (vs : List VN) (i : Nat) : Bool := (kidsOf vs i).all fun k => decide (0 ≤ k) && decide (k ≤ (i : Int) - 1)
def rootB (vs : List VN) : Bool := match tr (kidsOf vs) (vs.length - 1) with
  | some p => decide (p.1 = 0) && decide (p.2 ≤ 8)
  | none => false
def sizeB (vs : List VN) : Bool := decide (1 ≤ vs.length) && decide (vs.length ≤ 80)
/-- As the recursion from the root says it. -/
def okB (vs : List VN) : Bool := sizeB vs && ((List.range vs.length).all fun i => nodeB (nodeAt vs i) && kidsIn vs i) && rootB vs
/-- As the table over all nodes says it. -/
def tabB (vs : List VN) : Bool := sizeB vs && ((List.range vs.length).all fun i => nodeB (nodeAt vs i)) && (((List.range vs.length).all fun i => (tr (kidsOf vs) i).isSome) && rootB vs)

theorem okB_eq (vs : List VN) : tabB vs = okB vs := by
  rw [Bool.eq_iff_iff]
  unfold tabB okB
  simp only [Bool.and_eq_true, List.all_eq_true, List.mem_range]
  constructor
  · rintro ⟨⟨h1, h2⟩, h3, h4⟩
    refine ⟨⟨h1, fun i hi => ⟨h2 i hi, ?_⟩⟩, h4⟩
    obtain ⟨p, hp⟩ := Option.isSome_iff_exists.1 (h3 i hi)
    unfold kidsIn
    simp only [List.all_eq_true, Bool.and_eq_true, decide_eq_true_eq]
    exact tr_kids hp
  · rintro ⟨⟨h1, h2⟩, h3⟩
    refine ⟨⟨h1, fun i hi => (h2 i hi).1⟩, fun i hi => ?_, h3⟩
    unfold rootB at h3
    cases hr : tr (kidsOf vs) (vs.length - 1) with
    | none => rw [hr] at h3; cases h3
    | some p =>
      rw [hr] at h3
      simp at h3
      obtain ⟨q, hq⟩ := tr_span _ _ hr i (by omega) (by omega)
      rw [hq]
      rfl

end Go.Proofs.Ytpfnkpkcjefelaa

/-
  A statement whose order is open, within a round of a range over a function: its first N operations only read, each into a slot of its own, and two operations follow when all of them have come up. In whatever order they come up, the slots hold the same.
-/
namespace Go.Proofs.Ytpfnkpkcjefelaa
open Go.RowKit
set_option linter.unusedSimpArgs false
set_option linter.unusedVariables false

theorem mem_ready {ops : Array Oper} {L : Array Bool} {i : Nat} (h : i ∈ Region.ready .any ops L) :
    i < ops.size ∧ L.getD i true = false ∧ ∀ o, ops[i]? = some o → ∀ e ∈ o.after, Region.binds .any e = true → L.getD e.on false = true := by
  unfold Region.ready at h
  rw [List.mem_filter, List.mem_range] at h
  obtain ⟨h1, h2⟩ := h
  rw [Bool.and_eq_true] at h2
  obtain ⟨h2, h3⟩ := h2
  refine ⟨h1, by simpa using h2, fun o ho e he hb => ?_⟩
  rw [ho] at h3
  simp only [Option.map_some, Option.getD_some, Array.all_eq_true_iff_forall_mem] at h3
  have := h3 e he
  rw [hb] at this
  simpa using this

theorem ready_mem {ops : Array Oper} {L : Array Bool} {i : Nat} {o : Oper} (h1 : L.getD i true = false) (ho : ops[i]? = some o) (h : ∀ e ∈ o.after, L.getD e.on false = true) : i ∈ Region.ready .any ops L := by
  unfold Region.ready
  rw [List.mem_filter, List.mem_range]
  refine ⟨(Array.getElem?_eq_some_iff.1 ho).1, ?_⟩
  rw [Bool.and_eq_true, ho]
  refine ⟨by simp [h1], ?_⟩
  simp only [Option.map_some, Option.getD_some, Array.all_eq_true_iff_forall_mem]
  intro e he
  simp [h e he]

def fill (s0 N : Nat) (val : Nat → Value) (L : Array Bool) (a : Act) : Act :=
  { a with tmps := a.tmps.mapIdx fun t v => if s0 ≤ t ∧ t < s0 + N ∧ L.getD (t - s0) false = true then val (t - s0) else v }

theorem fill_put {s0 N : Nat} {val : Nat → Value} {L : Array Bool} {a : Act} {i : Nat} (hi : i < N) (hL : i < L.size) :
    (fill s0 N val L a).put (some (s0 + i)) (val i) = fill s0 N val (L.setIfInBounds i true) a := by
  unfold fill Act.put
  simp only [Act.mk.injEq, and_true]
  apply Array.ext_getElem?
  intro t
  rw [Array.getElem?_setIfInBounds]
  by_cases e : s0 + i = t
  · subst e
    by_cases hb : s0 + i < a.tmps.size
    · simp [hb, hi, Array.getD, hL]
    · simp [hb]
  · rw [if_neg e]
    simp only [Array.getElem?_mapIdx]
    congr 1
    funext v
    by_cases h : s0 ≤ t ∧ t < s0 + N
    · have : (L.setIfInBounds i true).getD (t - s0) false = L.getD (t - s0) false := by
        simp only [Array.getD_eq_getD_getElem?, Array.getElem?_setIfInBounds]
        rw [if_neg (by omega)]
      simp only [this]
    · rw [if_neg (by omega), if_neg (by omega)]

theorem fill_in {s0 N : Nat} {val : Nat → Value} {L : Array Bool} {a : Act} {t : Nat} (h1 : s0 ≤ t) (h2 : t < s0 + N) (h3 : t < a.tmps.size) (hl : L.getD (t - s0) false = true) :
    (fill s0 N val L a).eval (.tmp t) = val (t - s0) := by
  simp only [fill, Act.eval, Array.getD_eq_getD_getElem?, Array.getElem?_mapIdx]
  rw [Array.getElem?_eq_getElem h3]
  simp only [Option.map_some, Option.getD_some]
  rw [if_pos ⟨h1, h2, by simpa [Array.getD_eq_getD_getElem?] using hl⟩]

theorem fill_out {s0 N : Nat} {val : Nat → Value} {L : Array Bool} {a : Act} {t : Nat} (h : t < s0) : (fill s0 N val L a).eval (.tmp t) = a.eval (.tmp t) := by
  simp only [fill, Act.eval, Array.getD_eq_getD_getElem?, Array.getElem?_mapIdx]
  congr 1
  cases a.tmps[t]? with
  | none => rfl
  | some v => simp only [Option.map_some]; rw [if_neg (by omega)]

theorem fill_none {s0 N : Nat} {val : Nat → Value} {L : Array Bool} {a : Act} (h : ∀ j, j < N → L.getD j false = false) : fill s0 N val L a = a := by
  unfold fill
  cases a with
  | mk tmps defers =>
    simp only [Act.mk.injEq, and_true]
    apply Array.ext_getElem?
    intro t
    rw [Array.getElem?_mapIdx]
    cases tmps[t]? with
    | none => rfl
    | some v =>
      simp only [Option.map_some]
      by_cases g : s0 ≤ t ∧ t < s0 + N
      · rw [if_neg (fun e => by rw [h _ (by omega)] at e; cases e.2.2)]
      · rw [if_neg (fun e => g ⟨e.1, e.2.1⟩)]

def left (N : Nat) (L : Array Bool) : Nat := ((List.range N).filter fun i => !L.getD i false).length

theorem left_lt {N i : Nat} {L : Array Bool} (hi : i < N) (hL : i < L.size) (h : L.getD i false = false) : left N (L.setIfInBounds i true) < left N L := by
  unfold left
  have e : (List.range N).filter (fun j => !(L.setIfInBounds i true).getD j false) = ((List.range N).filter fun j => !L.getD j false).filter (fun j => decide (j ≠ i)) := by
    rw [List.filter_filter]
    apply List.filter_congr
    intro j _
    simp only [Array.getD_eq_getD_getElem?, Array.getElem?_setIfInBounds]
    by_cases e : i = j
    · subst e; simp [hL]
    · rw [if_neg e]
      have : decide (j ≠ i) = true := by simp; omega
      rw [this, Bool.true_and]
  rw [e]
  apply List.length_filter_lt_length_iff_exists.2
  exact ⟨i, by rw [List.mem_filter]; exact ⟨List.mem_range.2 hi, by simp [h]⟩, by simp⟩

theorem getD_true_false {L : Array Bool} {i : Nat} (h : i < L.size) : L.getD i true = L.getD i false := by simp [Array.getD, h]

/-- The least of the first N that has not come up. -/
theorem least {N : Nat} {L : Array Bool} : ∀ m, m ≤ N → (∀ j, j < m → L.getD j false = true) ∨ ∃ i, i < m ∧ L.getD i false = false ∧ ∀ j, j < i → L.getD j false = true := by
  intro m
  induction m with
  | zero => intro _; left; intro j h; omega
  | succ m ih =>
    intro hm
    rcases ih (by omega) with h | ⟨i, h1, h2, h3⟩
    · cases hl : L.getD m false with
      | true => left; intro j hj; by_cases e : j = m
                · subst e; exact hl
                · exact h j (by omega)
      | false => right; exact ⟨m, by omega, hl, h⟩
    · right; exact ⟨i, by omega, h2, h3⟩

theorem phase {F : Fence} {n : Nat} {P : Program} {ops : Array Oper} {Q : Exit → Act → World → Prop} {s0 N : Nat} {val : Nat → Value} {a : Act} {W : World} (hsz : ops.size = N + 2)
    (hd : ∀ i, i < N → ∃ o, ops[i]? = some o ∧ o.dst = some (s0 + i) ∧ o.guard = none ∧ (∀ c, o.op ≠ .defer c) ∧ (∀ e ∈ o.after, e.on < i ∧ Region.binds .any e = true) ∧
      ∀ L : Array Bool, (∀ e ∈ o.after, L.getD e.on false = true) → (execOp (fill s0 N val L a).eval o).run P W = .ok (.value (val i)) W ∧ o.about P W (fill s0 N val L a).eval = none)
    (hN : ∃ o, ops[N]? = some o ∧ (∀ e ∈ o.after, e.on < N) ∧ ∀ j, j < N → ∃ e ∈ o.after, e.on = j ∧ Region.binds .any e = true)
    (hN1 : ∃ o, ops[N + 1]? = some o ∧ ∃ e ∈ o.after, e.on = N ∧ Region.binds .any e = true)
    (tail : ∀ fuel (L : Array Bool), L.size = N + 2 → (∀ j, j < N → L.getD j false = true) → L.getD N true = false → L.getD (N + 1) true = false → wpOpIn F n P ops Q N (wpAnyIn F n P .any ops Q (fuel + 1) (L.setIfInBounds N true)) (fill s0 N val L a) W) :
    ∀ fuel (L : Array Bool), L.size = N + 2 → L.getD N true = false → L.getD (N + 1) true = false → left N L + 2 ≤ fuel → wpAnyIn F n P .any ops Q fuel L (fill s0 N val L a) W := by
  intro fuel
  induction fuel with
  | zero => intro L _ _ _ h; omega
  | succ fuel ih =>
    intro L hL h0 h1 hf
    rw [wpAnyIn]
    constructor
    · intro hr
      exfalso
      rcases least (L := L) (N := N) N (Nat.le_refl _) with hall | ⟨i, hi, hl, hlt⟩
      · obtain ⟨o, ho, ha, _⟩ := hN
        have := ready_mem (L := L) h0 ho (fun e he => hall _ (ha e he))
        rw [hr] at this
        cases this
      · obtain ⟨o, ho, _, _, _, ha, _⟩ := hd i hi
        have := ready_mem (L := L) (by rw [getD_true_false (by omega)]; exact hl) ho (fun e he => hlt _ (ha e he).1)
        rw [hr] at this
        cases this
    · intro i hi
      obtain ⟨hsi, hli, hdeps⟩ := mem_ready hi
      by_cases hiN : i < N
      · obtain ⟨o, ho, hdst, hg, hdf, ha, hrun⟩ := hd i hiN
        have hall : ∀ e ∈ o.after, L.getD e.on false = true := fun e he => hdeps o ho e he (ha e he).2
        obtain ⟨hx, hab⟩ := hrun L hall
        unfold wpOpIn
        rw [ho]
        simp only
        rw [show Region.wanted o (yielded ops (fill s0 N val L a).tmps) = true by unfold Region.wanted; rw [hg]]
        simp only [if_true]
        unfold Oper.wpIn
        rw [Oper.semAt_eq _ _ _ hdf, hx, Oper.uponIn_value, hdst, fill_put hiN (by omega)]
        refine ⟨fun f hf => (by rw [hab] at hf; cases hf), ?_⟩
        have hl : L.getD i false = false := by rw [← getD_true_false (by omega)]; exact hli
        have hlt := left_lt hiN (by omega : i < L.size) hl
        refine ih (L.setIfInBounds i true) (by simpa using hL) ?_ ?_ (by omega)
        · simp only [Array.getD_eq_getD_getElem?, Array.getElem?_setIfInBounds]
          rw [if_neg (by omega)]
          simpa [Array.getD_eq_getD_getElem?] using h0
        · simp only [Array.getD_eq_getD_getElem?, Array.getElem?_setIfInBounds]
          rw [if_neg (by omega)]
          simpa [Array.getD_eq_getD_getElem?] using h1
      · by_cases hiE : i = N
        · subst hiE
          obtain ⟨o, ho, ha, hall⟩ := hN
          obtain ⟨m, rfl⟩ : ∃ m, fuel = m + 1 := ⟨fuel - 1, by omega⟩
          refine tail m L hL (fun j hj => ?_) h0 h1
          obtain ⟨e, he, rfl, hb⟩ := hall j hj
          exact hdeps o ho e he hb
        · exfalso
          obtain rfl : i = N + 1 := by omega
          obtain ⟨o, ho, e, he, he2, hb⟩ := hN1
          have := hdeps o ho e he hb
          rw [he2, ← getD_true_false (by omega), h0] at this
          cases this

/-- The whole statement: reads, an address, a store. -/
theorem phase_store {F : Fence} {n : Nat} {P : Program} {ops : Array Oper} {Q : Exit → Act → World → Prop} {s0 N : Nat} {val : Nat → Value} {vN : Value} {a : Act} {W W' : World} (hsz : ops.size = N + 2) (hta : s0 + N < a.tmps.size)
    (hd : ∀ i, i < N → ∃ o, ops[i]? = some o ∧ o.dst = some (s0 + i) ∧ o.guard = none ∧ (∀ c, o.op ≠ .defer c) ∧ (∀ e ∈ o.after, e.on < i ∧ Region.binds .any e = true) ∧
      ∀ ρ : Operand → Value, (∀ e ∈ o.after, ρ (.tmp (s0 + e.on)) = val e.on) → (∀ t, t < s0 → ρ (.tmp t) = a.eval (.tmp t)) → (∀ v, ρ (.const v) = v) → (execOp ρ o).run P W = .ok (.value (val i)) W ∧ o.about P W ρ = none)
    (hN : ∃ o, ops[N]? = some o ∧ o.dst = some (s0 + N) ∧ o.guard = none ∧ (∀ c, o.op ≠ .defer c) ∧ (∀ e ∈ o.after, e.on < N) ∧ (∀ j, j < N → ∃ e ∈ o.after, e.on = j ∧ Region.binds .any e = true) ∧
      ∀ ρ : Operand → Value, (∀ i, i < N → ρ (.tmp (s0 + i)) = val i) → (∀ t, t < s0 → ρ (.tmp t) = a.eval (.tmp t)) → (execOp ρ o).run P W = .ok (.value vN) W ∧ o.about P W ρ = none)
    (hN1 : ∃ o, ops[N + 1]? = some o ∧ o.dst = none ∧ o.guard = none ∧ (∀ c, o.op ≠ .defer c) ∧ (∀ e ∈ o.after, e.on ≤ N) ∧ (∃ e ∈ o.after, e.on = N ∧ Region.binds .any e = true) ∧
      ∀ ρ : Operand → Value, (∀ i, i < N → ρ (.tmp (s0 + i)) = val i) → ρ (.tmp (s0 + N)) = vN → (∀ t, t < s0 → ρ (.tmp t) = a.eval (.tmp t)) → (execOp ρ o).run P W = .ok .skip W' ∧ o.about P W ρ = none)
    (hQ : ∀ a', Q .normal a' W') : wpAnyIn F n P .any ops Q ops.size (Array.replicate ops.size false) a W := by
  have key := phase (F := F) (n := n) (P := P) (ops := ops) (Q := Q) (s0 := s0) (N := N) (val := val) (a := a) (W := W) hsz ?hd' ?hN' ?hN1' ?tail ops.size (Array.replicate ops.size false) (by simp [hsz]) (by simp [Array.getD, hsz]) (by simp [Array.getD, hsz]) ?cnt
  · rw [fill_none (fun j hj => by simp [Array.getD])] at key
    exact key
  case hd' =>
    intro i hi
    obtain ⟨o, h1, h2, h3, h4, h5, h6⟩ := hd i hi
    refine ⟨o, h1, h2, h3, h4, h5, fun L hL => h6 _ (fun e he => ?_) (fun t ht => fill_out ht) (fun v => rfl)⟩
    have := (h5 e he).1
    rw [fill_in (by omega) (by omega) (by omega) (by rw [show s0 + e.on - s0 = e.on by omega]; exact hL e he), show s0 + e.on - s0 = e.on by omega]
  case hN' =>
    obtain ⟨o, h1, _, _, _, h5, h6, _⟩ := hN
    exact ⟨o, h1, h5, h6⟩
  case hN1' =>
    obtain ⟨o, h1, _, _, _, _, h6, _⟩ := hN1
    exact ⟨o, h1, h6⟩
  case cnt =>
    unfold left
    have := List.length_filter_le (fun i => !(Array.replicate ops.size false).getD i false) (List.range N)
    rw [List.length_range] at this
    omega
  case tail =>
    intro fuel L hL hall h0 h1
    have hev : ∀ i, i < N → (fill s0 N val L a).eval (.tmp (s0 + i)) = val i := fun i hi => by
      rw [fill_in (by omega) (by omega) (by omega) (by rw [show s0 + i - s0 = i by omega]; exact hall i hi), show s0 + i - s0 = i by omega]
    have hlo : ∀ t, t < s0 → (fill s0 N val L a).eval (.tmp t) = a.eval (.tmp t) := fun t ht => fill_out ht
    obtain ⟨o, g1, g2, g3, g4, g5, g6, g7⟩ := hN
    obtain ⟨r1, r2⟩ := g7 _ hev hlo
    unfold wpOpIn
    rw [g1]
    simp only
    rw [show Region.wanted o (yielded ops (fill s0 N val L a).tmps) = true by unfold Region.wanted; rw [g3]]
    simp only [if_true]
    unfold Oper.wpIn
    rw [Oper.semAt_eq _ _ _ g4, r1, Oper.uponIn_value, g2]
    refine ⟨fun f hf => (by rw [r2] at hf; cases hf), ?_⟩
    have hfs : (fill s0 N val L a).tmps.size = a.tmps.size := by simp [fill]
    have hev' : ∀ i, i < N → ((fill s0 N val L a).put (some (s0 + N)) vN).eval (.tmp (s0 + i)) = val i := fun i hi => by
      rw [← hev i hi]
      simp only [Act.put, Act.eval, Array.getD_eq_getD_getElem?, Array.getElem?_setIfInBounds]
      rw [if_neg (by omega)]
    have hevN : ((fill s0 N val L a).put (some (s0 + N)) vN).eval (.tmp (s0 + N)) = vN := by
      simp only [Act.put, Act.eval, Array.getD_eq_getD_getElem?, Array.getElem?_setIfInBounds]
      rw [if_pos trivial, if_pos (by omega)]
      rfl
    have hlo' : ∀ t, t < s0 → ((fill s0 N val L a).put (some (s0 + N)) vN).eval (.tmp t) = a.eval (.tmp t) := fun t ht => by
      rw [← hlo t ht]
      simp only [Act.put, Act.eval, Array.getD_eq_getD_getElem?, Array.getElem?_setIfInBounds]
      rw [if_neg (by omega)]
    generalize (fill s0 N val L a).put (some (s0 + N)) vN = a2 at *
    obtain ⟨o', k1, k2, k3, k4, k5, k6, k7⟩ := hN1
    obtain ⟨q1, q2⟩ := k7 _ hev' hevN hlo'
    have hL2 : ∀ j, j ≤ N → (L.setIfInBounds N true).getD j false = true := fun j hj => by
      simp only [Array.getD_eq_getD_getElem?, Array.getElem?_setIfInBounds]
      by_cases e : N = j
      · rw [if_pos e, if_pos (by omega)]; rfl
      · rw [if_neg e]
        have := hall j (by omega)
        rw [Array.getD_eq_getD_getElem?] at this
        exact this
    have hL1 : (L.setIfInBounds N true).getD (N + 1) true = false := by
      simp only [Array.getD_eq_getD_getElem?, Array.getElem?_setIfInBounds]
      rw [if_neg (by omega)]
      rw [Array.getD_eq_getD_getElem?] at h1
      exact h1
    have hs2 : (L.setIfInBounds N true).size = N + 2 := by simpa using hL
    generalize L.setIfInBounds N true = L2 at *
    rw [wpAnyIn]
    refine ⟨fun hr => ?_, fun i hi => ?_⟩
    · exfalso
      have := ready_mem (L := L2) hL1 k1 (fun e he => hL2 _ (k5 e he))
      rw [hr] at this
      cases this
    · obtain ⟨m1, m2, _⟩ := mem_ready hi
      obtain rfl : i = N + 1 := by
        by_cases e : i ≤ N
        · have := hL2 i e
          rw [← getD_true_false (by omega), m2] at this
          cases this
        · omega
      unfold wpOpIn
      rw [k1]
      simp only
      rw [show Region.wanted o' (yielded ops a2.tmps) = true by unfold Region.wanted; rw [k3]]
      simp only [if_true]
      unfold Oper.wpIn
      rw [Oper.semAt_eq _ _ _ k4, q1, Oper.uponIn_skip]
      refine ⟨fun f hf => (by rw [q2] at hf; cases hf), ?_⟩
      refine wpAnyIn_done ?_ (hQ _) _
      apply List.eq_nil_iff_forall_not_mem.2
      intro i hi
      obtain ⟨m1, m2, _⟩ := mem_ready hi
      have : (L2.setIfInBounds (N + 1) true).getD i true = true := by
        simp only [Array.getD_eq_getD_getElem?, Array.getElem?_setIfInBounds]
        by_cases e : N + 1 = i
        · rw [if_pos e, if_pos (by omega)]; rfl
        · rw [if_neg e]
          have h3 := hL2 i (by omega)
          rw [← getD_true_false (by omega), Array.getD_eq_getD_getElem?] at h3
          exact h3
      rw [this] at m2
      cases m2
end Go.Proofs.Ytpfnkpkcjefelaa
