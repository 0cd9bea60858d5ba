/-
  Plain mathematics on nodes of values: what makes a value right, said twice (by a recursion from the root, and by a table over all nodes), and that both say the same. No Go, no memory.
-/
import Derived.WalkKit
namespace Go.Proofs.YtgmnihofkpjboaaGreatDoor

/-- A node of a value. -/
structure VN where
  kind : Int
  n : Int
  s : ByteArray
  keys : List ByteArray
  kids : List Int

def VN.zero : VN := ⟨0, 0, ByteArray.empty, [], []⟩

def textB (s : ByteArray) : Bool := decide (s.size ≤ 60) && s.data.toList.all fun c => decide (c.toNat ≤ 127)
def lessB (a b : ByteArray) : Bool := Op.bytesLess a.toList b.toList
def keyAt (l : List ByteArray) (i : Nat) : ByteArray := l.getD i ByteArray.empty
def riseAt (l : List ByteArray) (j : Nat) : Bool := textB (keyAt l j) && (decide (j = 0) || lessB (keyAt l (j - 1)) (keyAt l j))
def riseB (l : List ByteArray) : Bool := (List.range l.length).all (riseAt l)

def unnamedB (x : VN) : Bool :=
  !(decide (x.kind ≠ 2) && decide (x.kind ≠ 3) && decide (x.n ≠ 0)) && !(decide (x.kind ≠ 4) && decide (x.s.toList ≠ [])) &&
  !(decide (x.kind ≠ 6) && decide (0 < x.keys.length)) && !(decide (x.kind ≠ 5) && decide (x.kind ≠ 6) && decide (0 < x.kids.length))

def namedB (x : VN) : Bool :=
  if x.kind = 1 ∨ x.kind = 5 then true
  else if x.kind = 2 then decide (x.n = 0) || decide (x.n = 1)
  else if x.kind = 3 then decide (-1000000000000000 ≤ x.n) && decide (x.n ≤ 1000000000000000)
  else if x.kind = 4 then textB x.s
  else if x.kind = 6 then decide (x.keys.length = x.kids.length) && riseB x.keys
  else false

def nodeB (x : VN) : Bool := unnamedB x && namedB x

theorem len0 (n : Nat) : ((n : Int) == 0) = !decide (0 < n) := by
  cases n with
  | zero => rfl
  | succ n => simp; omega

/-! ### Trees -/
def stepKid (T : Nat → Option (Nat × Nat)) (st : Option (Nat × Nat)) (k : Int) : Option (Nat × Nat) :=
  match st with
  | none => none
  | some (b, h) => if b ≠ 0 ∧ k = (b : Int) - 1 then (T (b - 1)).map (fun p => (p.1, max h p.2)) else none

def tree (K : Nat → List Int) : Nat → Nat → Option (Nat × Nat)
  | 0, _ => none
  | f + 1, n => ((K n).reverse.foldl (stepKid (tree K f)) (some (n, 0))).map fun p => (p.1, p.2 + 1)

theorem fold_none (T : Nat → Option (Nat × Nat)) (l : List Int) : l.foldl (stepKid T) none = none := by
  induction l with
  | nil => rfl
  | cons k l ih => exact ih

theorem step_some {T : Nat → Option (Nat × Nat)} {b h : Nat} {k : Int} {q : Nat × Nat} (e : stepKid T (some (b, h)) k = some q) :
    b ≠ 0 ∧ k = (b : Int) - 1 ∧ ∃ p, T (b - 1) = some p ∧ q = (p.1, max h p.2) := by
  unfold stepKid at e
  simp only at e
  split at e
  · rename_i hc
    cases ht : T (b - 1) with
    | none => simp [ht] at e
    | some p => simp [ht] at e; exact ⟨hc.1, hc.2, p, rfl, e.symm⟩
  · cases e

theorem fold_cons_some {T : Nat → Option (Nat × Nat)} {b h : Nat} {k : Int} {l : List Int} {q : Nat × Nat} (e : (k :: l).foldl (stepKid T) (some (b, h)) = some q) :
    ∃ p, b ≠ 0 ∧ k = (b : Int) - 1 ∧ T (b - 1) = some p ∧ l.foldl (stepKid T) (some (p.1, max h p.2)) = some q := by
  rw [List.foldl_cons] at e
  cases hs : stepKid T (some (b, h)) k with
  | none => rw [hs, fold_none] at e; cases e
  | some r =>
    obtain ⟨h1, h2, p, h3, rfl⟩ := step_some hs
    exact ⟨p, h1, h2, h3, by rw [hs] at e; exact e⟩

theorem fold_le {T : Nat → Option (Nat × Nat)} (hT : ∀ m p, T m = some p → p.1 ≤ m) : ∀ (l : List Int) (b h : Nat) (q : Nat × Nat), l.foldl (stepKid T) (some (b, h)) = some q → q.1 ≤ b := by
  intro l
  induction l with
  | nil => intro b h q e; simp at e; rw [← e]; exact Nat.le_refl _
  | cons k l ih =>
    intro b h q e
    obtain ⟨p, h1, _, h3, h4⟩ := fold_cons_some e
    have := ih _ _ _ h4
    have := hT _ _ h3
    omega

theorem tree_le (K : Nat → List Int) : ∀ (f n : Nat) (p : Nat × Nat), tree K f n = some p → p.1 ≤ n := by
  intro f
  induction f with
  | zero => intro n p e; cases e
  | succ f ih =>
    intro n p e
    rw [tree] at e
    cases hf : (K n).reverse.foldl (stepKid (tree K f)) (some (n, 0)) with
    | none => simp [hf] at e
    | some q =>
      simp [hf] at e
      have := fold_le ih _ _ _ _ hf
      rw [← e]
      exact this

theorem fold_congr {T T' : Nat → Option (Nat × Nat)} (N : Nat) (hT : ∀ m p, T m = some p → p.1 ≤ m) (he : ∀ m, m < N → T m = T' m) : ∀ (l : List Int) (b h : Nat), b ≤ N → l.foldl (stepKid T) (some (b, h)) = l.foldl (stepKid T') (some (b, h)) := by
  intro l
  induction l with
  | nil => intro b h _; rfl
  | cons k l ih =>
    intro b h hb
    rw [List.foldl_cons, List.foldl_cons]
    by_cases hc : b ≠ 0 ∧ k = (b : Int) - 1
    · have e1 : T (b - 1) = T' (b - 1) := he _ (by omega)
      cases ht : T (b - 1) with
      | none =>
        rw [show stepKid T (some (b, h)) k = none by simp [stepKid, hc, ht], show stepKid T' (some (b, h)) k = none by simp [stepKid, hc, ← e1, ht], fold_none, fold_none]
      | some p =>
        rw [show stepKid T (some (b, h)) k = some (p.1, max h p.2) by simp only [stepKid]; rw [if_pos hc, ht]; rfl, show stepKid T' (some (b, h)) k = some (p.1, max h p.2) by simp only [stepKid]; rw [if_pos hc, ← e1, ht]; rfl]
        have := hT _ _ ht
        exact ih _ _ (by omega)
    · rw [show stepKid T (some (b, h)) k = none by simp only [stepKid]; rw [if_neg hc], show stepKid T' (some (b, h)) k = none by simp only [stepKid]; rw [if_neg hc], fold_none, fold_none]

theorem tree_fuel (K : Nat → List Int) : ∀ (N n f g : Nat), n < N → n < f → n < g → tree K f n = tree K g n := by
  intro N
  induction N with
  | zero => intro n f g h; omega
  | succ N ih =>
    intro n f g hN hf hg
    match f, g with
    | 0, _ => omega
    | _ + 1, 0 => omega
    | f + 1, g + 1 =>
      rw [tree, tree]
      rw [fold_congr n (tree_le K f) (fun m hm => ih m f g (by omega) (by omega) (by omega)) _ _ _ (Nat.le_refl _)]

/-- The tree of node n: its first node and how deep it is; none: it is no tree. -/
def tr (K : Nat → List Int) (n : Nat) : Option (Nat × Nat) := tree K (n + 1) n

theorem tr_le {K : Nat → List Int} {n : Nat} {p : Nat × Nat} (h : tr K n = some p) : p.1 ≤ n := tree_le K _ _ _ h

theorem tr_eq (K : Nat → List Int) (n : Nat) : tr K n = ((K n).reverse.foldl (stepKid (tr K)) (some (n, 0))).map fun p => (p.1, p.2 + 1) := by
  rw [tr, tree]
  rw [fold_congr n (tree_le K n) (fun m hm => tree_fuel K (n + 1) m n (m + 1) (by omega) (by omega) (by omega)) _ _ _ (Nat.le_refl _)]
  rfl

theorem tr_local {K K' : Nat → List Int} : ∀ (N : Nat), (∀ m, m < N → K m = K' m) → ∀ n, n < N → tr K n = tr K' n := by
  intro N h n
  induction n using Nat.strongRecOn with
  | ind n ih =>
    intro hn
    rw [tr_eq, tr_eq, h n hn, fold_congr n (fun m p hp => tr_le hp) (fun m hm => ih m hm (by omega)) _ _ _ (Nat.le_refl _)]

theorem fold_deep {T : Nat → Option (Nat × Nat)} (hT : ∀ m p, T m = some p → p.1 ≤ m ∧ p.2 ≤ m + 1) : ∀ (l : List Int) (b h : Nat) (q : Nat × Nat) (N : Nat), b ≤ N → h ≤ N → l.foldl (stepKid T) (some (b, h)) = some q → q.2 ≤ N := by
  intro l
  induction l with
  | nil => intro b h q N hb hh e; simp at e; rw [← e]; exact hh
  | cons k l ih =>
    intro b h q N hb hh e
    obtain ⟨p, h1, _, h3, h4⟩ := fold_cons_some e
    have := hT _ _ h3
    exact ih _ _ _ N (by omega) (by omega) h4

theorem tr_deep {K : Nat → List Int} : ∀ (n : Nat) (p : Nat × Nat), tr K n = some p → p.1 ≤ n ∧ p.2 ≤ n + 1 := by
  intro n
  induction n using Nat.strongRecOn with
  | ind n ih =>
    intro p e
    refine ⟨tr_le e, ?_⟩
    rw [tr_eq] at e
    have hx : (K n).reverse.foldl (stepKid (tr K)) (some (n, 0)) = (K n).reverse.foldl (stepKid fun m => if m < n then tr K m else none) (some (n, 0)) :=
      fold_congr n (fun m p hp => tr_le hp) (fun m hm => by rw [if_pos hm]) _ _ _ (Nat.le_refl _)
    rw [hx] at e
    cases hf : (K n).reverse.foldl (stepKid fun m => if m < n then tr K m else none) (some (n, 0)) with
    | none => simp [hf] at e
    | some q =>
      rw [hf] at e
      simp at e
      have := fold_deep (T := fun m => if m < n then tr K m else none) (fun m p hp => by
        by_cases hm : m < n
        · simp only [if_pos hm] at hp; exact ih m hm p hp
        · simp only [if_neg hm] at hp; cases hp) _ _ _ _ n (Nat.le_refl _) (Nat.zero_le _) hf
      rw [← e]
      simp only
      omega

theorem fold_span {T : Nat → Option (Nat × Nat)} (hT : ∀ m p, T m = some p → p.1 ≤ m) : ∀ (l : List Int) (b h : Nat) (q : Nat × Nat), l.foldl (stepKid T) (some (b, h)) = some q → ∀ m, q.1 ≤ m → m < b → ∃ c p, T c = some p ∧ c < b ∧ p.1 ≤ m ∧ m ≤ c := by
  intro l
  induction l with
  | nil => intro b h q e m h1 h2; simp at e; rw [← e] at h1; simp only at h1; omega
  | cons k l ih =>
    intro b h q e m h1 h2
    obtain ⟨p, g1, _, g3, g4⟩ := fold_cons_some e
    by_cases hm : p.1 ≤ m
    · exact ⟨b - 1, p, g3, by omega, hm, by omega⟩
    · obtain ⟨c, p', e1, e2, e3, e4⟩ := ih _ _ _ g4 m h1 (by omega)
      have := hT _ _ g3
      exact ⟨c, p', e1, by omega, e3, e4⟩

theorem tr_span {K : Nat → List Int} : ∀ (n : Nat) (p : Nat × Nat), tr K n = some p → ∀ m, p.1 ≤ m → m ≤ n → ∃ q, tr K m = some q := by
  intro n
  induction n using Nat.strongRecOn with
  | ind n ih =>
    intro p e m h1 h2
    by_cases hm : m = n
    · exact ⟨p, hm ▸ e⟩
    rw [tr_eq] at e
    cases hf : (K n).reverse.foldl (stepKid (tr K)) (some (n, 0)) with
    | none => simp [hf] at e
    | some q =>
      rw [hf] at e
      simp at e
      rw [← e] at h1
      obtain ⟨c, p', e1, e2, e3, e4⟩ := fold_span (fun m p hp => tr_le hp) _ _ _ _ hf m h1 (by omega)
      exact ih c e2 p' e1 m e3 e4

theorem fold_kids {T : Nat → Option (Nat × Nat)} (hT : ∀ m p, T m = some p → p.1 ≤ m) : ∀ (l : List Int) (b h : Nat) (q : Nat × Nat), l.foldl (stepKid T) (some (b, h)) = some q → ∀ k ∈ l, 0 ≤ k ∧ k ≤ (b : Int) - 1 := by
  intro l
  induction l with
  | nil => intro b h q e k hk; cases hk
  | cons x l ih =>
    intro b h q e k hk
    obtain ⟨p, g1, g2, g3, g4⟩ := fold_cons_some e
    have := hT _ _ g3
    rcases List.mem_cons.1 hk with rfl | hk
    · omega
    · have := ih _ _ _ g4 k hk
      omega

theorem tr_kids {K : Nat → List Int} {n : Nat} {p : Nat × Nat} (e : tr K n = some p) : ∀ k ∈ K n, 0 ≤ k ∧ k ≤ (n : Int) - 1 := by
  rw [tr_eq] at e
  cases hf : (K n).reverse.foldl (stepKid (tr K)) (some (n, 0)) with
  | none => simp [hf] at e
  | some q => exact fun k hk => fold_kids (fun m p hp => tr_le hp) _ _ _ _ hf k (by simpa using hk)

/-! ### Right values, said twice -/
def nodeAt (vs : List VN) (i : Nat) : VN := vs.getD i VN.zero
def kidsOf (vs : List VN) (i : Nat) : List Int := (nodeAt vs i).kids
def kidsIn (vs : List VN) (i : Nat) : Bool := (kidsOf vs i).all fun k => decide (0 ≤ k) && decide (k ≤ (i : Int) - 1)
def rootB (vs : List VN) : Bool := match tr (kidsOf vs) (vs.length - 1) with
  | some p => decide (p.1 = 0) && decide (p.2 ≤ 8)
  | none => false
def sizeB (vs : List VN) : Bool := decide (1 ≤ vs.length) && decide (vs.length ≤ 80)
/-- As the recursion from the root says it. -/
def okB (vs : List VN) : Bool := sizeB vs && ((List.range vs.length).all fun i => nodeB (nodeAt vs i) && kidsIn vs i) && rootB vs
/-- As the table over all nodes says it. -/
def tabB (vs : List VN) : Bool := sizeB vs && ((List.range vs.length).all fun i => nodeB (nodeAt vs i)) && (((List.range vs.length).all fun i => (tr (kidsOf vs) i).isSome) && rootB vs)

theorem okB_eq (vs : List VN) : tabB vs = okB vs := by
  rw [Bool.eq_iff_iff]
  unfold tabB okB
  simp only [Bool.and_eq_true, List.all_eq_true, List.mem_range]
  constructor
  · rintro ⟨⟨h1, h2⟩, h3, h4⟩
    refine ⟨⟨h1, fun i hi => ⟨h2 i hi, ?_⟩⟩, h4⟩
    obtain ⟨p, hp⟩ := Option.isSome_iff_exists.1 (h3 i hi)
    unfold kidsIn
    simp only [List.all_eq_true, Bool.and_eq_true, decide_eq_true_eq]
    exact tr_kids hp
  · rintro ⟨⟨h1, h2⟩, h3⟩
    refine ⟨⟨h1, fun i hi => (h2 i hi).1⟩, fun i hi => ?_, h3⟩
    unfold rootB at h3
    cases hr : tr (kidsOf vs) (vs.length - 1) with
    | none => rw [hr] at h3; cases h3
    | some p =>
      rw [hr] at h3
      simp at h3
      obtain ⟨q, hq⟩ := tr_span _ _ hr i (by omega) (by omega)
      rw [hq]
      rfl

end Go.Proofs.YtgmnihofkpjboaaGreatDoor
