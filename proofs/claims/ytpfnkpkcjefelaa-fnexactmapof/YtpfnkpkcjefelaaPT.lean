/-
  Paths into nodes: where a step leads, said by the place of a key among keys that rise. Plain mathematics.
-/
import Derived.Test.YtpfnkpkcjefelaaStbB
import Derived.Test.YtpfnkpkcjefelaaPartOk
import Derived.Test.YtpfnkpkcjefelaaTree
namespace Go.Proofs.Ytpfnkpkcjefelaa
open Go.RowKit
set_option linter.unusedSimpArgs false
set_option linter.unusedVariables false

theorem bytes_lt (x : List UInt8) : ∀ y : List UInt8, Op.bytesLess x y = true ↔ x < y := by
  induction x with
  | nil => intro y; cases y <;> simp [Op.bytesLess]
  | cons a x ih =>
    intro y
    cases y with
    | nil => simp [Op.bytesLess]
    | cons b y =>
      have h := ih y
      rw [List.cons_lt_cons_iff, ← h]
      by_cases h1 : a < b <;> by_cases h2 : a = b <;> simp [Op.bytesLess, h1, h2]

theorem less_iff (a b : ByteArray) : lessB a b = true ↔ a.toList < b.toList := bytes_lt _ _

theorem less_trans {a b c : ByteArray} (h1 : lessB a b = true) (h2 : lessB b c = true) : lessB a c = true := by
  rw [less_iff] at *; exact List.lt_trans h1 h2
theorem less_irr (a : ByteArray) : lessB a a = false := by
  cases h : lessB a a
  · rfl
  · rw [less_iff] at h; exact absurd h (List.lt_irrefl _)
theorem less_total {a b : ByteArray} (h1 : lessB a b = false) (h2 : a.toList ≠ b.toList) : lessB b a = true := by
  have h3 : ¬ a.toList < b.toList := fun h => by rw [← less_iff] at h; rw [h1] at h; cases h
  rw [less_iff]
  by_cases h : b.toList < a.toList
  · exact h
  · exact absurd (List.le_antisymm (List.not_lt.1 h) (List.not_lt.1 h3)) h2

/-- Keys rise: each is ahead of the next one. -/
def Rise (l : List ByteArray) : Prop := ∀ i j, i < j → j < l.length → lessB (keyAt l i) (keyAt l j) = true

theorem riseB_rise {l : List ByteArray} (h : riseB l = true) : Rise l := by
  unfold riseB at h
  rw [List.all_eq_true] at h
  have h1 : ∀ j, j < l.length → 0 < j → lessB (keyAt l (j - 1)) (keyAt l j) = true := by
    intro j hj h0
    have := h j (List.mem_range.2 hj)
    unfold riseAt at this
    simp only [Bool.and_eq_true, Bool.or_eq_true, decide_eq_true_eq] at this
    rcases this.2 with e | e
    · omega
    · exact e
  intro i j hij hj
  induction j with
  | zero => omega
  | succ j ih =>
    have h2 := h1 (j + 1) hj (by omega)
    rw [Nat.add_sub_cancel] at h2
    by_cases e : i = j
    · subst e; exact h2
    · exact less_trans (ih (by omega) (by omega)) h2

/-- How many keys are ahead. -/
def posK (l : List ByteArray) (key : ByteArray) : Nat := (l.takeWhile fun k => lessB k key).length
/-- Is the key there? -/
def hasK (l : List ByteArray) (key : ByteArray) : Bool := decide (posK l key < l.length) && decide ((keyAt l (posK l key)).toList = key.toList)

theorem take_len {p : ByteArray → Bool} : ∀ {l : List ByteArray} {i : Nat}, i ≤ l.length → (∀ j, j < i → p (keyAt l j) = true) → (i < l.length → p (keyAt l i) = false) → (l.takeWhile p).length = i := by
  intro l
  induction l with
  | nil => intro i hi _ _; simp at hi; subst hi; rfl
  | cons a l ih =>
    intro i hi h1 h2
    cases i with
    | zero =>
      have := h2 (by simp)
      simp [keyAt] at this
      simp [List.takeWhile_cons, this]
    | succ i =>
      have ha := h1 0 (by omega)
      simp [keyAt] at ha
      rw [List.takeWhile_cons, if_pos ha, List.length_cons]
      rw [ih (i := i) (by simp at hi; omega) (fun j hj => by have := h1 (j + 1) (by omega); simpa [keyAt] using this) (fun hl => by have := h2 (by simp; omega); simpa [keyAt] using this)]

theorem posK_eq {l : List ByteArray} {key : ByteArray} {i : Nat} (hi : i ≤ l.length) (h1 : ∀ j, j < i → lessB (keyAt l j) key = true) (h2 : i < l.length → lessB (keyAt l i) key = false) : posK l key = i := take_len hi h1 h2

theorem posK_spec {l : List ByteArray} (key : ByteArray) : posK l key ≤ l.length ∧ (∀ j, j < posK l key → lessB (keyAt l j) key = true) ∧ (posK l key < l.length → lessB (keyAt l (posK l key)) key = false) := by
  unfold posK
  induction l with
  | nil => exact ⟨by simp, fun j hj => absurd hj (by simp), fun h => absurd h (by simp)⟩
  | cons a l ih =>
    cases h : lessB a key
    · rw [List.takeWhile_cons, h]
      refine ⟨by simp, fun j hj => absurd hj (by simp), fun _ => ?_⟩
      simpa [keyAt] using h
    · rw [List.takeWhile_cons, h]
      simp only [if_true, List.length_cons]
      refine ⟨by omega, fun j hj => ?_, fun hl => ?_⟩
      · cases j with
        | zero => simpa [keyAt] using h
        | succ j => have := ih.2.1 j (by omega); simpa [keyAt] using this
      · have := ih.2.2 (by omega); simpa [keyAt] using this

/-- Keys behind the place are not ahead of the key, but for the first they are behind it. -/
theorem Rise.behind {l : List ByteArray} (h : Rise l) {key : ByteArray} {i : Nat} (hi : i < l.length) (h1 : lessB (keyAt l i) key = false) {j : Nat} (hij : i < j) (hj : j < l.length) : lessB (keyAt l j) key = false ∧ (keyAt l j).toList ≠ key.toList := by
  have h2 := h i j hij hj
  have key1 : lessB key (keyAt l j) = true := by
    by_cases e : (keyAt l i).toList = key.toList
    · rw [less_iff] at h2 ⊢; rw [← e]; exact h2
    · exact less_trans (less_total h1 e) h2
  rw [less_iff] at key1
  refine ⟨?_, fun e => ?_⟩
  · cases h3 : lessB (keyAt l j) key
    · rfl
    · rw [less_iff] at h3; exact absurd (List.lt_trans h3 key1) (List.lt_irrefl _)
  · rw [e] at key1; exact absurd key1 (List.lt_irrefl _)

theorem less_ne {a b : ByteArray} (h : lessB a b = true) : a.toList ≠ b.toList := fun e => by
  rw [less_iff, e] at h; exact absurd h (List.lt_irrefl _)

/-- The place to which a step leads, of a value of that kind with those keys and so many parts. -/
def stepTo (kind : Int) (keys : List ByteArray) (n : Nat) (x : PS) : Option Nat :=
  if x.named = true then (if kind = 6 ∧ hasK keys x.key = true then some (posK keys x.key) else none)
  else if kind = 5 ∧ x.pl < (n : Int) then some x.pl.toNat else none

def stepN (x : VN) (s : PS) : Option Nat := stepTo x.kind x.keys x.kids.length s

/-- The first place of the key. -/
theorem hasK_first {l : List ByteArray} (h : Rise l) {key : ByteArray} {i : Nat} (hi : i < l.length) (he : (keyAt l i).toList = key.toList) (hf : ∀ j, j < i → (keyAt l j).toList ≠ key.toList) : hasK l key = true ∧ posK l key = i := by
  have hp : posK l key = i := posK_eq (by omega) (fun j hj => by
      have := h j i hj hi
      rw [less_iff] at this ⊢
      rw [← he]; exact this) (fun _ => by
      cases h3 : lessB (keyAt l i) key
      · rfl
      · exact absurd he (less_ne h3))
  refine ⟨?_, hp⟩
  unfold hasK
  rw [hp]
  simp [hi, he]

theorem hasK_none {l : List ByteArray} {key : ByteArray} (hf : ∀ j, j < l.length → (keyAt l j).toList ≠ key.toList) : hasK l key = false := by
  unfold hasK
  by_cases h : posK l key < l.length
  · simp [h, hf _ h]
  · simp [h]

/-- Following steps, node by node. -/
def gotN (vs : List VN) : Nat → List PS → Option Nat
  | i, [] => some i
  | i, s :: r => match stepN (nodeAt vs i) s with
    | none => none
    | some k => gotN vs (intAt (nodeAt vs i).kids k).toNat r

theorem stepN_lt {vs : List VN} {i k : Nat} {s : PS} (hs : s.named = true ∨ 0 ≤ s.pl) (hk : (nodeAt vs i).kind = 6 → (nodeAt vs i).keys.length = (nodeAt vs i).kids.length) (h : stepN (nodeAt vs i) s = some k) : k < (nodeAt vs i).kids.length := by
  unfold stepN stepTo at h
  split at h
  · split at h
    · rename_i h1 h2
      simp only [Option.some.injEq] at h
      subst h
      have := h2.2
      unfold hasK at this
      simp at this
      rw [← hk h2.1]
      exact this.1
    · cases h
  · split at h
    · rename_i h1 h2
      simp only [Option.some.injEq] at h
      subst h
      rcases hs with e | e
      · rw [e] at h1; exact absurd rfl h1
      · omega
    · cases h

theorem gotN_append (vs : List VN) : ∀ (p : List PS) (i : Nat) (s : PS), gotN vs i (p ++ [s]) = (gotN vs i p).bind fun j => match stepN (nodeAt vs j) s with | none => none | some k => some (intAt (nodeAt vs j).kids k).toNat := by
  intro p
  induction p with
  | nil =>
    intro i s
    simp only [List.nil_append, gotN, Option.bind_some]
  | cons a p ih =>
    intro i s
    simp only [List.cons_append, gotN]
    cases stepN (nodeAt vs i) a with
    | none => rfl
    | some k => exact ih _ s

theorem take_step {ps : List PS} {k : Nat} (h : k < ps.length) : ps.take (k + 1) = ps.take k ++ [stepAt ps k] := by
  rw [List.take_add_one, List.getElem?_eq_getElem h]
  simp [stepAt, h]

theorem gotN_none (vs : List VN) (i : Nat) {ps : List PS} {k : Nat} (h : gotN vs i (ps.take k) = none) : gotN vs i ps = none := by
  have e : ps = ps.take k ++ ps.drop k := by simp
  rw [e]
  generalize ps.drop k = r
  generalize ps.take k = q at h
  clear e
  induction q generalizing i with
  | nil => simp [gotN] at h
  | cons a q ih =>
    simp only [gotN, List.cons_append] at h ⊢
    cases hs : stepN (nodeAt vs i) a with
    | none => rfl
    | some k => rw [hs] at h; exact ih _ h
end Go.Proofs.Ytpfnkpkcjefelaa

/-
  Parts as pointers: how a tree of parts lies in memory, each part between two blocks, its rows its own. No walk.
-/
namespace Go.Proofs.Ytpfnkpkcjefelaa
open Go.RowKit
set_option linter.unusedSimpArgs false
set_option linter.unusedVariables false

/-- The blocks of one part itself. -/
def POwn (p : Nat) (ks it : Value) (x : Nat) : Prop := x = p ∨ ks.ownBlock = some x ∨ it.ownBlock = some x

/-- One part in block p: its value, its keys, its n parts; what those are, K says. -/
structure PNode (w : World) (lo hi : Nat) (sv : Value) (keys : List ByteArray) (n : Nat) (K : Nat → Nat → Nat → Value → Prop) (p : Nat) (ks it : Value) (ps : Nat → Value) (ls hs : Nat → Nat) : Prop where
  node : w.ownsRow lo 148 3 (.slice (some ⟨p, 0, none⟩) 1 1) 1 [sv, ks, it]
  keysR : w.ownsRow lo 9 1 ks keys.length (keys.map .string)
  kidsR : w.ownsRow lo 104 1 it n ((List.range n).map ps)
  top : ∀ x, POwn p ks it x → x < hi
  rng : ∀ j, j < n → lo ≤ ls j ∧ ls j ≤ hs j ∧ hs j ≤ hi
  out : ∀ j, j < n → ∀ x, POwn p ks it x → x < ls j ∨ hs j ≤ x
  ord : ∀ i j, i < j → j < n → hs i ≤ ls j
  kid : ∀ j, j < n → K j (ls j) (hs j) (ps j)

def PT (B : Nat) (w : World) : Nat → VT → Nat → Nat → Value → Prop
  | 0, _, _, _, _ => False
  | f + 1, .mk kind n s keys kids, lo, hi, v =>
    ∃ (sv : Value) (p : Nat) (ks it : Value) (ps : Nat → Value) (ls hs : Nat → Nat), v = .pointer (some ⟨p, 0, none⟩) ∧ TreeAt B w (f + 1) (.mk kind n s keys kids) sv ∧
      PNode w lo hi sv keys kids.length (fun j l h u => PT B w f (kidT kids j) l h u) p ks it ps ls hs

theorem own_same {w w' : World} {base e s n : Nat} {v : Value} {xs : List Value} (h : w.ownsRow base e s v n xs) (hb : ∀ x, v.ownBlock = some x → w'.heap[x]? = w.heap[x]?) : w'.ownsRow base e s v n xs := by
  refine ⟨h.1, ?_⟩
  rcases h.2 with hn | ⟨g, cap, cur, rfl, hg, hgg, rest⟩
  · exact .inl hn
  · exact .inr ⟨g, cap, cur, rfl, hg, (hb g rfl).trans hgg, rest⟩

theorem PNode.lt {w : World} {lo hi : Nat} {sv : Value} {keys : List ByteArray} {n : Nat} {K : Nat → Nat → Nat → Value → Prop} {p : Nat} {ks it : Value} {ps : Nat → Value} {ls hs : Nat → Nat} (h : PNode w lo hi sv keys n K p ks it ps ls hs) {x : Nat} (hx : POwn p ks it x) : lo ≤ x ∧ x < w.heap.size := by
  rcases hx with rfl | hx | hx
  · exact h.node.lt x rfl
  · exact h.keysR.lt x hx
  · exact h.kidsR.lt x hx

/-- The blocks between lo and hi, and those below B, are all that matters. -/
theorem PT.move {B : Nat} {w w' : World} (h1 : ∀ k, k < B → w'.heap[k]? = w.heap[k]?) : ∀ {f : Nat} {t : VT} {lo hi lo' hi' : Nat} {v : Value}, lo' ≤ lo → hi ≤ hi' → (∀ k, lo ≤ k → k < hi → w'.heap[k]? = w.heap[k]?) → PT B w f t lo hi v → PT B w' f t lo' hi' v := by
  intro f
  induction f with
  | zero => intro t lo hi lo' hi' v _ _ _ h; exact h.elim
  | succ f ih =>
    intro t lo hi lo' hi' v hl hh h2 h
    obtain ⟨kind, n, s, keys, kids⟩ := t
    obtain ⟨sv, p, ks, it, ps, ls, hs, e, ht, hp⟩ := h
    have hb : ∀ x, POwn p ks it x → w'.heap[x]? = w.heap[x]? := fun x hx => h2 x (hp.lt hx).1 (hp.top x hx)
    refine ⟨sv, p, ks, it, ps, ls, hs, e, TreeAt.keep h1 (Nat.le_refl _) ht, ⟨?_, ?_, ?_, fun x hx => Nat.lt_of_lt_of_le (hp.top x hx) hh, fun j hj => ?_, hp.out, hp.ord, fun j hj => ?_⟩⟩
    · exact own_mono (own_same hp.node (fun x hx => hb x (Or.inl (by simpa [Value.ownBlock] using hx.symm)))) hl
    · exact own_mono (own_same hp.keysR (fun x hx => hb x (Or.inr (Or.inl hx)))) hl
    · exact own_mono (own_same hp.kidsR (fun x hx => hb x (Or.inr (Or.inr hx)))) hl
    · have := hp.rng j hj; omega
    · have hr := hp.rng j hj
      exact ih (Nat.le_refl _) (Nat.le_refl _) (fun k h3 h4 => h2 k (by omega) (by omega)) (hp.kid j hj)

theorem PT.below {B : Nat} {w w' : World} {f : Nat} {t : VT} {lo hi : Nat} {v : Value} (h : PT B w f t lo hi v) (hb : Below w.heap.size w w') (hB : B ≤ w.heap.size) (hh : hi ≤ w.heap.size) : PT B w' f t lo hi v :=
  h.move (fun k hk => hb.block k (by omega)) (Nat.le_refl _) (Nat.le_refl _) (fun k _ hk => hb.block k (by omega))

theorem PT.more {B : Nat} {w : World} : ∀ {f g : Nat} {t : VT} {lo hi : Nat} {v : Value}, f ≤ g → PT B w f t lo hi v → PT B w g t lo hi v := by
  intro f
  induction f with
  | zero => intro g t lo hi v _ h; exact h.elim
  | succ f ih =>
    intro g t lo hi v hfg h
    match g, hfg with
    | g + 1, hfg =>
      obtain ⟨kind, n, s, keys, kids⟩ := t
      obtain ⟨sv, p, ks, it, ps, ls, hs, e, ht, hp⟩ := h
      exact ⟨sv, p, ks, it, ps, ls, hs, e, TreeAt.more hfg ht, hp.node, hp.keysR, hp.kidsR, hp.top, hp.rng, hp.out, hp.ord, fun j hj => ih (by omega) (hp.kid j hj)⟩

/-- One part more. -/
theorem PNode.snoc {B : Nat} {wr w1 w5 : World} {lo : Nat} {sv : Value} {keys : List ByteArray} {k f : Nat} {T : Nat → VT} {p : Nat} {ks it u : Value} {ps : Nat → Value} {ls hs : Nat → Nat} {o : Obj} {g cap : Nat}
    (h : PNode wr lo wr.heap.size sv keys k (fun j l h u => PT B wr f (T j) l h u) p ks it ps ls hs) (hB : B ≤ lo) (hlo : lo ≤ wr.heap.size) (hb : Below wr.heap.size wr w1) (hk : PT B w1 f (T k) wr.heap.size w1.heap.size u)
    (hown : w5.ownsRow lo 104 1 (.slice (some ⟨g, 0, none⟩) (k + 1) cap) (k + 1) ((List.range k).map ps ++ [u])) (hg : (w1.alloc o).grownBy w5 it.ownBlock) (hor : it.ownBlock = some g ∨ g = w1.heap.size + 1) :
    PNode (w5.setCell ⟨p, 2, none⟩ (.slice (some ⟨g, 0, none⟩) (k + 1) cap)) lo (w5.setCell ⟨p, 2, none⟩ (.slice (some ⟨g, 0, none⟩) (k + 1) cap)).heap.size sv keys (k + 1)
      (fun j l h u => PT B (w5.setCell ⟨p, 2, none⟩ (.slice (some ⟨g, 0, none⟩) (k + 1) cap)) f (T j) l h u) p ks (.slice (some ⟨g, 0, none⟩) (k + 1) cap) (updF ps k u) (updF ls k wr.heap.size) (updF hs k w1.heap.size) := by
  have hs1 := hb.size
  have hgs : w1.heap.size + 1 ≤ w5.heap.size := by simpa using hg.size
  have hpl := (h.lt (Or.inl rfl)).2
  have ane : it.ownBlock ≠ some p := fun e => by
    rcases own_apart h.kidsR h.node (by decide) with e2 | e2
    · rw [e2] at e; cases e
    · exact e2 (by rw [e]; rfl)
  have kp1 : ∀ c, c < w1.heap.size → it.ownBlock ≠ some c → w5.heap[c]? = w1.heap[c]? := fun c h1 h2 =>
    (hg.block c (by simp; omega) (fun e => h2 e.symm)).trans (Below.block ((Below.refl w1.heap.size w1).alloc (Nat.le_refl _) o) c h1)
  have kp : ∀ c, c < wr.heap.size → it.ownBlock ≠ some c → w5.heap[c]? = wr.heap[c]? := fun c h1 h2 => (kp1 c (by omega) h2).trans (hb.block c h1)
  have st : ∀ c, c ≠ p → (w5.setCell ⟨p, 2, none⟩ (.slice (some ⟨g, 0, none⟩) (k + 1) cap)).heap[c]? = w5.heap[c]? := fun c hc => Below.heap_setCell w5 _ _ c hc
  have hn5 : w5.ownsRow lo 148 3 (.slice (some ⟨p, 0, none⟩) 1 1) 1 [sv, ks, it] := own_same h.node (fun x hx => by
    have e : p = x := by simpa [Value.ownBlock] using hx
    subst e; exact kp p hpl ane)
  have hk5 : w5.ownsRow lo 9 1 ks keys.length (keys.map .string) := own_same h.keysR (fun x hx => kp x (h.lt (Or.inr (Or.inl hx))).2 (fun e => by
    rcases own_apart h.keysR h.kidsR (by decide) with e2 | e2
    · rw [e2] at hx; cases hx
    · exact e2 (hx.trans e.symm)))
  have hkl := h.keysR.lt
  have hil := h.kidsR.lt
  have hgl := (hown.lt g rfl).2
  have hgp : g ≠ p := by
    rintro rfl
    rcases own_apart hown hn5 (by decide) with e2 | e2
    · cases e2
    · exact e2 rfl
  have own' : ∀ x, POwn p ks (.slice (some ⟨g, 0, none⟩) (k + 1) cap) x → POwn p ks it x ∨ x = w1.heap.size + 1 := by
    rintro x (rfl | hx | hx)
    · exact Or.inl (Or.inl rfl)
    · exact Or.inl (Or.inr (Or.inl hx))
    · have e : g = x := by simpa [Value.ownBlock] using hx
      subst e
      rcases hor with e | e
      · exact Or.inl (Or.inr (Or.inr e))
      · exact Or.inr e
  refine ⟨?_, ?_, ?_, fun x hx => ?_, fun j hj => ?_, fun j hj x hx => ?_, fun i j hij hj => ?_, fun j hj => ?_⟩
  · have := (hn5.stored 2 (.slice (some ⟨g, 0, none⟩) (k + 1) cap)).1
    simpa using this
  · exact own_set hk5 _ (fun x hx e => by
      subst e
      rcases own_apart hk5 hn5 (by decide) with e2 | e2
      · rw [e2] at hx; cases hx
      · exact e2 (by rw [hx]; rfl))
  · rw [range_map_snoc]
    exact own_set hown _ (fun x hx e => by
      have e3 : g = x := by simpa [Value.ownBlock] using hx
      exact hgp (e3.trans e))
  · rw [World.size_setCell]
    rcases own' x hx with h1 | h1
    · have := h.lt h1; omega
    · rcases hx with rfl | hx | hx
      · omega
      · have := hkl x hx; omega
      · have e : g = x := by simpa [Value.ownBlock] using hx
        omega
  · rw [World.size_setCell]
    by_cases e : j = k
    · subst e; rw [updF_same, updF_same]; omega
    · rw [updF_other _ _ e, updF_other _ _ e]
      have := h.rng j (by omega)
      omega
  · by_cases e : j = k
    · subst e
      rw [updF_same, updF_same]
      rcases own' x hx with h1 | h1
      · have := h.lt h1; omega
      · omega
    · rw [updF_other _ _ e, updF_other _ _ e]
      have := h.rng j (by omega)
      rcases own' x hx with h1 | h1
      · exact h.out j (by omega) x h1
      · omega
  · by_cases e : j = k
    · subst e
      rw [updF_same, updF_other _ _ (by omega)]
      have := h.rng i (by omega)
      omega
    · rw [updF_other _ _ e, updF_other _ _ (by omega)]
      exact h.ord i j hij (by omega)
  · by_cases e : j = k
    · subst e
      rw [updF_same, updF_same, updF_same]
      refine hk.move (fun c hc => ?_) (Nat.le_refl _) (Nat.le_refl _) (fun c h1 h2 => ?_)
      · exact (st c (by have := (h.lt (Or.inl rfl)).1; omega)).trans (kp1 c (by omega) (fun e => by have := hil c e; omega))
      · exact (st c (by omega)).trans (kp1 c h2 (fun e => by have := hil c e; omega))
    · rw [updF_other _ _ e, updF_other _ _ e, updF_other _ _ e]
      have hr := h.rng j (by omega)
      refine (h.kid j (by omega)).move (fun c hc => ?_) (Nat.le_refl _) (Nat.le_refl _) (fun c h1 h2 => ?_)
      · exact (st c (by have := (h.lt (Or.inl rfl)).1; omega)).trans (kp c (by omega) (fun e => by have := hil c e; omega))
      · exact (st c (fun e => by have := h.out j (by omega) p (Or.inl rfl); omega)).trans (kp c (by omega) (fun e => by have := h.out j (by omega) c (Or.inr (Or.inr e)); omega))
end Go.Proofs.Ytpfnkpkcjefelaa
