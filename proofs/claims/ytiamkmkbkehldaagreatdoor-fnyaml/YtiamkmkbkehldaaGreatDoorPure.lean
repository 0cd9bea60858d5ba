/-
  Plain: what escaping makes of bytes.
-/
import Derived.Lib.Builder
import Derived.WalkKit
import Derived.Laws.IdiomStrings
namespace Go.Proofs.YtiamkmkbkehldaaGreatDoor
set_option linter.unusedSimpArgs false
set_option linter.unusedVariables false

/-- The sign of a number below 16. -/
def hexS : List UInt8 := [48, 49, 50, 51, 52, 53, 54, 55, 56, 57, 97, 98, 99, 100, 101, 102]
def hexB (n : Nat) : UInt8 := hexS.getD n 0
end Go.Proofs.YtiamkmkbkehldaaGreatDoor

/-
  Texts as rows of bytes (no program).
-/
namespace Go.Proofs.YtiamkmkbkehldaaGreatDoor
open Go.RowKit
set_option linter.unusedSimpArgs false
set_option linter.unusedVariables false

theorem hideB {p : Prop} (h : p) : Hid p := h
theorem len_is (s : ByteArray) : s.data.toList.length = s.size := Array.length_toList
/-- A text of these bytes. -/
def txt (l : List UInt8) : ByteArray := ⟨l.toArray⟩
theorem txt_size (l : List UInt8) : (txt l).size = l.length := by simp [txt, ByteArray.size]
theorem txt_app (l m : List UInt8) : txt l ++ txt m = txt (l ++ m) := by
  apply ByteArray.ext; simp [txt]
theorem txt_bytes (s : ByteArray) : txt s.data.toList = s := by
  apply ByteArray.ext; simp [txt]
theorem bytes_txt (l : List UInt8) : (txt l).data.toList = l := by simp [txt]
theorem ret_str {a b : ByteArray} (h : a = b) : Ending.returned (.string a) = Ending.returned (.string b) := by rw [h]
theorem str_txt {a b : ByteArray} (h : a = b) : Value.string a = Value.string b := by rw [h]
theorem app_txt (l : List UInt8) (s : ByteArray) : txt l ++ s = txt (l ++ s.data.toList) := by
  conv => lhs; rw [← txt_bytes s]
  exact txt_app _ _
theorem getK {s : ByteArray} {k : Nat} (h : k < s.size) (h' : k < s.data.toList.length) : s.data.toList[k] = s[k] := by
  simp [ByteArray.getElem_eq_getElem_data]
theorem getK? {s : ByteArray} {k : Nat} (h : k < s.size) : s.data.toList[k]? = some s[k] := by
  rw [List.getElem?_eq_getElem (by rw [len_is]; exact h), getK h]
theorem str_eq {a b : ByteArray} (h : (a.toList == b.toList) = true) : a = b := by
  have h' := eq_of_beq h
  rw [ByteArray.toList_eq, ByteArray.toList_eq] at h'
  rw [← txt_bytes a, ← txt_bytes b, h']
theorem cut_txt (s : ByteArray) (a b : Nat) : s.extract a b = txt ((s.data.toList.drop a).take (b - a)) := by
  conv => lhs; rw [← txt_bytes s]
  exact ByteArray.extract_mk _ _ _
theorem u8_ne {c d : UInt8} (h : ¬ c = d) : ¬ (c.toNat : Int) = (d.toNat : Int) := fun e => h (UInt8.toNat_inj.1 (by omega))
theorem u8_wrap {x : Int} (h0 : 0 ≤ x) (h1 : x < 256) : IntKind.u8.wrap x = x := by
  simp [IntKind.wrap, show IntKind.u8.bits = 8 from rfl, show IntKind.u8.signed = false from rfl]; omega
theorem i64_wrap {x : Int} (h0 : -4611686018427387904 ≤ x) (h1 : x < 4611686018427387904) : IntKind.i64.wrap x = x := by
  have e : IntKind.i64.bits = 64 := rfl
  have e2 : IntKind.i64.signed = true := rfl
  simp [IntKind.wrap, e, e2]; omega
theorem u8_quo (c : UInt8) : IntKind.u8.wrap ((c.toNat : Int) / 16) = (c.toNat : Int) / 16 := by
  have := c.toNat_lt; exact u8_wrap (by omega) (by omega)
theorem u8_rem (c : UInt8) : ((c.toNat : Int)).tmod 16 = (c.toNat : Int) % 16 := Int.tmod_eq_emod_of_nonneg (by omega)
theorem run_cut {P : Program} {t : TypeId} (s : ByteArray) (a b : Nat) (h : P.underlying t = some .string) (h1 : a ≤ b) (h2 : b ≤ s.size) (w : World) :
    (Instr.slice t (.string s) (some (.int .i64 (a : Int))) (some (.int .i64 (b : Int))) none).run P w = .ok (.string (txt ((s.data.toList.drop a).take (b - a)))) w := by
  rw [run_slice_string w t s .i64 .i64 (a : Int) (b : Int) h (by omega) (by omega) (by omega), cut_txt]
  simp
theorem take_one {s : ByteArray} {k : Nat} (h : k < s.size) : (s.data.toList.drop k).take (k + 1 - k) = [s[k]] := by
  have h' : k < s.data.toList.length := by rw [len_is]; exact h
  rw [List.drop_eq_getElem_cons h', getK h]
  have : k + 1 - k = 1 := by omega
  rw [this]; rfl
theorem run_one {P : Program} {t : TypeId} {s : ByteArray} {k : Nat} (ht : P.underlying t = some .string) (h : k < s.size) {c : UInt8} (hc : s[k] = c) (w : World) :
    (Instr.slice t (.string s) (some (.int .i64 (k : Int))) (some (.int .i64 ((k : Int) + 1))) none).run P w = .ok (.string (txt [c])) w := by
  have := run_cut (P := P) (t := t) s k (k + 1) ht (by omega) (by omega) w
  rw [take_one h, hc] at this
  exact this
end Go.Proofs.YtiamkmkbkehldaaGreatDoor

/-
  Plain: texts in quotes, as JSON has them.
-/
namespace Go.Proofs.YtiamkmkbkehldaaGreatDoor
set_option linter.unusedSimpArgs false
set_option linter.unusedVariables false

def quoB (c : UInt8) : List UInt8 :=
  if c = 34 then [92, 34] else if c = 92 then [92, 92] else if c = 8 then [92, 98] else if c = 9 then [92, 116] else if c = 10 then [92, 110] else if c = 12 then [92, 102] else if c = 13 then [92, 114]
  else if c < 32 ∨ c = 127 then [92, 117, 48, 48, hexB (c.toNat / 16), hexB (c.toNat % 16)] else [c]
def quo : List UInt8 → List UInt8
  | [] => []
  | c :: l => quoB c ++ quo l
/-- The text in quotes. -/
def quoT (s : ByteArray) : List UInt8 := 34 :: (quo s.data.toList ++ [34])
theorem quoB_len (c : UInt8) : 1 ≤ (quoB c).length ∧ (quoB c).length ≤ 6 := by
  unfold quoB
  repeat' split
  all_goals simp
theorem quo_app (l m : List UInt8) : quo (l ++ m) = quo l ++ quo m := by
  induction l with
  | nil => rfl
  | cons c l ih => simp [quo, ih]
theorem quo_len (l : List UInt8) : (quo l).length ≤ 6 * l.length := by
  induction l with
  | nil => simp [quo]
  | cons c l ih => have := quoB_len c; simp [quo]; omega
theorem quo_snoc (l : List UInt8) (k : Nat) (h : k < l.length) : quo (l.take (k + 1)) = quo (l.take k) ++ quoB l[k] := by
  rw [List.take_succ_eq_append_getElem h, quo_app]; simp [quo]
theorem quo_take_len (l : List UInt8) (k : Nat) : (quo (l.take k)).length ≤ 6 * l.length := by
  have := quo_len (l.take k); have h2 : (l.take k).length ≤ l.length := by rw [List.length_take]; omega
  omega
theorem quoT_len (s : ByteArray) : 2 ≤ (quoT s).length ∧ (quoT s).length ≤ 6 * s.size + 2 := by
  have h1 : s.data.toList.length = s.size := Array.length_toList
  have h2 := quo_len s.data.toList
  unfold quoT
  simp only [List.length_cons, List.length_append, List.length_nil]
  omega

/-- The place of a byte that has a letter of its own. -/
def quoS : List UInt8 := [34, 92, 8, 9, 10, 12, 13]
def quoL : List UInt8 := [34, 92, 98, 116, 110, 102, 114]
end Go.Proofs.YtiamkmkbkehldaaGreatDoor

/-
  Plain: numbers as bytes, and MessagePack's bytes of numbers, texts and counts.
-/
namespace Go.Proofs.YtiamkmkbkehldaaGreatDoor
set_option linter.unusedSimpArgs false
set_option linter.unusedVariables false

end Go.Proofs.YtiamkmkbkehldaaGreatDoor

/-
  Plain mathematics on nodes of values: what makes a value right, said twice (by a recursion from the root, and by a table over all nodes), and that both say the same. No Go, no memory.
-/
namespace Go.Proofs.YtiamkmkbkehldaaGreatDoor

/-- A node of a value. -/
structure VN where
  kind : Int
  n : Int
  s : ByteArray
  keys : List ByteArray
  kids : List Int

def VN.zero : VN := ⟨0, 0, ByteArray.empty, [], []⟩

def textB (s : ByteArray) : Bool := decide (s.size ≤ 60) && s.data.toList.all fun c => decide (c.toNat ≤ 127)
def lessB (a b : ByteArray) : Bool := Op.bytesLess a.toList b.toList
def keyAt (l : List ByteArray) (i : Nat) : ByteArray := l.getD i ByteArray.empty
def riseAt (l : List ByteArray) (j : Nat) : Bool := textB (keyAt l j) && (decide (j = 0) || lessB (keyAt l (j - 1)) (keyAt l j))
def riseB (l : List ByteArray) : Bool := (List.range l.length).all (riseAt l)

def unnamedB (x : VN) : Bool :=
  !(decide (x.kind ≠ 2) && decide (x.kind ≠ 3) && decide (x.n ≠ 0)) && !(decide (x.kind ≠ 4) && decide (x.s.toList ≠ [])) &&
  !(decide (x.kind ≠ 6) && decide (0 < x.keys.length)) && !(decide (x.kind ≠ 5) && decide (x.kind ≠ 6) && decide (0 < x.kids.length))

def namedB (x : VN) : Bool :=
  if x.kind = 1 ∨ x.kind = 5 then true
  else if x.kind = 2 then decide (x.n = 0) || decide (x.n = 1)
  else if x.kind = 3 then decide (-1000000000000000 ≤ x.n) && decide (x.n ≤ 1000000000000000)
  else if x.kind = 4 then textB x.s
  else if x.kind = 6 then decide (x.keys.length = x.kids.length) && riseB x.keys
  else false

def nodeB (x : VN) : Bool := unnamedB x && namedB x

theorem len0 (n : Nat) : ((n : Int) == 0) = !decide (0 < n) := by
  cases n with
  | zero => rfl
  | succ n => simp; omega

/-! ### Trees -/
def stepKid (T : Nat → Option (Nat × Nat)) (st : Option (Nat × Nat)) (k : Int) : Option (Nat × Nat) :=
  match st with
  | none => none
  | some (b, h) => if b ≠ 0 ∧ k = (b : Int) - 1 then (T (b - 1)).map (fun p => (p.1, max h p.2)) else none

def tree (K : Nat → List Int) : Nat → Nat → Option (Nat × Nat)
  | 0, _ => none
  | f + 1, n => ((K n).reverse.foldl (stepKid (tree K f)) (some (n, 0))).map fun p => (p.1, p.2 + 1)

theorem fold_none (T : Nat → Option (Nat × Nat)) (l : List Int) : l.foldl (stepKid T) none = none := by
  induction l with
  | nil => rfl
  | cons k l ih => exact ih

theorem step_some {T : Nat → Option (Nat × Nat)} {b h : Nat} {k : Int} {q : Nat × Nat} (e : stepKid T (some (b, h)) k = some q) :
    b ≠ 0 ∧ k = (b : Int) - 1 ∧ ∃ p, T (b - 1) = some p ∧ q = (p.1, max h p.2) := by
  unfold stepKid at e
  simp only at e
  split at e
  · rename_i hc
    cases ht : T (b - 1) with
    | none => simp [ht] at e
    | some p => simp [ht] at e; exact ⟨hc.1, hc.2, p, rfl, e.symm⟩
  · cases e

theorem fold_cons_some {T : Nat → Option (Nat × Nat)} {b h : Nat} {k : Int} {l : List Int} {q : Nat × Nat} (e : (k :: l).foldl (stepKid T) (some (b, h)) = some q) :
    ∃ p, b ≠ 0 ∧ k = (b : Int) - 1 ∧ T (b - 1) = some p ∧ l.foldl (stepKid T) (some (p.1, max h p.2)) = some q := by
  rw [List.foldl_cons] at e
  cases hs : stepKid T (some (b, h)) k with
  | none => rw [hs, fold_none] at e; cases e
  | some r =>
    obtain ⟨h1, h2, p, h3, rfl⟩ := step_some hs
    exact ⟨p, h1, h2, h3, by rw [hs] at e; exact e⟩

theorem fold_le {T : Nat → Option (Nat × Nat)} (hT : ∀ m p, T m = some p → p.1 ≤ m) : ∀ (l : List Int) (b h : Nat) (q : Nat × Nat), l.foldl (stepKid T) (some (b, h)) = some q → q.1 ≤ b := by
  intro l
  induction l with
  | nil => intro b h q e; simp at e; rw [← e]; exact Nat.le_refl _
  | cons k l ih =>
    intro b h q e
    obtain ⟨p, h1, _, h3, h4⟩ := fold_cons_some e
    have := ih _ _ _ h4
    have := hT _ _ h3
    omega

theorem tree_le (K : Nat → List Int) : ∀ (f n : Nat) (p : Nat × Nat), tree K f n = some p → p.1 ≤ n := by
  intro f
  induction f with
  | zero => intro n p e; cases e
  | succ f ih =>
    intro n p e
    rw [tree] at e
    cases hf : (K n).reverse.foldl (stepKid (tree K f)) (some (n, 0)) with
    | none => simp [hf] at e
    | some q =>
      simp [hf] at e
      have := fold_le ih _ _ _ _ hf
      rw [← e]
      exact this

theorem fold_congr {T T' : Nat → Option (Nat × Nat)} (N : Nat) (hT : ∀ m p, T m = some p → p.1 ≤ m) (he : ∀ m, m < N → T m = T' m) : ∀ (l : List Int) (b h : Nat), b ≤ N → l.foldl (stepKid T) (some (b, h)) = l.foldl (stepKid T') (some (b, h)) := by
  intro l
  induction l with
  | nil => intro b h _; rfl
  | cons k l ih =>
    intro b h hb
    rw [List.foldl_cons, List.foldl_cons]
    by_cases hc : b ≠ 0 ∧ k = (b : Int) - 1
    · have e1 : T (b - 1) = T' (b - 1) := he _ (by omega)
      cases ht : T (b - 1) with
      | none =>
        rw [show stepKid T (some (b, h)) k = none by simp [stepKid, hc, ht], show stepKid T' (some (b, h)) k = none by simp [stepKid, hc, ← e1, ht], fold_none, fold_none]
      | some p =>
        rw [show stepKid T (some (b, h)) k = some (p.1, max h p.2) by simp only [stepKid]; rw [if_pos hc, ht]; rfl, show stepKid T' (some (b, h)) k = some (p.1, max h p.2) by simp only [stepKid]; rw [if_pos hc, ← e1, ht]; rfl]
        have := hT _ _ ht
        exact ih _ _ (by omega)
    · rw [show stepKid T (some (b, h)) k = none by simp only [stepKid]; rw [if_neg hc], show stepKid T' (some (b, h)) k = none by simp only [stepKid]; rw [if_neg hc], fold_none, fold_none]

theorem tree_fuel (K : Nat → List Int) : ∀ (N n f g : Nat), n < N → n < f → n < g → tree K f n = tree K g n := by
  intro N
  induction N with
  | zero => intro n f g h; omega
  | succ N ih =>
    intro n f g hN hf hg
    match f, g with
    | 0, _ => omega
    | _ + 1, 0 => omega
    | f + 1, g + 1 =>
      rw [tree, tree]
      rw [fold_congr n (tree_le K f) (fun m hm => ih m f g (by omega) (by omega) (by omega)) _ _ _ (Nat.le_refl _)]

/-- The tree of node n: its first node and how deep it is; none: it is no tree. -/
def tr (K : Nat → List Int) (n : Nat) : Option (Nat × Nat) := tree K (n + 1) n

theorem tr_le {K : Nat → List Int} {n : Nat} {p : Nat × Nat} (h : tr K n = some p) : p.1 ≤ n := tree_le K _ _ _ h

theorem tr_eq (K : Nat → List Int) (n : Nat) : tr K n = ((K n).reverse.foldl (stepKid (tr K)) (some (n, 0))).map fun p => (p.1, p.2 + 1) := by
  rw [tr, tree]
  rw [fold_congr n (tree_le K n) (fun m hm => tree_fuel K (n + 1) m n (m + 1) (by omega) (by omega) (by omega)) _ _ _ (Nat.le_refl _)]
  rfl

theorem fold_deep {T : Nat → Option (Nat × Nat)} (hT : ∀ m p, T m = some p → p.1 ≤ m ∧ p.2 ≤ m + 1) : ∀ (l : List Int) (b h : Nat) (q : Nat × Nat) (N : Nat), b ≤ N → h ≤ N → l.foldl (stepKid T) (some (b, h)) = some q → q.2 ≤ N := by
  intro l
  induction l with
  | nil => intro b h q N hb hh e; simp at e; rw [← e]; exact hh
  | cons k l ih =>
    intro b h q N hb hh e
    obtain ⟨p, h1, _, h3, h4⟩ := fold_cons_some e
    have := hT _ _ h3
    exact ih _ _ _ N (by omega) (by omega) h4

theorem tr_deep {K : Nat → List Int} : ∀ (n : Nat) (p : Nat × Nat), tr K n = some p → p.1 ≤ n ∧ p.2 ≤ n + 1 := by
  intro n
  induction n using Nat.strongRecOn with
  | ind n ih =>
    intro p e
    refine ⟨tr_le e, ?_⟩
    rw [tr_eq] at e
    have hx : (K n).reverse.foldl (stepKid (tr K)) (some (n, 0)) = (K n).reverse.foldl (stepKid fun m => if m < n then tr K m else none) (some (n, 0)) :=
      fold_congr n (fun m p hp => tr_le hp) (fun m hm => by rw [if_pos hm]) _ _ _ (Nat.le_refl _)
    rw [hx] at e
    cases hf : (K n).reverse.foldl (stepKid fun m => if m < n then tr K m else none) (some (n, 0)) with
    | none => simp [hf] at e
    | some q =>
      rw [hf] at e
      simp at e
      have := fold_deep (T := fun m => if m < n then tr K m else none) (fun m p hp => by
        by_cases hm : m < n
        · simp only [if_pos hm] at hp; exact ih m hm p hp
        · simp only [if_neg hm] at hp; cases hp) _ _ _ _ n (Nat.le_refl _) (Nat.zero_le _) hf
      rw [← e]
      simp only
      omega

theorem fold_span {T : Nat → Option (Nat × Nat)} (hT : ∀ m p, T m = some p → p.1 ≤ m) : ∀ (l : List Int) (b h : Nat) (q : Nat × Nat), l.foldl (stepKid T) (some (b, h)) = some q → ∀ m, q.1 ≤ m → m < b → ∃ c p, T c = some p ∧ c < b ∧ p.1 ≤ m ∧ m ≤ c := by
  intro l
  induction l with
  | nil => intro b h q e m h1 h2; simp at e; rw [← e] at h1; simp only at h1; omega
  | cons k l ih =>
    intro b h q e m h1 h2
    obtain ⟨p, g1, _, g3, g4⟩ := fold_cons_some e
    by_cases hm : p.1 ≤ m
    · exact ⟨b - 1, p, g3, by omega, hm, by omega⟩
    · obtain ⟨c, p', e1, e2, e3, e4⟩ := ih _ _ _ g4 m h1 (by omega)
      have := hT _ _ g3
      exact ⟨c, p', e1, by omega, e3, e4⟩

theorem tr_span {K : Nat → List Int} : ∀ (n : Nat) (p : Nat × Nat), tr K n = some p → ∀ m, p.1 ≤ m → m ≤ n → ∃ q, tr K m = some q := by
  intro n
  induction n using Nat.strongRecOn with
  | ind n ih =>
    intro p e m h1 h2
    by_cases hm : m = n
    · exact ⟨p, hm ▸ e⟩
    rw [tr_eq] at e
    cases hf : (K n).reverse.foldl (stepKid (tr K)) (some (n, 0)) with
    | none => simp [hf] at e
    | some q =>
      rw [hf] at e
      simp at e
      rw [← e] at h1
      obtain ⟨c, p', e1, e2, e3, e4⟩ := fold_span (fun m p hp => tr_le hp) _ _ _ _ hf m h1 (by omega)
      exact ih c e2 p' e1 m e3 e4

theorem fold_kids {T : Nat → Option (Nat × Nat)} (hT : ∀ m p, T m = some p → p.1 ≤ m) : ∀ (l : List Int) (b h : Nat) (q : Nat × Nat), l.foldl (stepKid T) (some (b, h)) = some q → ∀ k ∈ l, 0 ≤ k ∧ k ≤ (b : Int) - 1 := by
  intro l
  induction l with
  | nil => intro b h q e k hk; cases hk
  | cons x l ih =>
    intro b h q e k hk
    obtain ⟨p, g1, g2, g3, g4⟩ := fold_cons_some e
    have := hT _ _ g3
    rcases List.mem_cons.1 hk with rfl | hk
    · omega
    · have := ih _ _ _ g4 k hk
      omega

theorem tr_kids {K : Nat → List Int} {n : Nat} {p : Nat × Nat} (e : tr K n = some p) : ∀ k ∈ K n, 0 ≤ k ∧ k ≤ (n : Int) - 1 := by
  rw [tr_eq] at e
  cases hf : (K n).reverse.foldl (stepKid (tr K)) (some (n, 0)) with
  | none => simp [hf] at e
  | some q => exact fun k hk => fold_kids (fun m p hp => tr_le hp) _ _ _ _ hf k (by simpa using hk)

/-! ### Right values, said twice -/
def nodeAt (vs : List VN) (i : Nat) : VN := vs.getD i VN.zero
def kidsOf (vs : List VN) (i : Nat) : List Int := (nodeAt vs i).kids
def kidsIn (vs : List VN) (i : Nat) : Bool := (kidsOf vs i).all fun k => decide (0 ≤ k) && decide (k ≤ (i : Int) - 1)
def rootB (vs : List VN) : Bool := match tr (kidsOf vs) (vs.length - 1) with
  | some p => decide (p.1 = 0) && decide (p.2 ≤ 8)
  | none => false
def sizeB (vs : List VN) : Bool := decide (1 ≤ vs.length) && decide (vs.length ≤ 80)
/-- As the recursion from the root says it. -/
def okB (vs : List VN) : Bool := sizeB vs && ((List.range vs.length).all fun i => nodeB (nodeAt vs i) && kidsIn vs i) && rootB vs
/-- As the table over all nodes says it. -/
def tabB (vs : List VN) : Bool := sizeB vs && ((List.range vs.length).all fun i => nodeB (nodeAt vs i)) && (((List.range vs.length).all fun i => (tr (kidsOf vs) i).isSome) && rootB vs)

theorem okB_eq (vs : List VN) : tabB vs = okB vs := by
  rw [Bool.eq_iff_iff]
  unfold tabB okB
  simp only [Bool.and_eq_true, List.all_eq_true, List.mem_range]
  constructor
  · rintro ⟨⟨h1, h2⟩, h3, h4⟩
    refine ⟨⟨h1, fun i hi => ⟨h2 i hi, ?_⟩⟩, h4⟩
    obtain ⟨p, hp⟩ := Option.isSome_iff_exists.1 (h3 i hi)
    unfold kidsIn
    simp only [List.all_eq_true, Bool.and_eq_true, decide_eq_true_eq]
    exact tr_kids hp
  · rintro ⟨⟨h1, h2⟩, h3⟩
    refine ⟨⟨h1, fun i hi => (h2 i hi).1⟩, fun i hi => ?_, h3⟩
    unfold rootB at h3
    cases hr : tr (kidsOf vs) (vs.length - 1) with
    | none => rw [hr] at h3; cases h3
    | some p =>
      rw [hr] at h3
      simp at h3
      obtain ⟨q, hq⟩ := tr_span _ _ hr i (by omega) (by omega)
      rw [hq]
      rfl

end Go.Proofs.YtiamkmkbkehldaaGreatDoor
