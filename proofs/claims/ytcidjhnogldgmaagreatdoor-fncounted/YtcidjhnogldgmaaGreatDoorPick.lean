import Derived.WalkKit
import Derived.Laws.IdiomStrings
import Derived.OrdersIn
import Derived.RangeFuncCalls
import Derived.Lib.Builder
import Derived.Deep.RegionLaw
import Derived.Deep.AppendLies
import Derived.Lib.ItoaNum
import Derived.Lib.ParseIntBTie
namespace Go.Proofs.YtcidjhnogldgmaaGreatDoor
open Go.RowKit
set_option linter.unusedSimpArgs false
set_option linter.unusedVariables false
theorem hideB {p : Prop} (h : p) : Hid p := h
theorem len_is (s : ByteArray) : s.data.toList.length = s.size := Array.length_toList
def txt (l : List UInt8) : ByteArray := ⟨l.toArray⟩
theorem txt_size (l : List UInt8) : (txt l).size = l.length := by simp [txt, ByteArray.size]
theorem txt_app (l m : List UInt8) : txt l ++ txt m = txt (l ++ m) := by
  apply ByteArray.ext; simp [txt]
theorem txt_bytes (s : ByteArray) : txt s.data.toList = s := by
  apply ByteArray.ext; simp [txt]
theorem bytes_txt (l : List UInt8) : (txt l).data.toList = l := by simp [txt]
theorem getK {s : ByteArray} {k : Nat} (h : k < s.size) (h' : k < s.data.toList.length) : s.data.toList[k] = s[k] := by
  simp [ByteArray.getElem_eq_getElem_data]
theorem getK? {s : ByteArray} {k : Nat} (h : k < s.size) : s.data.toList[k]? = some s[k] := by
  rw [List.getElem?_eq_getElem (by rw [len_is]; exact h), getK h]
theorem str_eq {a b : ByteArray} (h : (a.toList == b.toList) = true) : a = b := by
  have h' := eq_of_beq h
  rw [ByteArray.toList_eq, ByteArray.toList_eq] at h'
  rw [← txt_bytes a, ← txt_bytes b, h']
theorem cut_txt (s : ByteArray) (a b : Nat) : s.extract a b = txt ((s.data.toList.drop a).take (b - a)) := by
  conv => lhs; rw [← txt_bytes s]
  exact ByteArray.extract_mk _ _ _
theorem u8_wrap {x : Int} (h0 : 0 ≤ x) (h1 : x < 256) : IntKind.u8.wrap x = x := by
  simp [IntKind.wrap, show IntKind.u8.bits = 8 from rfl, show IntKind.u8.signed = false from rfl]; omega
theorem run_cut {P : Program} {t : TypeId} (s : ByteArray) (a b : Nat) (h : P.underlying t = some .string) (h1 : a ≤ b) (h2 : b ≤ s.size) (w : World) :
    (Instr.slice t (.string s) (some (.int .i64 (a : Int))) (some (.int .i64 (b : Int))) none).run P w = .ok (.string (txt ((s.data.toList.drop a).take (b - a)))) w := by
  rw [run_slice_string w t s .i64 .i64 (a : Int) (b : Int) h (by omega) (by omega) (by omega), cut_txt]
  simp
end Go.Proofs.YtcidjhnogldgmaaGreatDoor

namespace Go.Proofs.YtcidjhnogldgmaaGreatDoor
structure VN where
  kind : Int
  n : Int
  s : ByteArray
  keys : List ByteArray
  kids : List Int
def VN.zero : VN := ⟨0, 0, ByteArray.empty, [], []⟩
def textB (s : ByteArray) : Bool := decide (s.size ≤ 60) && s.data.toList.all fun c => decide (c.toNat ≤ 127)
def lessB (a b : ByteArray) : Bool := Op.bytesLess a.toList b.toList
def keyAt (l : List ByteArray) (i : Nat) : ByteArray := l.getD i ByteArray.empty
def riseAt (l : List ByteArray) (j : Nat) : Bool := textB (keyAt l j) && (decide (j = 0) || lessB (keyAt l (j - 1)) (keyAt l j))
def riseB (l : List ByteArray) : Bool := (List.range l.length).all (riseAt l)
def unnamedB (x : VN) : Bool :=
  !(decide (x.kind ≠ 2) && decide (x.kind ≠ 3) && decide (x.n ≠ 0)) && !(decide (x.kind ≠ 4) && decide (x.s.toList ≠ [])) &&
  !(decide (x.kind ≠ 6) && decide (0 < x.keys.length)) && !(decide (x.kind ≠ 5) && decide (x.kind ≠ 6) && decide (0 < x.kids.length))
def namedB (x : VN) : Bool :=
  if x.kind = 1 ∨ x.kind = 5 then true
  else if x.kind = 2 then decide (x.n = 0) || decide (x.n = 1)
  else if x.kind = 3 then decide (-1000000000000000 ≤ x.n) && decide (x.n ≤ 1000000000000000)
  else if x.kind = 4 then textB x.s
  else if x.kind = 6 then decide (x.keys.length = x.kids.length) && riseB x.keys
  else false
def nodeB (x : VN) : Bool := unnamedB x && namedB x
theorem len0 (n : Nat) : ((n : Int) == 0) = !decide (0 < n) := by
  cases n with
  | zero => rfl
  | succ n => simp; omega
def stepKid (T : Nat → Option (Nat × Nat)) (st : Option (Nat × Nat)) (k : Int) : Option (Nat × Nat) :=
  match st with
  | none => none
  | some (b, h) => if b ≠ 0 ∧ k = (b : Int) - 1 then (T (b - 1)).map (fun p => (p.1, max h p.2)) else none
def tree (K : Nat → List Int) : Nat → Nat → Option (Nat × Nat)
  | 0, _ => none
  | f + 1, n => ((K n).reverse.foldl (stepKid (tree K f)) (some (n, 0))).map fun p => (p.1, p.2 + 1)
theorem fold_none (T : Nat → Option (Nat × Nat)) (l : List Int) : l.foldl (stepKid T) none = none := by
  induction l with
  | nil => rfl
  | cons k l ih => exact ih
theorem step_some {T : Nat → Option (Nat × Nat)} {b h : Nat} {k : Int} {q : Nat × Nat} (e : stepKid T (some (b, h)) k = some q) :
    b ≠ 0 ∧ k = (b : Int) - 1 ∧ ∃ p, T (b - 1) = some p ∧ q = (p.1, max h p.2) := by
  unfold stepKid at e
  simp only at e
  split at e
  · rename_i hc
    cases ht : T (b - 1) with
    | none => simp [ht] at e
    | some p => simp [ht] at e; exact ⟨hc.1, hc.2, p, rfl, e.symm⟩
  · cases e
theorem fold_cons_some {T : Nat → Option (Nat × Nat)} {b h : Nat} {k : Int} {l : List Int} {q : Nat × Nat} (e : (k :: l).foldl (stepKid T) (some (b, h)) = some q) :
    ∃ p, b ≠ 0 ∧ k = (b : Int) - 1 ∧ T (b - 1) = some p ∧ l.foldl (stepKid T) (some (p.1, max h p.2)) = some q := by
  rw [List.foldl_cons] at e
  cases hs : stepKid T (some (b, h)) k with
  | none => rw [hs, fold_none] at e; cases e
  | some r =>
    obtain ⟨h1, h2, p, h3, rfl⟩ := step_some hs
    exact ⟨p, h1, h2, h3, by rw [hs] at e; exact e⟩
theorem fold_le {T : Nat → Option (Nat × Nat)} (hT : ∀ m p, T m = some p → p.1 ≤ m) : ∀ (l : List Int) (b h : Nat) (q : Nat × Nat), l.foldl (stepKid T) (some (b, h)) = some q → q.1 ≤ b := by
  intro l
  induction l with
  | nil => intro b h q e; simp at e; rw [← e]; exact Nat.le_refl _
  | cons k l ih =>
    intro b h q e
    obtain ⟨p, h1, _, h3, h4⟩ := fold_cons_some e
    have := ih _ _ _ h4
    have := hT _ _ h3
    omega
theorem tree_le (K : Nat → List Int) : ∀ (f n : Nat) (p : Nat × Nat), tree K f n = some p → p.1 ≤ n := by
  intro f
  induction f with
  | zero => intro n p e; cases e
  | succ f ih =>
    intro n p e
    rw [tree] at e
    cases hf : (K n).reverse.foldl (stepKid (tree K f)) (some (n, 0)) with
    | none => simp [hf] at e
    | some q =>
      simp [hf] at e
      have := fold_le ih _ _ _ _ hf
      rw [← e]
      exact this
theorem fold_congr {T T' : Nat → Option (Nat × Nat)} (N : Nat) (hT : ∀ m p, T m = some p → p.1 ≤ m) (he : ∀ m, m < N → T m = T' m) : ∀ (l : List Int) (b h : Nat), b ≤ N → l.foldl (stepKid T) (some (b, h)) = l.foldl (stepKid T') (some (b, h)) := by
  intro l
  induction l with
  | nil => intro b h _; rfl
  | cons k l ih =>
    intro b h hb
    rw [List.foldl_cons, List.foldl_cons]
    by_cases hc : b ≠ 0 ∧ k = (b : Int) - 1
    · have e1 : T (b - 1) = T' (b - 1) := he _ (by omega)
      cases ht : T (b - 1) with
      | none =>
        rw [show stepKid T (some (b, h)) k = none by simp [stepKid, hc, ht], show stepKid T' (some (b, h)) k = none by simp [stepKid, hc, ← e1, ht], fold_none, fold_none]
      | some p =>
        rw [show stepKid T (some (b, h)) k = some (p.1, max h p.2) by simp only [stepKid]; rw [if_pos hc, ht]; rfl, show stepKid T' (some (b, h)) k = some (p.1, max h p.2) by simp only [stepKid]; rw [if_pos hc, ← e1, ht]; rfl]
        have := hT _ _ ht
        exact ih _ _ (by omega)
    · rw [show stepKid T (some (b, h)) k = none by simp only [stepKid]; rw [if_neg hc], show stepKid T' (some (b, h)) k = none by simp only [stepKid]; rw [if_neg hc], fold_none, fold_none]
theorem tree_fuel (K : Nat → List Int) : ∀ (N n f g : Nat), n < N → n < f → n < g → tree K f n = tree K g n := by
  intro N
  induction N with
  | zero => intro n f g h; omega
  | succ N ih =>
    intro n f g hN hf hg
    match f, g with
    | 0, _ => omega
    | _ + 1, 0 => omega
    | f + 1, g + 1 =>
      rw [tree, tree]
      rw [fold_congr n (tree_le K f) (fun m hm => ih m f g (by omega) (by omega) (by omega)) _ _ _ (Nat.le_refl _)]
def tr (K : Nat → List Int) (n : Nat) : Option (Nat × Nat) := tree K (n + 1) n
theorem tr_le {K : Nat → List Int} {n : Nat} {p : Nat × Nat} (h : tr K n = some p) : p.1 ≤ n := tree_le K _ _ _ h
theorem tr_eq (K : Nat → List Int) (n : Nat) : tr K n = ((K n).reverse.foldl (stepKid (tr K)) (some (n, 0))).map fun p => (p.1, p.2 + 1) := by
  rw [tr, tree]
  rw [fold_congr n (tree_le K n) (fun m hm => tree_fuel K (n + 1) m n (m + 1) (by omega) (by omega) (by omega)) _ _ _ (Nat.le_refl _)]
  rfl
theorem fold_deep {T : Nat → Option (Nat × Nat)} (hT : ∀ m p, T m = some p → p.1 ≤ m ∧ p.2 ≤ m + 1) : ∀ (l : List Int) (b h : Nat) (q : Nat × Nat) (N : Nat), b ≤ N → h ≤ N → l.foldl (stepKid T) (some (b, h)) = some q → q.2 ≤ N := by
  intro l
  induction l with
  | nil => intro b h q N hb hh e; simp at e; rw [← e]; exact hh
  | cons k l ih =>
    intro b h q N hb hh e
    obtain ⟨p, h1, _, h3, h4⟩ := fold_cons_some e
    have := hT _ _ h3
    exact ih _ _ _ N (by omega) (by omega) h4
theorem tr_deep {K : Nat → List Int} : ∀ (n : Nat) (p : Nat × Nat), tr K n = some p → p.1 ≤ n ∧ p.2 ≤ n + 1 := by
  intro n
  induction n using Nat.strongRecOn with
  | ind n ih =>
    intro p e
    refine ⟨tr_le e, ?_⟩
    rw [tr_eq] at e
    have hx : (K n).reverse.foldl (stepKid (tr K)) (some (n, 0)) = (K n).reverse.foldl (stepKid fun m => if m < n then tr K m else none) (some (n, 0)) :=
      fold_congr n (fun m p hp => tr_le hp) (fun m hm => by rw [if_pos hm]) _ _ _ (Nat.le_refl _)
    rw [hx] at e
    cases hf : (K n).reverse.foldl (stepKid fun m => if m < n then tr K m else none) (some (n, 0)) with
    | none => simp [hf] at e
    | some q =>
      rw [hf] at e
      simp at e
      have := fold_deep (T := fun m => if m < n then tr K m else none) (fun m p hp => by
        by_cases hm : m < n
        · simp only [if_pos hm] at hp; exact ih m hm p hp
        · simp only [if_neg hm] at hp; cases hp) _ _ _ _ n (Nat.le_refl _) (Nat.zero_le _) hf
      rw [← e]
      simp only
      omega
theorem fold_span {T : Nat → Option (Nat × Nat)} (hT : ∀ m p, T m = some p → p.1 ≤ m) : ∀ (l : List Int) (b h : Nat) (q : Nat × Nat), l.foldl (stepKid T) (some (b, h)) = some q → ∀ m, q.1 ≤ m → m < b → ∃ c p, T c = some p ∧ c < b ∧ p.1 ≤ m ∧ m ≤ c := by
  intro l
  induction l with
  | nil => intro b h q e m h1 h2; simp at e; rw [← e] at h1; simp only at h1; omega
  | cons k l ih =>
    intro b h q e m h1 h2
    obtain ⟨p, g1, _, g3, g4⟩ := fold_cons_some e
    by_cases hm : p.1 ≤ m
    · exact ⟨b - 1, p, g3, by omega, hm, by omega⟩
    · obtain ⟨c, p', e1, e2, e3, e4⟩ := ih _ _ _ g4 m h1 (by omega)
      have := hT _ _ g3
      exact ⟨c, p', e1, by omega, e3, e4⟩
theorem tr_span {K : Nat → List Int} : ∀ (n : Nat) (p : Nat × Nat), tr K n = some p → ∀ m, p.1 ≤ m → m ≤ n → ∃ q, tr K m = some q := by
  intro n
  induction n using Nat.strongRecOn with
  | ind n ih =>
    intro p e m h1 h2
    by_cases hm : m = n
    · exact ⟨p, hm ▸ e⟩
    rw [tr_eq] at e
    cases hf : (K n).reverse.foldl (stepKid (tr K)) (some (n, 0)) with
    | none => simp [hf] at e
    | some q =>
      rw [hf] at e
      simp at e
      rw [← e] at h1
      obtain ⟨c, p', e1, e2, e3, e4⟩ := fold_span (fun m p hp => tr_le hp) _ _ _ _ hf m h1 (by omega)
      exact ih c e2 p' e1 m e3 e4
theorem fold_kids {T : Nat → Option (Nat × Nat)} (hT : ∀ m p, T m = some p → p.1 ≤ m) : ∀ (l : List Int) (b h : Nat) (q : Nat × Nat), l.foldl (stepKid T) (some (b, h)) = some q → ∀ k ∈ l, 0 ≤ k ∧ k ≤ (b : Int) - 1 := by
  intro l
  induction l with
  | nil => intro b h q e k hk; cases hk
  | cons x l ih =>
    intro b h q e k hk
    obtain ⟨p, g1, g2, g3, g4⟩ := fold_cons_some e
    have := hT _ _ g3
    rcases List.mem_cons.1 hk with rfl | hk
    · omega
    · have := ih _ _ _ g4 k hk
      omega
theorem tr_kids {K : Nat → List Int} {n : Nat} {p : Nat × Nat} (e : tr K n = some p) : ∀ k ∈ K n, 0 ≤ k ∧ k ≤ (n : Int) - 1 := by
  rw [tr_eq] at e
  cases hf : (K n).reverse.foldl (stepKid (tr K)) (some (n, 0)) with
  | none => simp [hf] at e
  | some q => exact fun k hk => fold_kids (fun m p hp => tr_le hp) _ _ _ _ hf k (by simpa using hk)
def nodeAt (vs : List VN) (i : Nat) : VN := vs.getD i VN.zero
def kidsOf (vs : List VN) (i : Nat) : List Int := (nodeAt vs i).kids
def kidsIn (vs : List VN) (i : Nat) : Bool := (kidsOf vs i).all fun k => decide (0 ≤ k) && decide (k ≤ (i : Int) - 1)
def rootB (vs : List VN) : Bool := match tr (kidsOf vs) (vs.length - 1) with
  | some p => decide (p.1 = 0) && decide (p.2 ≤ 8)
  | none => false
def sizeB (vs : List VN) : Bool := decide (1 ≤ vs.length) && decide (vs.length ≤ 80)
def okB (vs : List VN) : Bool := sizeB vs && ((List.range vs.length).all fun i => nodeB (nodeAt vs i) && kidsIn vs i) && rootB vs
def tabB (vs : List VN) : Bool := sizeB vs && ((List.range vs.length).all fun i => nodeB (nodeAt vs i)) && (((List.range vs.length).all fun i => (tr (kidsOf vs) i).isSome) && rootB vs)
theorem okB_eq (vs : List VN) : tabB vs = okB vs := by
  rw [Bool.eq_iff_iff]
  unfold tabB okB
  simp only [Bool.and_eq_true, List.all_eq_true, List.mem_range]
  constructor
  · rintro ⟨⟨h1, h2⟩, h3, h4⟩
    refine ⟨⟨h1, fun i hi => ⟨h2 i hi, ?_⟩⟩, h4⟩
    obtain ⟨p, hp⟩ := Option.isSome_iff_exists.1 (h3 i hi)
    unfold kidsIn
    simp only [List.all_eq_true, Bool.and_eq_true, decide_eq_true_eq]
    exact tr_kids hp
  · rintro ⟨⟨h1, h2⟩, h3⟩
    refine ⟨⟨h1, fun i hi => (h2 i hi).1⟩, fun i hi => ?_, h3⟩
    unfold rootB at h3
    cases hr : tr (kidsOf vs) (vs.length - 1) with
    | none => rw [hr] at h3; cases h3
    | some p =>
      rw [hr] at h3
      simp at h3
      obtain ⟨q, hq⟩ := tr_span _ _ hr i (by omega) (by omega)
      rw [hq]
      rfl
end Go.Proofs.YtcidjhnogldgmaaGreatDoor

namespace Go.Proofs.YtcidjhnogldgmaaGreatDoor
open Go.RowKit
set_option linter.unusedSimpArgs false
set_option linter.unusedVariables false
def intAt (l : List Int) (i : Nat) : Int := l.getD i 0
def IntsAt (B : Nat) (w : World) (v : Value) (l : List Int) : Prop :=
  l.length ≤ 17592186044416 ∧ (∀ i, i < l.length → -9223372036854775808 ≤ intAt l i ∧ intAt l i ≤ 9223372036854775807) ∧
  ∃ a cap, v = .slice a l.length cap ∧ (0 < l.length → ∃ b o, a = some ⟨b, o, none⟩ ∧ b < B ∧ ∀ i, i < l.length → w.cell? ⟨b, o + i, none⟩ = some (.int .i64 (intAt l i)))
def StrsAt (B : Nat) (w : World) (v : Value) (l : List ByteArray) : Prop :=
  l.length ≤ 8796093022208 ∧ (∀ i, i < l.length → (keyAt l i).size ≤ 140737488355328) ∧
  ∃ a cap, v = .slice a l.length cap ∧ (0 < l.length → ∃ b o, a = some ⟨b, o, none⟩ ∧ b < B ∧ ∀ i, i < l.length → w.cell? ⟨b, o + i, none⟩ = some (.string (keyAt l i)))
structure NodeIn (B : Nat) (w : World) (x : VN) (ka ki : Value) : Prop where
  keys : StrsAt B w ka x.keys
  kids : IntsAt B w ki x.kids
  size : x.s.size ≤ 140737488355328
  klo : -9223372036854775808 ≤ x.kind
  khi : x.kind ≤ 9223372036854775807
  nlo : -9223372036854775808 ≤ x.n
  nhi : x.n ≤ 9223372036854775807
structure NodeAt (B : Nat) (w : World) (b o : Nat) (x : VN) (ka ki : Value) : Prop where
  c0 : w.cell? ⟨b, o, none⟩ = some (.int .i64 x.kind)
  c1 : w.cell? ⟨b, o + 1, none⟩ = some (.int .i64 x.n)
  c2 : w.cell? ⟨b, o + 2, none⟩ = some (.string x.s)
  c3 : w.cell? ⟨b, o + 3, none⟩ = some ka
  c4 : w.cell? ⟨b, o + 4, none⟩ = some ki
  inn : NodeIn B w x ka ki
def NodesAt (B : Nat) (w : World) (v : Value) (vs : List VN) : Prop :=
  vs.length ≤ 1759218604416 ∧ ∃ a cap, v = .slice a vs.length cap ∧ (0 < vs.length → ∃ b o, a = some ⟨b, o, none⟩ ∧ b < B ∧ ∀ i, i < vs.length → ∃ ka ki, NodeAt B w b (o + i * 5) (nodeAt vs i) ka ki)
theorem below_cell {B : Nat} {w w' : World} (h : Below B w w') {b o : Nat} (hb : b < B) : w'.cell? ⟨b, o, none⟩ = w.cell? ⟨b, o, none⟩ := h.cell (p := ⟨b, o, none⟩) hb
theorem IntsAt.below {B : Nat} {w w' : World} {v : Value} {l : List Int} (h : IntsAt B w v l) (hb : Below B w w') : IntsAt B w' v l := by
  obtain ⟨h1, h2, a, cap, e, h3⟩ := h
  refine ⟨h1, h2, a, cap, e, fun hl => ?_⟩
  obtain ⟨b, o, ea, hbB, hc⟩ := h3 hl
  exact ⟨b, o, ea, hbB, fun i hi => (below_cell hb hbB).trans (hc i hi)⟩
theorem StrsAt.below {B : Nat} {w w' : World} {v : Value} {l : List ByteArray} (h : StrsAt B w v l) (hb : Below B w w') : StrsAt B w' v l := by
  obtain ⟨h1, h2, a, cap, e, h3⟩ := h
  refine ⟨h1, h2, a, cap, e, fun hl => ?_⟩
  obtain ⟨b, o, ea, hbB, hc⟩ := h3 hl
  exact ⟨b, o, ea, hbB, fun i hi => (below_cell hb hbB).trans (hc i hi)⟩
theorem NodeIn.below {B : Nat} {w w' : World} {x : VN} {ka ki : Value} (h : NodeIn B w x ka ki) (hb : Below B w w') : NodeIn B w' x ka ki :=
  { h with keys := h.keys.below hb, kids := h.kids.below hb }
theorem NodeAt.below {B : Nat} {w w' : World} {b o : Nat} {x : VN} {ka ki : Value} (h : NodeAt B w b o x ka ki) (hb : Below B w w') (hB : b < B) : NodeAt B w' b o x ka ki :=
  ⟨(below_cell hb hB).trans h.c0, (below_cell hb hB).trans h.c1, (below_cell hb hB).trans h.c2, (below_cell hb hB).trans h.c3, (below_cell hb hB).trans h.c4, h.inn.below hb⟩
theorem NodesAt.below {B : Nat} {w w' : World} {v : Value} {vs : List VN} (h : NodesAt B w v vs) (hb : Below B w w') : NodesAt B w' v vs := by
  obtain ⟨h1, a, cap, e, h3⟩ := h
  refine ⟨h1, a, cap, e, fun hl => ?_⟩
  obtain ⟨b, o, ea, hbB, hc⟩ := h3 hl
  refine ⟨b, o, ea, hbB, fun i hi => ?_⟩
  obtain ⟨ka, ki, hn⟩ := hc i hi
  exact ⟨ka, ki, hn.below hb hbB⟩
theorem IntsAt.wide {B B' : Nat} {w : World} {v : Value} {l : List Int} (h : IntsAt B w v l) (hb : B ≤ B') : IntsAt B' w v l := by
  obtain ⟨h1, h2, a, cap, e, h3⟩ := h
  refine ⟨h1, h2, a, cap, e, fun hl => ?_⟩
  obtain ⟨b, o, ea, hbB, hc⟩ := h3 hl
  exact ⟨b, o, ea, by omega, hc⟩
theorem StrsAt.wide {B B' : Nat} {w : World} {v : Value} {l : List ByteArray} (h : StrsAt B w v l) (hb : B ≤ B') : StrsAt B' w v l := by
  obtain ⟨h1, h2, a, cap, e, h3⟩ := h
  refine ⟨h1, h2, a, cap, e, fun hl => ?_⟩
  obtain ⟨b, o, ea, hbB, hc⟩ := h3 hl
  exact ⟨b, o, ea, by omega, hc⟩
theorem NodeIn.wide {B B' : Nat} {w : World} {x : VN} {ka ki : Value} (h : NodeIn B w x ka ki) (hb : B ≤ B') : NodeIn B' w x ka ki :=
  { h with keys := h.keys.wide hb, kids := h.kids.wide hb }
theorem NodeAt.wide {B B' : Nat} {w : World} {b o : Nat} {x : VN} {ka ki : Value} (h : NodeAt B w b o x ka ki) (hb : B ≤ B') : NodeAt B' w b o x ka ki :=
  ⟨h.c0, h.c1, h.c2, h.c3, h.c4, h.inn.wide hb⟩
theorem NodesAt.wide {B B' : Nat} {w : World} {v : Value} {vs : List VN} (h : NodesAt B w v vs) (hb : B ≤ B') : NodesAt B' w v vs := by
  obtain ⟨h1, a, cap, e, h3⟩ := h
  refine ⟨h1, a, cap, e, fun hl => ?_⟩
  obtain ⟨b, o, ea, hbB, hc⟩ := h3 hl
  refine ⟨b, o, ea, by omega, fun i hi => ?_⟩
  obtain ⟨ka, ki, hn⟩ := hc i hi
  exact ⟨ka, ki, hn.wide hb⟩
structure Fits (x : VN) : Prop where
  keysN : x.keys.length ≤ 8796093022208
  keysS : ∀ i, i < x.keys.length → (keyAt x.keys i).size ≤ 140737488355328
  kidsN : x.kids.length ≤ 17592186044416
  kidsB : ∀ i, i < x.kids.length → -9223372036854775808 ≤ intAt x.kids i ∧ intAt x.kids i ≤ 9223372036854775807
  size : x.s.size ≤ 140737488355328
  klo : -9223372036854775808 ≤ x.kind
  khi : x.kind ≤ 9223372036854775807
  nlo : -9223372036854775808 ≤ x.n
  nhi : x.n ≤ 9223372036854775807
theorem bsame {B : Nat} {w w' : World} (h1 : w'.os = w.os) (h2 : w'.tape = w.tape) (h3 : w'.output = w.output) (h4 : w'.heap = w.heap) : Below B w w' :=
  ⟨h1, h2, h3, by rw [h4]; exact Nat.le_refl _, fun k _ => by rw [h4]⟩
theorem hideIt {p : Prop} (h : p) : Hid p := h
theorem ret_bool {a b : Bool} (h : a = b) : Ending.returned (.bool a) = .returned (.bool b) := by rw [h]
end Go.Proofs.YtcidjhnogldgmaaGreatDoor

namespace Go.Proofs.YtcidjhnogldgmaaGreatDoor
open Go.RowKit
set_option linter.unusedSimpArgs false
set_option linter.unusedVariables false
theorem mem_ready {ops : Array Oper} {L : Array Bool} {i : Nat} (h : i ∈ Region.ready .any ops L) :
    i < ops.size ∧ L.getD i true = false ∧ ∀ o, ops[i]? = some o → ∀ e ∈ o.after, Region.binds .any e = true → L.getD e.on false = true := by
  unfold Region.ready at h
  rw [List.mem_filter, List.mem_range] at h
  obtain ⟨h1, h2⟩ := h
  rw [Bool.and_eq_true] at h2
  obtain ⟨h2, h3⟩ := h2
  refine ⟨h1, by simpa using h2, fun o ho e he hb => ?_⟩
  rw [ho] at h3
  simp only [Option.map_some, Option.getD_some, Array.all_eq_true_iff_forall_mem] at h3
  have := h3 e he
  rw [hb] at this
  simpa using this
theorem ready_mem {ops : Array Oper} {L : Array Bool} {i : Nat} {o : Oper} (h1 : L.getD i true = false) (ho : ops[i]? = some o) (h : ∀ e ∈ o.after, L.getD e.on false = true) : i ∈ Region.ready .any ops L := by
  unfold Region.ready
  rw [List.mem_filter, List.mem_range]
  refine ⟨(Array.getElem?_eq_some_iff.1 ho).1, ?_⟩
  rw [Bool.and_eq_true, ho]
  refine ⟨by simp [h1], ?_⟩
  simp only [Option.map_some, Option.getD_some, Array.all_eq_true_iff_forall_mem]
  intro e he
  simp [h e he]
def fill (s0 N : Nat) (val : Nat → Value) (L : Array Bool) (a : Act) : Act :=
  { a with tmps := a.tmps.mapIdx fun t v => if s0 ≤ t ∧ t < s0 + N ∧ L.getD (t - s0) false = true then val (t - s0) else v }
theorem fill_put {s0 N : Nat} {val : Nat → Value} {L : Array Bool} {a : Act} {i : Nat} (hi : i < N) (hL : i < L.size) :
    (fill s0 N val L a).put (some (s0 + i)) (val i) = fill s0 N val (L.setIfInBounds i true) a := by
  unfold fill Act.put
  simp only [Act.mk.injEq, and_true]
  apply Array.ext_getElem?
  intro t
  rw [Array.getElem?_setIfInBounds]
  by_cases e : s0 + i = t
  · subst e
    by_cases hb : s0 + i < a.tmps.size
    · simp [hb, hi, Array.getD, hL]
    · simp [hb]
  · rw [if_neg e]
    simp only [Array.getElem?_mapIdx]
    congr 1
    funext v
    by_cases h : s0 ≤ t ∧ t < s0 + N
    · have : (L.setIfInBounds i true).getD (t - s0) false = L.getD (t - s0) false := by
        simp only [Array.getD_eq_getD_getElem?, Array.getElem?_setIfInBounds]
        rw [if_neg (by omega)]
      simp only [this]
    · rw [if_neg (by omega), if_neg (by omega)]
theorem fill_in {s0 N : Nat} {val : Nat → Value} {L : Array Bool} {a : Act} {t : Nat} (h1 : s0 ≤ t) (h2 : t < s0 + N) (h3 : t < a.tmps.size) (hl : L.getD (t - s0) false = true) :
    (fill s0 N val L a).eval (.tmp t) = val (t - s0) := by
  simp only [fill, Act.eval, Array.getD_eq_getD_getElem?, Array.getElem?_mapIdx]
  rw [Array.getElem?_eq_getElem h3]
  simp only [Option.map_some, Option.getD_some]
  rw [if_pos ⟨h1, h2, by simpa [Array.getD_eq_getD_getElem?] using hl⟩]
theorem fill_out {s0 N : Nat} {val : Nat → Value} {L : Array Bool} {a : Act} {t : Nat} (h : t < s0) : (fill s0 N val L a).eval (.tmp t) = a.eval (.tmp t) := by
  simp only [fill, Act.eval, Array.getD_eq_getD_getElem?, Array.getElem?_mapIdx]
  congr 1
  cases a.tmps[t]? with
  | none => rfl
  | some v => simp only [Option.map_some]; rw [if_neg (by omega)]
theorem fill_none {s0 N : Nat} {val : Nat → Value} {L : Array Bool} {a : Act} (h : ∀ j, j < N → L.getD j false = false) : fill s0 N val L a = a := by
  unfold fill
  cases a with
  | mk tmps defers =>
    simp only [Act.mk.injEq, and_true]
    apply Array.ext_getElem?
    intro t
    rw [Array.getElem?_mapIdx]
    cases tmps[t]? with
    | none => rfl
    | some v =>
      simp only [Option.map_some]
      by_cases g : s0 ≤ t ∧ t < s0 + N
      · rw [if_neg (fun e => by rw [h _ (by omega)] at e; cases e.2.2)]
      · rw [if_neg (fun e => g ⟨e.1, e.2.1⟩)]
def left (N : Nat) (L : Array Bool) : Nat := ((List.range N).filter fun i => !L.getD i false).length
theorem left_lt {N i : Nat} {L : Array Bool} (hi : i < N) (hL : i < L.size) (h : L.getD i false = false) : left N (L.setIfInBounds i true) < left N L := by
  unfold left
  have e : (List.range N).filter (fun j => !(L.setIfInBounds i true).getD j false) = ((List.range N).filter fun j => !L.getD j false).filter (fun j => decide (j ≠ i)) := by
    rw [List.filter_filter]
    apply List.filter_congr
    intro j _
    simp only [Array.getD_eq_getD_getElem?, Array.getElem?_setIfInBounds]
    by_cases e : i = j
    · subst e; simp [hL]
    · rw [if_neg e]
      have : decide (j ≠ i) = true := by simp; omega
      rw [this, Bool.true_and]
  rw [e]
  apply List.length_filter_lt_length_iff_exists.2
  exact ⟨i, by rw [List.mem_filter]; exact ⟨List.mem_range.2 hi, by simp [h]⟩, by simp⟩
theorem getD_true_false {L : Array Bool} {i : Nat} (h : i < L.size) : L.getD i true = L.getD i false := by simp [Array.getD, h]
theorem least {N : Nat} {L : Array Bool} : ∀ m, m ≤ N → (∀ j, j < m → L.getD j false = true) ∨ ∃ i, i < m ∧ L.getD i false = false ∧ ∀ j, j < i → L.getD j false = true := by
  intro m
  induction m with
  | zero => intro _; left; intro j h; omega
  | succ m ih =>
    intro hm
    rcases ih (by omega) with h | ⟨i, h1, h2, h3⟩
    · cases hl : L.getD m false with
      | true => left; intro j hj; by_cases e : j = m
                · subst e; exact hl
                · exact h j (by omega)
      | false => right; exact ⟨m, by omega, hl, h⟩
    · right; exact ⟨i, by omega, h2, h3⟩
theorem phase {F : Fence} {n : Nat} {P : Program} {ops : Array Oper} {Q : Exit → Act → World → Prop} {s0 N : Nat} {val : Nat → Value} {a : Act} {W : World} (hsz : ops.size = N + 2)
    (hd : ∀ i, i < N → ∃ o, ops[i]? = some o ∧ o.dst = some (s0 + i) ∧ o.guard = none ∧ (∀ c, o.op ≠ .defer c) ∧ (∀ e ∈ o.after, e.on < i ∧ Region.binds .any e = true) ∧
      ∀ L : Array Bool, (∀ e ∈ o.after, L.getD e.on false = true) → (execOp (fill s0 N val L a).eval o).run P W = .ok (.value (val i)) W ∧ o.about P W (fill s0 N val L a).eval = none)
    (hN : ∃ o, ops[N]? = some o ∧ (∀ e ∈ o.after, e.on < N) ∧ ∀ j, j < N → ∃ e ∈ o.after, e.on = j ∧ Region.binds .any e = true)
    (hN1 : ∃ o, ops[N + 1]? = some o ∧ ∃ e ∈ o.after, e.on = N ∧ Region.binds .any e = true)
    (tail : ∀ fuel (L : Array Bool), L.size = N + 2 → (∀ j, j < N → L.getD j false = true) → L.getD N true = false → L.getD (N + 1) true = false → wpOpIn F n P ops Q N (wpAnyIn F n P .any ops Q (fuel + 1) (L.setIfInBounds N true)) (fill s0 N val L a) W) :
    ∀ fuel (L : Array Bool), L.size = N + 2 → L.getD N true = false → L.getD (N + 1) true = false → left N L + 2 ≤ fuel → wpAnyIn F n P .any ops Q fuel L (fill s0 N val L a) W := by
  intro fuel
  induction fuel with
  | zero => intro L _ _ _ h; omega
  | succ fuel ih =>
    intro L hL h0 h1 hf
    rw [wpAnyIn]
    constructor
    · intro hr
      exfalso
      rcases least (L := L) (N := N) N (Nat.le_refl _) with hall | ⟨i, hi, hl, hlt⟩
      · obtain ⟨o, ho, ha, _⟩ := hN
        have := ready_mem (L := L) h0 ho (fun e he => hall _ (ha e he))
        rw [hr] at this
        cases this
      · obtain ⟨o, ho, _, _, _, ha, _⟩ := hd i hi
        have := ready_mem (L := L) (by rw [getD_true_false (by omega)]; exact hl) ho (fun e he => hlt _ (ha e he).1)
        rw [hr] at this
        cases this
    · intro i hi
      obtain ⟨hsi, hli, hdeps⟩ := mem_ready hi
      by_cases hiN : i < N
      · obtain ⟨o, ho, hdst, hg, hdf, ha, hrun⟩ := hd i hiN
        have hall : ∀ e ∈ o.after, L.getD e.on false = true := fun e he => hdeps o ho e he (ha e he).2
        obtain ⟨hx, hab⟩ := hrun L hall
        unfold wpOpIn
        rw [ho]
        simp only
        rw [show Region.wanted o (yielded ops (fill s0 N val L a).tmps) = true by unfold Region.wanted; rw [hg]]
        simp only [if_true]
        unfold Oper.wpIn
        rw [Oper.semAt_eq _ _ _ hdf, hx, Oper.uponIn_value, hdst, fill_put hiN (by omega)]
        refine ⟨fun f hf => (by rw [hab] at hf; cases hf), ?_⟩
        have hl : L.getD i false = false := by rw [← getD_true_false (by omega)]; exact hli
        have hlt := left_lt hiN (by omega : i < L.size) hl
        refine ih (L.setIfInBounds i true) (by simpa using hL) ?_ ?_ (by omega)
        · simp only [Array.getD_eq_getD_getElem?, Array.getElem?_setIfInBounds]
          rw [if_neg (by omega)]
          simpa [Array.getD_eq_getD_getElem?] using h0
        · simp only [Array.getD_eq_getD_getElem?, Array.getElem?_setIfInBounds]
          rw [if_neg (by omega)]
          simpa [Array.getD_eq_getD_getElem?] using h1
      · by_cases hiE : i = N
        · subst hiE
          obtain ⟨o, ho, ha, hall⟩ := hN
          obtain ⟨m, rfl⟩ : ∃ m, fuel = m + 1 := ⟨fuel - 1, by omega⟩
          refine tail m L hL (fun j hj => ?_) h0 h1
          obtain ⟨e, he, rfl, hb⟩ := hall j hj
          exact hdeps o ho e he hb
        · exfalso
          obtain rfl : i = N + 1 := by omega
          obtain ⟨o, ho, e, he, he2, hb⟩ := hN1
          have := hdeps o ho e he hb
          rw [he2, ← getD_true_false (by omega), h0] at this
          cases this
theorem phase_store {F : Fence} {n : Nat} {P : Program} {ops : Array Oper} {Q : Exit → Act → World → Prop} {s0 N : Nat} {val : Nat → Value} {vN : Value} {a : Act} {W W' : World} (hsz : ops.size = N + 2) (hta : s0 + N < a.tmps.size)
    (hd : ∀ i, i < N → ∃ o, ops[i]? = some o ∧ o.dst = some (s0 + i) ∧ o.guard = none ∧ (∀ c, o.op ≠ .defer c) ∧ (∀ e ∈ o.after, e.on < i ∧ Region.binds .any e = true) ∧
      ∀ ρ : Operand → Value, (∀ e ∈ o.after, ρ (.tmp (s0 + e.on)) = val e.on) → (∀ t, t < s0 → ρ (.tmp t) = a.eval (.tmp t)) → (∀ v, ρ (.const v) = v) → (execOp ρ o).run P W = .ok (.value (val i)) W ∧ o.about P W ρ = none)
    (hN : ∃ o, ops[N]? = some o ∧ o.dst = some (s0 + N) ∧ o.guard = none ∧ (∀ c, o.op ≠ .defer c) ∧ (∀ e ∈ o.after, e.on < N) ∧ (∀ j, j < N → ∃ e ∈ o.after, e.on = j ∧ Region.binds .any e = true) ∧
      ∀ ρ : Operand → Value, (∀ i, i < N → ρ (.tmp (s0 + i)) = val i) → (∀ t, t < s0 → ρ (.tmp t) = a.eval (.tmp t)) → (execOp ρ o).run P W = .ok (.value vN) W ∧ o.about P W ρ = none)
    (hN1 : ∃ o, ops[N + 1]? = some o ∧ o.dst = none ∧ o.guard = none ∧ (∀ c, o.op ≠ .defer c) ∧ (∀ e ∈ o.after, e.on ≤ N) ∧ (∃ e ∈ o.after, e.on = N ∧ Region.binds .any e = true) ∧
      ∀ ρ : Operand → Value, (∀ i, i < N → ρ (.tmp (s0 + i)) = val i) → ρ (.tmp (s0 + N)) = vN → (∀ t, t < s0 → ρ (.tmp t) = a.eval (.tmp t)) → (execOp ρ o).run P W = .ok .skip W' ∧ o.about P W ρ = none)
    (hQ : ∀ a', Q .normal a' W') : wpAnyIn F n P .any ops Q ops.size (Array.replicate ops.size false) a W := by
  have key := phase (F := F) (n := n) (P := P) (ops := ops) (Q := Q) (s0 := s0) (N := N) (val := val) (a := a) (W := W) hsz ?hd' ?hN' ?hN1' ?tail ops.size (Array.replicate ops.size false) (by simp [hsz]) (by simp [Array.getD, hsz]) (by simp [Array.getD, hsz]) ?cnt
  · rw [fill_none (fun j hj => by simp [Array.getD])] at key
    exact key
  case hd' =>
    intro i hi
    obtain ⟨o, h1, h2, h3, h4, h5, h6⟩ := hd i hi
    refine ⟨o, h1, h2, h3, h4, h5, fun L hL => h6 _ (fun e he => ?_) (fun t ht => fill_out ht) (fun v => rfl)⟩
    have := (h5 e he).1
    rw [fill_in (by omega) (by omega) (by omega) (by rw [show s0 + e.on - s0 = e.on by omega]; exact hL e he), show s0 + e.on - s0 = e.on by omega]
  case hN' =>
    obtain ⟨o, h1, _, _, _, h5, h6, _⟩ := hN
    exact ⟨o, h1, h5, h6⟩
  case hN1' =>
    obtain ⟨o, h1, _, _, _, _, h6, _⟩ := hN1
    exact ⟨o, h1, h6⟩
  case cnt =>
    unfold left
    have := List.length_filter_le (fun i => !(Array.replicate ops.size false).getD i false) (List.range N)
    rw [List.length_range] at this
    omega
  case tail =>
    intro fuel L hL hall h0 h1
    have hev : ∀ i, i < N → (fill s0 N val L a).eval (.tmp (s0 + i)) = val i := fun i hi => by
      rw [fill_in (by omega) (by omega) (by omega) (by rw [show s0 + i - s0 = i by omega]; exact hall i hi), show s0 + i - s0 = i by omega]
    have hlo : ∀ t, t < s0 → (fill s0 N val L a).eval (.tmp t) = a.eval (.tmp t) := fun t ht => fill_out ht
    obtain ⟨o, g1, g2, g3, g4, g5, g6, g7⟩ := hN
    obtain ⟨r1, r2⟩ := g7 _ hev hlo
    unfold wpOpIn
    rw [g1]
    simp only
    rw [show Region.wanted o (yielded ops (fill s0 N val L a).tmps) = true by unfold Region.wanted; rw [g3]]
    simp only [if_true]
    unfold Oper.wpIn
    rw [Oper.semAt_eq _ _ _ g4, r1, Oper.uponIn_value, g2]
    refine ⟨fun f hf => (by rw [r2] at hf; cases hf), ?_⟩
    have hfs : (fill s0 N val L a).tmps.size = a.tmps.size := by simp [fill]
    have hev' : ∀ i, i < N → ((fill s0 N val L a).put (some (s0 + N)) vN).eval (.tmp (s0 + i)) = val i := fun i hi => by
      rw [← hev i hi]
      simp only [Act.put, Act.eval, Array.getD_eq_getD_getElem?, Array.getElem?_setIfInBounds]
      rw [if_neg (by omega)]
    have hevN : ((fill s0 N val L a).put (some (s0 + N)) vN).eval (.tmp (s0 + N)) = vN := by
      simp only [Act.put, Act.eval, Array.getD_eq_getD_getElem?, Array.getElem?_setIfInBounds]
      rw [if_pos trivial, if_pos (by omega)]
      rfl
    have hlo' : ∀ t, t < s0 → ((fill s0 N val L a).put (some (s0 + N)) vN).eval (.tmp t) = a.eval (.tmp t) := fun t ht => by
      rw [← hlo t ht]
      simp only [Act.put, Act.eval, Array.getD_eq_getD_getElem?, Array.getElem?_setIfInBounds]
      rw [if_neg (by omega)]
    generalize (fill s0 N val L a).put (some (s0 + N)) vN = a2 at *
    obtain ⟨o', k1, k2, k3, k4, k5, k6, k7⟩ := hN1
    obtain ⟨q1, q2⟩ := k7 _ hev' hevN hlo'
    have hL2 : ∀ j, j ≤ N → (L.setIfInBounds N true).getD j false = true := fun j hj => by
      simp only [Array.getD_eq_getD_getElem?, Array.getElem?_setIfInBounds]
      by_cases e : N = j
      · rw [if_pos e, if_pos (by omega)]; rfl
      · rw [if_neg e]
        have := hall j (by omega)
        rw [Array.getD_eq_getD_getElem?] at this
        exact this
    have hL1 : (L.setIfInBounds N true).getD (N + 1) true = false := by
      simp only [Array.getD_eq_getD_getElem?, Array.getElem?_setIfInBounds]
      rw [if_neg (by omega)]
      rw [Array.getD_eq_getD_getElem?] at h1
      exact h1
    have hs2 : (L.setIfInBounds N true).size = N + 2 := by simpa using hL
    generalize L.setIfInBounds N true = L2 at *
    rw [wpAnyIn]
    refine ⟨fun hr => ?_, fun i hi => ?_⟩
    · exfalso
      have := ready_mem (L := L2) hL1 k1 (fun e he => hL2 _ (k5 e he))
      rw [hr] at this
      cases this
    · obtain ⟨m1, m2, _⟩ := mem_ready hi
      obtain rfl : i = N + 1 := by
        by_cases e : i ≤ N
        · have := hL2 i e
          rw [← getD_true_false (by omega), m2] at this
          cases this
        · omega
      unfold wpOpIn
      rw [k1]
      simp only
      rw [show Region.wanted o' (yielded ops a2.tmps) = true by unfold Region.wanted; rw [k3]]
      simp only [if_true]
      unfold Oper.wpIn
      rw [Oper.semAt_eq _ _ _ k4, q1, Oper.uponIn_skip]
      refine ⟨fun f hf => (by rw [q2] at hf; cases hf), ?_⟩
      refine wpAnyIn_done ?_ (hQ _) _
      apply List.eq_nil_iff_forall_not_mem.2
      intro i hi
      obtain ⟨m1, m2, _⟩ := mem_ready hi
      have : (L2.setIfInBounds (N + 1) true).getD i true = true := by
        simp only [Array.getD_eq_getD_getElem?, Array.getElem?_setIfInBounds]
        by_cases e : N + 1 = i
        · rw [if_pos e, if_pos (by omega)]; rfl
        · rw [if_neg e]
          have h3 := hL2 i (by omega)
          rw [← getD_true_false (by omega), Array.getD_eq_getD_getElem?] at h3
          exact h3
      rw [this] at m2
      cases m2
end Go.Proofs.YtcidjhnogldgmaaGreatDoor

namespace Go.Proofs.YtcidjhnogldgmaaGreatDoor
set_option linter.unusedSimpArgs false
set_option linter.unusedVariables false
end Go.Proofs.YtcidjhnogldgmaaGreatDoor

namespace Go.Proofs.YtcidjhnogldgmaaGreatDoor
set_option linter.unusedSimpArgs false
set_option linter.unusedVariables false
end Go.Proofs.YtcidjhnogldgmaaGreatDoor

namespace Go.Proofs.YtcidjhnogldgmaaGreatDoor
set_option linter.unusedSimpArgs false
set_option linter.unusedVariables false
end Go.Proofs.YtcidjhnogldgmaaGreatDoor

namespace Go.Proofs.YtcidjhnogldgmaaGreatDoor
set_option linter.unusedSimpArgs false
set_option linter.unusedVariables false
def shiftN (d : Int) (x : VN) : VN := { x with kids := x.kids.map (· + d) }
def run (vs : List VN) (d : Int) (a n : Nat) : List VN := (List.range' a n).map fun j => shiftN d (nodeAt vs j)
theorem run_length (vs : List VN) (d : Int) (a n : Nat) : (run vs d a n).length = n := by simp [run]
theorem run_append (vs : List VN) (d : Int) (a m n : Nat) : run vs d a m ++ run vs d (a + m) n = run vs d a (m + n) := by
  unfold run
  rw [← List.map_append]
  congr 1
  have := List.range'_append (s := a) (m := m) (n := n) (step := 1)
  simp
def tiles (T : Nat → Option (Nat × Nat)) : List Int → Nat → Nat → Prop
  | [], lo, hi => lo = hi
  | k :: r, lo, hi => ∃ c h : Nat, k = (c : Int) ∧ T c = some (lo, h) ∧ tiles T r (c + 1) hi
theorem tiles_of {T : Nat → Option (Nat × Nat)} : ∀ (l : List Int) (hi h lo h' : Nat), l.reverse.foldl (stepKid T) (some (hi, h)) = some (lo, h') → tiles T l lo hi := by
  intro l
  induction l with
  | nil => intro hi h lo h' e; simp at e; exact e.1.symm
  | cons k r ih =>
    intro hi h lo h' e
    rw [List.reverse_cons, List.foldl_append] at e
    cases hr : r.reverse.foldl (stepKid T) (some (hi, h)) with
    | none => rw [hr] at e; simp [stepKid] at e
    | some q =>
      obtain ⟨b, g⟩ := q
      rw [hr] at e
      obtain ⟨p, h1, h2, h3, h4⟩ := fold_cons_some e
      simp at h4
      refine ⟨b - 1, p.2, by omega, ?_, ?_⟩
      · rw [h3, ← h4.1]
      · rw [show b - 1 + 1 = b by omega]; exact ih hi h b g hr
theorem tiles_le {T : Nat → Option (Nat × Nat)} (hT : ∀ c p, T c = some p → p.1 ≤ c) : ∀ (l : List Int) (lo hi : Nat), tiles T l lo hi → lo ≤ hi := by
  intro l
  induction l with
  | nil => intro lo hi e; exact Nat.le_of_eq e
  | cons k r ih =>
    rintro lo hi ⟨c, h, _, h2, h3⟩
    have := hT c _ h2
    have := ih _ _ h3
    simp at *
    omega
def layKids (F : Nat → Nat → List VN) (sh : Nat) : List Int → List VN → List Int → List VN × List Int
  | [], acc, ks => (acc, ks)
  | k :: r, acc, ks => layKids F sh r (acc ++ F k.toNat (sh + acc.length)) (ks ++ [((sh + (acc ++ F k.toNat (sh + acc.length)).length : Nat) : Int) - 1])
def lay (vs : List VN) : Nat → Nat → Nat → List VN
  | 0, _, _ => []
  | f + 1, i, sh =>
    let p := layKids (lay vs f) sh (nodeAt vs i).kids [] []
    p.1 ++ [{ nodeAt vs i with kids := p.2 }]
theorem layKids_run {vs : List VN} {F : Nat → Nat → List VN} {T : Nat → Option (Nat × Nat)} (hT : ∀ c p, T c = some p → p.1 ≤ c) {sh a : Nat} : ∀ (l : List Int) (lo hi : Nat) (ks : List Int), a ≤ lo → tiles T l lo hi →
    (∀ (c lo h s : Nat), (c : Int) ∈ l → T c = some (lo, h) → F c s = run vs ((s : Int) - lo) lo (c + 1 - lo)) →
    layKids F sh l (run vs ((sh : Int) - a) a (lo - a)) ks = (run vs ((sh : Int) - a) a (hi - a), ks ++ l.map (· + ((sh : Int) - a))) := by
  intro l
  induction l with
  | nil => intro lo hi ks hlo ht hF; obtain rfl : lo = hi := ht; simp [layKids]
  | cons k r ih =>
    rintro lo hi ks hlo ⟨c, h, rfl, h2, h3⟩ hF
    have hc := hT c _ h2
    simp at hc
    have hF1 := hF c lo h (sh + (lo - a)) (by simp) h2
    rw [layKids, run_length, Int.toNat_natCast, hF1]
    rw [show (((sh + (lo - a) : Nat) : Int) - lo) = (sh : Int) - a by omega]
    have hrun : run vs ((sh : Int) - a) a (lo - a) ++ run vs ((sh : Int) - a) lo (c + 1 - lo) = run vs ((sh : Int) - a) a (c + 1 - a) := by
      have := run_append vs ((sh : Int) - a) a (lo - a) (c + 1 - lo)
      rw [show a + (lo - a) = lo by omega, show lo - a + (c + 1 - lo) = c + 1 - a by omega] at this
      exact this
    rw [hrun, run_length, ih (c + 1) hi _ (by omega) h3 (fun c' lo' h' s hm => hF c' lo' h' s (List.mem_cons_of_mem _ hm))]
    rw [show (((sh + (c + 1 - a) : Nat) : Int) - 1) = (c : Int) + ((sh : Int) - a) by omega]
    simp
theorem lay_run (vs : List VN) : ∀ (f i sh a h : Nat), i < f → tr (kidsOf vs) i = some (a, h) → lay vs f i sh = run vs ((sh : Int) - a) a (i + 1 - a) := by
  intro f
  induction f with
  | zero => intro i sh a h hi; omega
  | succ f ih =>
    intro i sh a h hi e
    have hai := tr_le e
    simp at hai
    rw [tr_eq] at e
    cases hf : (kidsOf vs i).reverse.foldl (stepKid (tr (kidsOf vs))) (some (i, 0)) with
    | none => rw [hf] at e; simp at e
    | some q =>
      obtain ⟨a', h'⟩ := q
      rw [hf] at e
      simp at e
      obtain ⟨rfl, _⟩ := e
      have ht := tiles_of _ _ _ _ _ hf
      have hmem : ∀ (l : List Int) (lo hi : Nat), tiles (tr (kidsOf vs)) l lo hi → ∀ c : Nat, (c : Int) ∈ l → c < hi := by
        intro l
        induction l with
        | nil => intro lo hi _ c hc; cases hc
        | cons k r ihr =>
          rintro lo hi ⟨c', h'', rfl, _, h3⟩ c hc
          have hle := tiles_le (fun m p hp => tr_le hp) _ _ _ h3
          rcases List.mem_cons.1 hc with e | e
          · omega
          · exact ihr _ _ h3 c e
      have hl := layKids_run (vs := vs) (F := lay vs f) (fun m p hp => tr_le hp) (sh := sh) (a := a') (kidsOf vs i) a' i [] (Nat.le_refl _) ht (fun c lo g s hm hc => ih c s lo g (by have := hmem _ _ _ ht c hm; omega) hc)
      rw [show a' - a' = 0 by omega] at hl
      have hz : run vs ((sh : Int) - a') a' 0 = [] := rfl
      rw [hz] at hl
      rw [lay]
      show (layKids (lay vs f) sh (kidsOf vs i) [] []).1 ++ [{ nodeAt vs i with kids := (layKids (lay vs f) sh (kidsOf vs i) [] []).2 }] = _
      rw [hl]
      have := run_append vs ((sh : Int) - a') a' (i - a') 1
      rw [show a' + (i - a') = i by omega, show i - a' + 1 = i + 1 - a' by omega] at this
      rw [← this]
      simp [run, shiftN, kidsOf]
end Go.Proofs.YtcidjhnogldgmaaGreatDoor

namespace Go.Proofs.YtcidjhnogldgmaaGreatDoor
open Go.RowKit
set_option linter.unusedSimpArgs false
set_option linter.unusedVariables false
end Go.Proofs.YtcidjhnogldgmaaGreatDoor

namespace Go.Proofs.YtcidjhnogldgmaaGreatDoor
open Go.RowKit
set_option linter.unusedSimpArgs false
set_option linter.unusedVariables false
def byAt (L : List UInt8) (p : Nat) : Nat := (L.getD p 0).toNat
theorem byAt_lt (L : List UInt8) (p : Nat) : byAt L p < 256 := (L.getD p 0).toNat_lt
end Go.Proofs.YtcidjhnogldgmaaGreatDoor

namespace Go.Proofs.YtcidjhnogldgmaaGreatDoor
open Go.RowKit
set_option linter.unusedSimpArgs false
set_option linter.unusedVariables false
def isAt (L : List UInt8) (p c : Nat) : Bool := decide (p < L.length) && decide (byAt L p = c)
theorem isAt_yes {L : List UInt8} {p c : Nat} : isAt L p c = true ↔ p < L.length ∧ byAt L p = c := by unfold isAt; simp
theorem isAt_no {L : List UInt8} {p c : Nat} : isAt L p c = false ↔ ¬ (p < L.length ∧ byAt L p = c) := by unfold isAt; simp
def runF (P : Nat → Bool) (L : List UInt8) : Nat → Nat → Nat
  | 0, p => p
  | f + 1, p => if P (byAt L p) = true then runF P L f (p + 1) else p
def runJ (P : Nat → Bool) (L : List UInt8) (p : Nat) : Nat := runF P L (L.length - p) p
theorem runJ_yes {P : Nat → Bool} {L : List UInt8} {p : Nat} (h : p < L.length) (hb : P (byAt L p) = true) : runJ P L p = runJ P L (p + 1) := by
  unfold runJ
  rw [show L.length - p = L.length - (p + 1) + 1 by omega, runF, if_pos hb]
theorem runJ_no {P : Nat → Bool} {L : List UInt8} {p : Nat} (h : ¬ (p < L.length ∧ P (byAt L p) = true)) : runJ P L p = p := by
  unfold runJ
  by_cases hp : p < L.length
  · rw [show L.length - p = L.length - (p + 1) + 1 by omega, runF, if_neg (fun e => h ⟨hp, e⟩)]
  · rw [show L.length - p = 0 by omega, runF]
theorem runF_says (P : Nat → Bool) (L : List UInt8) : ∀ f p, p ≤ runF P L f p ∧ runF P L f p ≤ p + f ∧ (∀ j, p ≤ j → j < runF P L f p → P (byAt L j) = true) ∧ (runF P L f p < p + f → P (byAt L (runF P L f p)) = false) := by
  intro f
  induction f with
  | zero => intro p; exact ⟨Nat.le_refl _, Nat.le_refl _, fun j h1 h2 => by rw [runF] at h2; omega, fun h => by rw [runF] at h; omega⟩
  | succ f ih =>
    intro p
    rw [runF]
    by_cases h : P (byAt L p) = true
    · rw [if_pos h]
      obtain ⟨a1, a2, a3, a4⟩ := ih (p + 1)
      refine ⟨by omega, by omega, fun j h1 h2 => ?_, fun h2 => a4 (by omega)⟩
      by_cases e : j = p
      · rw [e]; exact h
      · exact a3 j (by omega) h2
    · rw [if_neg h]
      exact ⟨Nat.le_refl _, by omega, fun j h1 h2 => by omega, fun _ => by simpa using h⟩
theorem runJ_ge (P : Nat → Bool) (L : List UInt8) (p : Nat) : p ≤ runJ P L p := (runF_says P L _ p).1
theorem runJ_le {P : Nat → Bool} {L : List UInt8} {p : Nat} (h : p ≤ L.length) : runJ P L p ≤ L.length := by have := (runF_says P L (L.length - p) p).2.1; unfold runJ; omega
theorem runJ_end {P : Nat → Bool} {L : List UInt8} {p : Nat} (h : runJ P L p < L.length) : P (byAt L (runJ P L p)) = false := by
  refine (runF_says P L (L.length - p) p).2.2.2 ?_
  have := runJ_ge P L p
  unfold runJ at h this
  omega
theorem runJ_idem (P : Nat → Bool) (L : List UInt8) (p : Nat) : runJ P L (runJ P L p) = runJ P L p := by
  refine runJ_no (fun h => ?_)
  have := runJ_end h.1
  rw [h.2] at this
  cases this
theorem runJ_past {P : Nat → Bool} {L : List UInt8} {p : Nat} (h : L.length ≤ p) : runJ P L p = p := runJ_no (fun e => by omega)
def digC (c : Nat) : Bool := decide (48 ≤ c ∧ c ≤ 57)
abbrev dgJ (L : List UInt8) (p : Nat) : Nat := runJ digC L p
def valF (L : List UInt8) (p : Nat) : Nat → Nat
  | 0 => 0
  | k + 1 => 10 * valF L p k + (byAt L (p + k) - 48)
def numAt (L : List UInt8) (p : Nat) : Nat := if isAt L p 45 = true then p + 1 else p
def nullW : List UInt8 := [110, 117, 108, 108]
def trueW : List UInt8 := [116, 114, 117, 101]
def falseW : List UInt8 := [102, 97, 108, 115, 101]
def escC (c : Nat) : Option Nat :=
  if c = 34 then some 34 else if c = 92 then some 92 else if c = 47 then some 47 else if c = 98 then some 8 else if c = 102 then some 12 else if c = 110 then some 10 else if c = 114 then some 13 else if c = 116 then some 9 else none
def hexC (c : Nat) : Option Nat := if 48 ≤ c ∧ c ≤ 57 then some (c - 48) else if 97 ≤ c ∧ c ≤ 102 then some (c - 87) else if 65 ≤ c ∧ c ≤ 70 then some (c - 55) else none
theorem hexC_lt {c d : Nat} (h : hexC c = some d) : d < 16 := by
  unfold hexC at h
  split at h
  · simp at h; omega
  · split at h
    · simp at h; omega
    · split at h
      · simp at h; omega
      · cases h
def hexF (L : List UInt8) (p : Nat) : Nat → Option Nat
  | 0 => some 0
  | k + 1 => match hexF L p k with
    | none => none
    | some v => match hexC (byAt L (p + k)) with
      | none => none
      | some d => some (16 * v + d)
theorem hexF_lt (L : List UInt8) (p : Nat) : ∀ {k v : Nat}, hexF L p k = some v → v < 16 ^ k := by
  intro k
  induction k with
  | zero => intro v h; simp [hexF] at h; omega
  | succ k ih =>
    intro v h
    rw [hexF] at h
    cases e : hexF L p k with
    | none => simp [e] at h
    | some u =>
      simp only [e] at h
      cases e2 : hexC (byAt L (p + k)) with
      | none => simp [e2] at h
      | some d =>
        simp only [e2, Option.some.injEq] at h
        have := ih e
        have := hexC_lt e2
        rw [Nat.pow_succ]
        omega
def codeJ (L : List UInt8) (p : Nat) : Option (Nat × Nat) :=
  if L.length < p + 4 then none else match hexF L p 4 with
    | none => none
    | some v => if 127 < v then none else some (v, p + 4)
theorem hexF_step {L : List UInt8} {p k v d : Nat} (h : hexF L p k = some v) (hd : hexC (byAt L (p + k)) = some d) : hexF L p (k + 1) = some (16 * v + d) := by rw [hexF, h]; simp only [hd]
theorem hexF_none {L : List UInt8} {p k : Nat} (h : hexF L p k = none) : ∀ m, k ≤ m → hexF L p m = none := by
  intro m hm
  induction hm with
  | refl => exact h
  | step _ ih => rw [hexF, ih]
theorem hexF_stop {L : List UInt8} {p k v m : Nat} (h : hexF L p k = some v) (hd : hexC (byAt L (p + k)) = none) (hm : k < m) : hexF L p m = none := hexF_none (k := k + 1) (by rw [hexF, h]; simp only [hd]) m (by omega)
theorem codeJ_short {L : List UInt8} {p : Nat} (h : L.length < p + 4) : codeJ L p = none := by unfold codeJ; rw [if_pos h]
theorem codeJ_no {L : List UInt8} {p : Nat} (h : hexF L p 4 = none) : codeJ L p = none := by unfold codeJ; rw [h]; split <;> rfl
theorem codeJ_big {L : List UInt8} {p v : Nat} (h : hexF L p 4 = some v) (hv : 127 < v) : codeJ L p = none := by
  unfold codeJ
  split
  · rfl
  · rw [h]; simp only [if_pos hv]
theorem codeJ_yes {L : List UInt8} {p v : Nat} (hp : p + 4 ≤ L.length) (h : hexF L p 4 = some v) (hv : v ≤ 127) : codeJ L p = some (v, p + 4) := by
  unfold codeJ
  rw [if_neg (by omega), h]
  simp only [if_neg (by omega : ¬ 127 < v)]
def escJ (L : List UInt8) (p : Nat) : Option (Nat × Nat) :=
  if L.length ≤ p then none else match escC (byAt L p) with
    | some b => some (b, p + 1)
    | none => if byAt L p = 117 then codeJ L (p + 1) else none
theorem escJ_says {L : List UInt8} {p b q : Nat} (h : escJ L p = some (b, q)) : p < q ∧ q ≤ L.length ∧ b ≤ 127 := by
  unfold escJ at h
  split at h
  · cases h
  · rename_i hp
    cases e : escC (byAt L p) with
    | some b' =>
      simp only [e, Option.some.injEq, Prod.mk.injEq] at h
      obtain ⟨rfl, rfl⟩ := h
      refine ⟨by omega, by omega, ?_⟩
      unfold escC at e
      repeat (split at e; · simp at e; omega)
      cases e
    | none =>
      simp only [e] at h
      split at h
      · unfold codeJ at h
        split at h
        · cases h
        · rename_i h4
          cases e2 : hexF L (p + 1) 4 with
          | none => simp [e2] at h
          | some v =>
            simp only [e2] at h
            split at h
            · cases h
            · rename_i hv
              simp only [Option.some.injEq, Prod.mk.injEq] at h
              obtain ⟨rfl, rfl⟩ := h
              exact ⟨by omega, by omega, by omega⟩
      · cases h
def textF (L : List UInt8) : Nat → Nat → Option (List UInt8 × Nat)
  | 0, _ => none
  | f + 1, p => if byAt L p = 34 then some ([], p + 1)
    else if byAt L p = 92 then match escJ L (p + 1) with
      | none => none
      | some (b, q) => match textF L f q with
        | none => none
        | some (l, z) => some (UInt8.ofNat b :: l, z)
    else if byAt L p < 32 ∨ 127 < byAt L p then none
    else match textF L f (p + 1) with
      | none => none
      | some (l, z) => some (UInt8.ofNat (byAt L p) :: l, z)
def txJ (L : List UInt8) (p : Nat) : Option (List UInt8 × Nat) := textF L (L.length - p) p
theorem byAt_past {L : List UInt8} {p : Nat} (h : L.length ≤ p) : byAt L p = 0 := by
  unfold byAt
  rw [List.getD_eq_getElem?_getD, List.getElem?_eq_none h]; rfl
theorem textF_past {L : List UInt8} {p : Nat} (h : L.length ≤ p) (f : Nat) : textF L f p = none := by
  cases f with
  | zero => rfl
  | succ f => rw [textF, byAt_past h]; rfl
theorem textF_same (L : List UInt8) : ∀ m p f g, L.length - p ≤ m → L.length - p ≤ f → L.length - p ≤ g → textF L f p = textF L g p := by
  intro m
  induction m with
  | zero => intro p f g h _ _; rw [textF_past (by omega), textF_past (by omega)]
  | succ m ih =>
    intro p f g h hf hg
    by_cases hp : L.length ≤ p
    · rw [textF_past hp, textF_past hp]
    · obtain ⟨f, rfl⟩ : ∃ f', f = f' + 1 := ⟨f - 1, by omega⟩
      obtain ⟨g, rfl⟩ : ∃ g', g = g' + 1 := ⟨g - 1, by omega⟩
      have key : ∀ q, p < q → textF L f q = textF L g q := fun q hq => ih q f g (by omega) (by omega) (by omega)
      rw [textF, textF, key (p + 1) (by omega)]
      cases e : escJ L (p + 1) with
      | none => rfl
      | some x =>
        obtain ⟨b, q⟩ := x
        have := escJ_says e
        dsimp only
        rw [key q (by omega)]
theorem txJ_eq {L : List UInt8} {p : Nat} (h : p < L.length) : txJ L p = if byAt L p = 34 then some ([], p + 1)
    else if byAt L p = 92 then match escJ L (p + 1) with
      | none => none
      | some (b, q) => match txJ L q with
        | none => none
        | some (l, z) => some (UInt8.ofNat b :: l, z)
    else if byAt L p < 32 ∨ 127 < byAt L p then none
    else match txJ L (p + 1) with
      | none => none
      | some (l, z) => some (UInt8.ofNat (byAt L p) :: l, z) := by
  have e1 : textF L (L.length - (p + 1)) (p + 1) = txJ L (p + 1) := rfl
  conv => lhs; unfold txJ
  rw [show L.length - p = L.length - (p + 1) + 1 by omega, textF, e1]
  cases e : escJ L (p + 1) with
  | none => rfl
  | some x =>
    obtain ⟨b, q⟩ := x
    have := escJ_says e
    dsimp only
    rw [textF_same L L.length q (L.length - (p + 1)) (L.length - q) (by omega) (by omega) (by omega)]
    rfl
theorem txJ_past {L : List UInt8} {p : Nat} (h : L.length ≤ p) : txJ L p = none := textF_past h _
theorem txJ_says {L : List UInt8} : ∀ m p l q, L.length - p ≤ m → txJ L p = some (l, q) → p < q ∧ q ≤ L.length ∧ l.length < q - p ∧ ∀ c ∈ l, c.toNat ≤ 127 := by
  intro m
  induction m with
  | zero => intro p l q h e; rw [txJ_past (by omega)] at e; cases e
  | succ m ih =>
    intro p l q h e
    by_cases hp : L.length ≤ p
    · rw [txJ_past hp] at e; cases e
    · rw [txJ_eq (by omega)] at e
      split at e
      · simp only [Option.some.injEq, Prod.mk.injEq] at e
        obtain ⟨rfl, rfl⟩ := e
        exact ⟨by omega, by omega, by simp, fun c hc => absurd hc (by simp)⟩
      · split at e
        · cases e1 : escJ L (p + 1) with
          | none => simp [e1] at e
          | some x =>
            obtain ⟨b, z⟩ := x
            simp only [e1] at e
            obtain ⟨a1, a2, a3⟩ := escJ_says e1
            cases e2 : txJ L z with
            | none => simp [e2] at e
            | some y =>
              obtain ⟨l2, z2⟩ := y
              simp only [e2, Option.some.injEq, Prod.mk.injEq] at e
              obtain ⟨rfl, rfl⟩ := e
              obtain ⟨b1, b2, b3, b4⟩ := ih z l2 z2 (by omega) e2
              refine ⟨by omega, b2, by simp; omega, fun c hc => ?_⟩
              rcases List.mem_cons.1 hc with rfl | hc
              · rw [UInt8.toNat_ofNat']; omega
              · exact b4 c hc
        · split at e
          · cases e
          · rename_i hr
            cases e2 : txJ L (p + 1) with
            | none => simp [e2] at e
            | some y =>
              obtain ⟨l2, z2⟩ := y
              simp only [e2, Option.some.injEq, Prod.mk.injEq] at e
              obtain ⟨rfl, rfl⟩ := e
              obtain ⟨b1, b2, b3, b4⟩ := ih (p + 1) l2 z2 (by omega) e2
              refine ⟨by omega, b2, by simp; omega, fun c hc => ?_⟩
              rcases List.mem_cons.1 hc with rfl | hc
              · rw [UInt8.toNat_ofNat']; omega
              · exact b4 c hc
end Go.Proofs.YtcidjhnogldgmaaGreatDoor

namespace Go.Proofs.YtcidjhnogldgmaaGreatDoor
open Go.RowKit
set_option linter.unusedSimpArgs false
set_option linter.unusedVariables false
def digsI (d : List UInt8) : Prop := ∀ j, j < d.length → digC (byAt d j) = true
instance (d : List UInt8) : Decidable (digsI d) := by unfold digsI; infer_instance
def numW (L : List UInt8) (p : Nat) : List UInt8 := (L.drop p).take (dgJ L (numAt L p) - p)
theorem numAt_ge (L : List UInt8) (p : Nat) : p ≤ numAt L p := by unfold numAt; split <;> omega
theorem numAt_le {L : List UInt8} {p : Nat} (h : p ≤ L.length) : numAt L p ≤ L.length := by
  unfold numAt
  split
  · rename_i e; have := (isAt_yes.1 e).1; omega
  · exact h
end Go.Proofs.YtcidjhnogldgmaaGreatDoor

namespace Go.Proofs.YtcidjhnogldgmaaGreatDoor
open Go.RowKit
set_option linter.unusedSimpArgs false
set_option linter.unusedVariables false
end Go.Proofs.YtcidjhnogldgmaaGreatDoor

namespace Go.Proofs.YtcidjhnogldgmaaGreatDoor
open Go.RowKit
set_option linter.unusedSimpArgs false
set_option linter.unusedVariables false
end Go.Proofs.YtcidjhnogldgmaaGreatDoor

namespace Go.Proofs.YtcidjhnogldgmaaGreatDoor
open Go.RowKit
set_option linter.unusedSimpArgs false
set_option linter.unusedVariables false
end Go.Proofs.YtcidjhnogldgmaaGreatDoor

namespace Go.Proofs.YtcidjhnogldgmaaGreatDoor
open Go.RowKit
set_option linter.unusedSimpArgs false
set_option linter.unusedVariables false
end Go.Proofs.YtcidjhnogldgmaaGreatDoor

namespace Go.Proofs.YtcidjhnogldgmaaGreatDoor
open Go.RowKit
set_option linter.unusedSimpArgs false
set_option linter.unusedVariables false
end Go.Proofs.YtcidjhnogldgmaaGreatDoor

namespace Go.Proofs.YtcidjhnogldgmaaGreatDoor
open Go.RowKit
set_option linter.unusedSimpArgs false
set_option linter.unusedVariables false
structure PS where
  named : Bool
  key : ByteArray
  pl : Int
end Go.Proofs.YtcidjhnogldgmaaGreatDoor

namespace Go.Proofs.YtcidjhnogldgmaaGreatDoor
open Go.RowKit
set_option linter.unusedSimpArgs false
set_option linter.unusedVariables false
end Go.Proofs.YtcidjhnogldgmaaGreatDoor

namespace Go.Proofs.YtcidjhnogldgmaaGreatDoor
open Go.RowKit
set_option linter.unusedSimpArgs false
set_option linter.unusedVariables false
set_option linter.unusedSectionVars false
structure Tot (R : Int → Int → Prop) : Prop where
  tr : ∀ x y z, R x y → R y z → R x z
  asym : ∀ x y, R x y → ¬ R y x
  to : ∀ x y, x ≠ y → R x y ∨ R y x
def Rises (R : Int → Int → Prop) (f : Nat → Int) (a b : Nat) : Prop := ∀ p q, a ≤ p → p < q → q < b → R (f p) (f q)
def Cross (f : Nat → Int) (a m b : Nat) : Prop := ∀ p q, a ≤ p → p < m → m ≤ q → q < b → f p < f q
structure Merged (R : Int → Int → Prop) (f f' : Nat → Int) (a b : Nat) : Prop where
  out : ∀ p, p < a ∨ b ≤ p → f' p = f p
  inn : ∀ p, a ≤ p → p < b → ∃ q, a ≤ q ∧ q < b ∧ f' p = f q
  ris : Rises R f' a b
structure Parted (R : Int → Int → Prop) (f : Nat → Int) (a s m e b : Nat) : Prop where
  ale : a ≤ s
  sm : s ≤ m
  me : m ≤ e
  eb : e ≤ b
  x1 : ∀ p q, a ≤ p → p < s → e ≤ q → q < b → R (f p) (f q)
  x2 : ∀ p q, s ≤ p → p < m → m ≤ q → q < e → R (f q) (f p)
section
variable {R : Int → Int → Prop} {f : Nat → Int} {a s m e b : Nat}
end
end Go.Proofs.YtcidjhnogldgmaaGreatDoor

namespace Go.Proofs.YtcidjhnogldgmaaGreatDoor
open Go.RowKit
set_option linter.unusedSimpArgs false
set_option linter.unusedVariables false
set_option linter.unusedSectionVars false
section
variable {R : Int → Int → Prop} {f fk fk' : Nat → Int} {s a b m N : Nat}
end
end Go.Proofs.YtcidjhnogldgmaaGreatDoor

namespace Go.Proofs.YtcidjhnogldgmaaGreatDoor
open Go.RowKit
set_option linter.unusedSimpArgs false
set_option linter.unusedVariables false
set_option linter.unusedSectionVars false
section
variable {R : Int → Int → Prop} {f : Nat → Int}
structure MidS (a m b lo hi n : Nat) : Prop where
  la : a ≤ lo
  hm : hi ≤ m
  le : lo ≤ hi
  up : ∀ c, lo ≤ c → c < hi → m + c + 1 ≤ n ∧ n < b + c + 1
  lo' : lo = a ∨ lo + b = n
  hi' : hi = m ∨ hi + m = n
  nm : m + lo ≤ n ∧ m + hi ≤ n ∧ n ≤ b + lo
end
end Go.Proofs.YtcidjhnogldgmaaGreatDoor

namespace Go.Proofs.YtcidjhnogldgmaaGreatDoor
def anyTo (h : Nat → Bool) : Nat → Bool
  | 0 => false
  | k + 1 => anyTo h k || h k
def pickIx (g : Nat → Bool) : Nat → List Nat
  | 0 => []
  | i + 1 => if g i = true then pickIx g i else pickIx g i ++ [i]
theorem pickIx_lt (g : Nat → Bool) : ∀ i, (pickIx g i).length ≤ i ∧ ∀ x ∈ pickIx g i, x < i := by
  intro i
  induction i with
  | zero => exact ⟨Nat.le_refl _, fun x hx => by cases hx⟩
  | succ i ih =>
    rw [pickIx]
    split
    · exact ⟨by omega, fun x hx => by have := ih.2 x hx; omega⟩
    · refine ⟨by simp; omega, fun x hx => ?_⟩
      rcases List.mem_append.1 hx with hx | hx
      · have := ih.2 x hx; omega
      · simp at hx; omega
end Go.Proofs.YtcidjhnogldgmaaGreatDoor
