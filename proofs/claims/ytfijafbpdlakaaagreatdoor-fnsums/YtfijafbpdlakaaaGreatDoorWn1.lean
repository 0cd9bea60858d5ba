/-
  Values as trees: how one lies behind the interface, and which nodes are laid for it.
-/
import Derived.Test.YtfijafbpdlakaaaGreatDoorVal
import Derived.Test.YtfijafbpdlakaaaGreatDoorFlat
import Derived.Test.YtfijafbpdlakaaaGreatDoorWnM
namespace Go.Proofs.YtfijafbpdlakaaaGreatDoor
open Go.RowKit
set_option linter.unusedSimpArgs false
set_option linter.unusedVariables false

inductive VT where
  | mk (kind n : Int) (s : ByteArray) (keys : List ByteArray) (kids : List VT)

def VT.zero : VT := .mk 0 0 ByteArray.empty [] []
def kidT (l : List VT) (j : Nat) : VT := l.getD j VT.zero

def TItems (B : Nat) (w : World) (it : Value) (n : Nat) (P : Nat → Value → Prop) : Prop :=
  n ≤ 100000 ∧ ∃ a cap, it = .slice a n cap ∧ (0 < n → ∃ b, a = some ⟨b, 0, none⟩ ∧ b < B ∧ ∀ j, j < n → ∃ t x, w.cell? ⟨b, j, none⟩ = some (.iface t x) ∧ P j (.iface t x))

/-- The value of a tree; its rows lie below block B. -/
def TreeAt (B : Nat) (w : World) : Nat → VT → Value → Prop
  | 0, _, _ => False
  | f + 1, .mk kind n s keys kids, v =>
    (kind = 1 ∧ n = 0 ∧ s = ByteArray.empty ∧ keys = [] ∧ kids = [] ∧ v = .iface 132 (.agg #[])) ∨
    (kind = 2 ∧ s = ByteArray.empty ∧ keys = [] ∧ kids = [] ∧ v = .iface 105 (.agg #[.int .i64 n])) ∨
    (kind = 3 ∧ s = ByteArray.empty ∧ keys = [] ∧ kids = [] ∧ v = .iface 86 (.agg #[.int .i64 n])) ∨
    (kind = 4 ∧ n = 0 ∧ keys = [] ∧ kids = [] ∧ v = .iface 89 (.agg #[.string s])) ∨
    (kind = 5 ∧ n = 0 ∧ s = ByteArray.empty ∧ keys = [] ∧ ∃ it, v = .iface 91 (.agg #[it]) ∧ TItems B w it kids.length (fun j u => TreeAt B w f (kidT kids j) u)) ∨
    (kind = 6 ∧ n = 0 ∧ s = ByteArray.empty ∧ ∃ ks it, v = .iface 94 (.agg #[ks, it]) ∧ StrsAt B w ks keys ∧ TItems B w it kids.length (fun j u => TreeAt B w f (kidT kids j) u))

theorem TreeAt.keep {B B' : Nat} {w w' : World} (hk : ∀ k, k < B → w'.heap[k]? = w.heap[k]?) (hB : B ≤ B') : ∀ {f : Nat} {t : VT} {v : Value}, TreeAt B w f t v → TreeAt B' w' f t v := by
  intro f
  induction f with
  | zero => intro t v h; exact h.elim
  | succ f ih =>
    intro t v h
    obtain ⟨kind, n, s, keys, kids⟩ := t
    have hc : ∀ b j, b < B → w'.cell? ⟨b, j, none⟩ = w.cell? ⟨b, j, none⟩ := fun b j hb => World.cell?_of_block (hk b hb)
    have hit : ∀ it, TItems B w it kids.length (fun j u => TreeAt B w f (kidT kids j) u) → TItems B' w' it kids.length (fun j u => TreeAt B' w' f (kidT kids j) u) := by
      rintro it ⟨h0, a, cap, e, hx⟩
      refine ⟨h0, a, cap, e, fun hn => ?_⟩
      obtain ⟨b, ea, h2, h3⟩ := hx hn
      refine ⟨b, ea, by omega, fun j hj => ?_⟩
      obtain ⟨t, x, hcc, hv⟩ := h3 j hj
      exact ⟨t, x, (hc b j h2).trans hcc, ih hv⟩
    rcases h with h | h | h | h | ⟨h1, h2, h3, h4, it, e, hi⟩ | ⟨h1, h2, h3, ks, it, e, hs, hi⟩
    · exact Or.inl h
    · exact Or.inr (Or.inl h)
    · exact Or.inr (Or.inr (Or.inl h))
    · exact Or.inr (Or.inr (Or.inr (Or.inl h)))
    · exact Or.inr (Or.inr (Or.inr (Or.inr (Or.inl ⟨h1, h2, h3, h4, it, e, hit it hi⟩))))
    · exact Or.inr (Or.inr (Or.inr (Or.inr (Or.inr ⟨h1, h2, h3, ks, it, e, (hs.keep (lo := B) (B := B) (fun k _ hk' => hk k hk') (Nat.le_refl _)).wide hB, hit it hi⟩))))

theorem TreeAt.more {B : Nat} {w : World} : ∀ {f g : Nat} {t : VT} {v : Value}, f ≤ g → TreeAt B w f t v → TreeAt B w g t v := by
  intro f
  induction f with
  | zero => intro g t v _ h; exact h.elim
  | succ f ih =>
    intro g t v hfg h
    match g, hfg with
    | g + 1, hfg =>
      obtain ⟨kind, n, s, keys, kids⟩ := t
      have hit : ∀ it, TItems B w it kids.length (fun j u => TreeAt B w f (kidT kids j) u) → TItems B w it kids.length (fun j u => TreeAt B w g (kidT kids j) u) := by
        rintro it ⟨h0, a, cap, e, hx⟩
        refine ⟨h0, a, cap, e, fun hn => ?_⟩
        obtain ⟨b, ea, h2, h3⟩ := hx hn
        refine ⟨b, ea, by omega, fun j hj => ?_⟩
        obtain ⟨t, x, hcc, hv⟩ := h3 j hj
        exact ⟨t, x, hcc, ih (by omega) hv⟩
      rcases h with h | h | h | h | ⟨h1, h2, h3, h4, it, e, hi⟩ | ⟨h1, h2, h3, ks, it, e, hs, hi⟩
      · exact Or.inl h
      · exact Or.inr (Or.inl h)
      · exact Or.inr (Or.inr (Or.inl h))
      · exact Or.inr (Or.inr (Or.inr (Or.inl h)))
      · exact Or.inr (Or.inr (Or.inr (Or.inr (Or.inl ⟨h1, h2, h3, h4, it, e, hit it hi⟩))))
      · exact Or.inr (Or.inr (Or.inr (Or.inr (Or.inr ⟨h1, h2, h3, ks, it, e, hs, hit it hi⟩))))

/-! ### The nodes that are laid -/
def layKidsT (F : VT → Nat → List VN) (sh : Nat) : List VT → List VN → List Int → List VN × List Int
  | [], acc, ks => (acc, ks)
  | k :: r, acc, ks => layKidsT F sh r (acc ++ F k (sh + acc.length)) (ks ++ [((sh + (acc ++ F k (sh + acc.length)).length : Nat) : Int) - 1])

def layT : Nat → VT → Nat → List VN
  | 0, _, _ => []
  | f + 1, .mk kind n s keys kids, sh => (layKidsT (layT f) sh kids [] []).1 ++ [{ kind := kind, n := n, s := s, keys := keys, kids := (layKidsT (layT f) sh kids [] []).2 }]

theorem layKidsT_append (F : VT → Nat → List VN) (sh : Nat) : ∀ (l m : List VT) (acc : List VN) (ks : List Int), layKidsT F sh (l ++ m) acc ks = layKidsT F sh m (layKidsT F sh l acc ks).1 (layKidsT F sh l acc ks).2 := by
  intro l
  induction l with
  | nil => intro m acc ks; rfl
  | cons k r ih => intro m acc ks; exact ih m _ _

theorem layKidsT_grow (F : VT → Nat → List VN) (sh : Nat) : ∀ (l : List VT) (acc : List VN) (ks : List Int), acc.length ≤ (layKidsT F sh l acc ks).1.length := by
  intro l
  induction l with
  | nil => intro acc ks; exact Nat.le_refl _
  | cons k r ih => intro acc ks; exact Nat.le_trans (by simp) (ih _ _)

theorem layKidsT_kids (F : VT → Nat → List VN) (sh : Nat) : ∀ (l : List VT) (acc : List VN) (ks : List Int), (layKidsT F sh l acc ks).2.length = ks.length + l.length := by
  intro l
  induction l with
  | nil => intro acc ks; rfl
  | cons k r ih => intro acc ks; rw [layKidsT, ih]; simp; omega

/-- After the first k parts. -/
def accT (f sh : Nat) (l : List VT) (k : Nat) : List VN := (layKidsT (layT f) sh (l.take k) [] []).1
def ksT (f sh : Nat) (l : List VT) (k : Nat) : List Int := (layKidsT (layT f) sh (l.take k) [] []).2

theorem accT_zero (f sh : Nat) (l : List VT) : accT f sh l 0 = [] := by simp [accT, layKidsT]
theorem ksT_zero (f sh : Nat) (l : List VT) : ksT f sh l 0 = [] := by simp [ksT, layKidsT]
theorem ksT_len (f sh : Nat) (l : List VT) {k : Nat} (h : k ≤ l.length) : (ksT f sh l k).length = k := by
  unfold ksT; rw [layKidsT_kids]; simp; omega

theorem take_kid {l : List VT} {k : Nat} (h : k < l.length) : l.take (k + 1) = l.take k ++ [kidT l k] := by
  rw [List.take_add_one, List.getElem?_eq_getElem h]
  simp [kidT, h]

theorem accT_succ (f sh : Nat) {l : List VT} {k : Nat} (h : k < l.length) : accT f sh l (k + 1) = accT f sh l k ++ layT f (kidT l k) (sh + (accT f sh l k).length) := by
  unfold accT; rw [take_kid h, layKidsT_append]; rfl
theorem ksT_succ (f sh : Nat) {l : List VT} {k : Nat} (h : k < l.length) : ksT f sh l (k + 1) = ksT f sh l k ++ [((sh + (accT f sh l (k + 1)).length : Nat) : Int) - 1] := by
  rw [accT_succ f sh h]; unfold ksT accT; rw [take_kid h, layKidsT_append]; rfl

theorem accT_le (f sh : Nat) (l : List VT) (k : Nat) : (accT f sh l k).length ≤ (accT f sh l l.length).length := by
  have e : l.take l.length = l.take k ++ l.drop k := by simp
  have h := layKidsT_append (layT f) sh (l.take k) (l.drop k) [] []
  unfold accT
  rw [e, h]
  exact layKidsT_grow _ _ _ _ _

theorem layT_eq (f : Nat) (kind n : Int) (s : ByteArray) (keys : List ByteArray) (kids : List VT) (sh : Nat) :
    layT (f + 1) (.mk kind n s keys kids) sh = accT f sh kids kids.length ++ [{ kind := kind, n := n, s := s, keys := keys, kids := ksT f sh kids kids.length }] := by
  simp [layT, accT, ksT]

theorem layT_pos {B : Nat} {w : World} {f : Nat} {t : VT} {v : Value} (h : TreeAt B w f t v) (sh : Nat) : 0 < (layT f t sh).length := by
  cases f with
  | zero => exact h.elim
  | succ f => obtain ⟨kind, n, s, keys, kids⟩ := t; rw [layT_eq]; simp

/-! ### Nodes as trees -/
def treeOf (vs : List VN) : Nat → Nat → VT
  | 0, _ => VT.zero
  | f + 1, i => .mk (nodeAt vs i).kind (nodeAt vs i).n (nodeAt vs i).s (nodeAt vs i).keys ((nodeAt vs i).kids.map fun k => treeOf vs f k.toNat)

theorem layKids_tree (vs : List VN) (f sh : Nat) (ih : ∀ i s, lay vs f i s = layT f (treeOf vs f i) s) : ∀ (l : List Int) (acc : List VN) (ks : List Int), layKids (lay vs f) sh l acc ks = layKidsT (layT f) sh (l.map fun k => treeOf vs f k.toNat) acc ks := by
  intro l
  induction l with
  | nil => intro acc ks; rfl
  | cons k r ihr => intro acc ks; rw [layKids, List.map_cons, layKidsT, ihr, ih]

theorem lay_tree (vs : List VN) : ∀ (f i sh : Nat), lay vs f i sh = layT f (treeOf vs f i) sh := by
  intro f
  induction f with
  | zero => intro i sh; rfl
  | succ f ih =>
    intro i sh
    rw [lay, treeOf, layT, layKids_tree vs f sh ih]

theorem kidT_map {l : List Int} {g : Int → VT} {j : Nat} (h : j < l.length) : kidT (l.map g) j = g (intAt l j) := by
  rw [intAt_get h]; simp [kidT, h]

theorem ValIs.tree {lo B : Nat} {w : World} {vs : List VN} (hlo : lo ≤ B) (hr : ∀ k, k < vs.length → nodeB (nodeAt vs k) = true ∧ kidsIn vs k = true) (hk : ∀ k, k < vs.length → (nodeAt vs k).kids.length ≤ k) (h80 : vs.length ≤ 80) : ∀ {f i : Nat} {v : Value}, i < vs.length → ValIs lo B w vs f i v → TreeAt B w f (treeOf vs f i) v := by
  intro f
  induction f with
  | zero => intro i v _ h; exact h.elim
  | succ f ih =>
    intro i v hi h
    have hit : ∀ it, ItemsAt lo B w it (nodeAt vs i).kids.length (fun j u => ValIs lo B w vs f (intAt (nodeAt vs i).kids j).toNat u) → TItems B w it ((nodeAt vs i).kids.map fun k => treeOf vs f k.toNat).length (fun j u => TreeAt B w f (kidT ((nodeAt vs i).kids.map fun k => treeOf vs f k.toNat) j) u) := by
      rintro it ⟨a, cap, e, hx⟩
      refine ⟨by have := hk i hi; simp; omega, a, cap, by simpa using e, fun hn => ?_⟩
      rw [List.length_map] at hn
      obtain ⟨b, ea, h1, h2, h3⟩ := hx hn
      refine ⟨b, ea, h2, fun j hj => ?_⟩
      rw [List.length_map] at hj
      obtain ⟨t, x, hcc, hv⟩ := h3 j hj
      refine ⟨t, x, hcc, ?_⟩
      show TreeAt B w f (kidT ((nodeAt vs i).kids.map fun k => treeOf vs f k.toNat) j) (.iface t x)
      rw [kidT_map hj]
      have hb := kidsIn_get (hr i hi).2 hj
      exact ih (by omega) hv
    have hn := (hr i hi).1
    unfold nodeB unnamedB at hn
    have es : ∀ s : ByteArray, s.toList = [] → s = ByteArray.empty := fun s h => by
      cases s with | mk d => rw [ByteArray.toList_eq] at h; simp at h; subst h; rfl
    simp only [Bool.and_eq_true, Bool.not_eq_true', Bool.and_eq_false_iff, decide_eq_false_iff_not, Decidable.not_not, Nat.not_lt, Nat.le_zero, List.length_eq_zero_iff] at hn
    obtain ⟨⟨⟨⟨n1, n2⟩, n3⟩, n4⟩, _⟩ := hn
    rw [treeOf]
    rcases h with ⟨k1, e⟩ | ⟨k2, e⟩ | ⟨k3, e⟩ | ⟨k4, e⟩ | ⟨k5, it, e, hi⟩ | ⟨k6, ks, it, e, hs, hi⟩
    · exact Or.inl ⟨k1, by omega, es _ (by rcases n2 with h | h; omega; exact h), by rcases n3 with h | h; omega; exact h, by rcases n4 with (h | h) | h; omega; omega; rw [h]; rfl, e⟩
    · exact Or.inr (Or.inl ⟨k2, es _ (by rcases n2 with h | h; omega; exact h), by rcases n3 with h | h; omega; exact h, by rcases n4 with (h | h) | h; omega; omega; rw [h]; rfl, e⟩)
    · exact Or.inr (Or.inr (Or.inl ⟨k3, es _ (by rcases n2 with h | h; omega; exact h), by rcases n3 with h | h; omega; exact h, by rcases n4 with (h | h) | h; omega; omega; rw [h]; rfl, e⟩))
    · exact Or.inr (Or.inr (Or.inr (Or.inl ⟨k4, by omega, by rcases n3 with h | h; omega; exact h, by rcases n4 with (h | h) | h; omega; omega; rw [h]; rfl, e⟩)))
    · exact Or.inr (Or.inr (Or.inr (Or.inr (Or.inl ⟨k5, by omega, es _ (by rcases n2 with h | h; omega; exact h), by rcases n3 with h | h; omega; exact h, it, e, hit it hi⟩))))
    · exact Or.inr (Or.inr (Or.inr (Or.inr (Or.inr ⟨k6, by omega, es _ (by rcases n2 with h | h; omega; exact h), ks, it, e, hs.wide hlo, hit it hi⟩))))
end Go.Proofs.YtfijafbpdlakaaaGreatDoor

/-
  What the methods kind and parts say, and a type switch's tests, one fact a pair of types. (The same facts as in CmpF and CmpE, for texts that don't reach the order: never import both.)
-/
namespace Go.Proofs.YtfijafbpdlakaaaGreatDoor
open Go.RowKit
set_option linter.unusedSimpArgs false
set_option linter.unusedVariables false

theorem kind1_any (w : World) : Calls Tryz.prog 154 #[.agg #[]] w fun e w' => e = .returned (.int .i64 1) ∧ Below w.heap.size w w' := by
  go_enter Tryz.func154, Tryz.ntmps154
  go_wp2_with fail
  go_ret
  exact ⟨rfl, (Below.refl _ _).alloc (Nat.le_refl _) _⟩
theorem kind2_any (n : Int) (w : World) : Calls Tryz.prog 150 #[.agg #[.int .i64 n]] w fun e w' => e = .returned (.int .i64 2) ∧ Below w.heap.size w w' := by
  go_enter Tryz.func150, Tryz.ntmps150
  go_wp2_with fail
  go_ret
  exact ⟨rfl, (Below.refl _ _).alloc (Nat.le_refl _) _⟩
theorem kind3_any (n : Int) (w : World) : Calls Tryz.prog 142 #[.agg #[.int .i64 n]] w fun e w' => e = .returned (.int .i64 3) ∧ Below w.heap.size w w' := by
  go_enter Tryz.func142, Tryz.ntmps142
  go_wp2_with fail
  go_ret
  exact ⟨rfl, (Below.refl _ _).alloc (Nat.le_refl _) _⟩
theorem kind4_any (s : ByteArray) (w : World) : Calls Tryz.prog 144 #[.agg #[.string s]] w fun e w' => e = .returned (.int .i64 4) ∧ Below w.heap.size w w' := by
  go_enter Tryz.func144, Tryz.ntmps144
  go_wp2_with fail
  go_ret
  exact ⟨rfl, (Below.refl _ _).alloc (Nat.le_refl _) _⟩
theorem kind5_any (a : Option Addr) (n c : Nat) (w : World) : Calls Tryz.prog 146 #[.agg #[.slice a n c]] w fun e w' => e = .returned (.int .i64 5) ∧ Below w.heap.size w w' := by
  go_enter Tryz.func146, Tryz.ntmps146
  go_wp2_with fail
  go_ret
  exact ⟨rfl, (Below.refl _ _).alloc (Nat.le_refl _) _⟩
theorem kind6_any (a : Option Addr) (n c : Nat) (a' : Option Addr) (n' c' : Nat) (w : World) : Calls Tryz.prog 148 #[.agg #[.slice a n c, .slice a' n' c']] w fun e w' => e = .returned (.int .i64 6) ∧ Below w.heap.size w w' := by
  go_enter Tryz.func148, Tryz.ntmps148
  go_wp2_with fail
  go_ret
  exact ⟨rfl, (Below.refl _ _).alloc (Nat.le_refl _) _⟩

theorem parts1_any (w : World) : Calls Tryz.prog 155 #[.agg #[]] w fun e w' => e = .returned (.slice none 0 0) ∧ Below w.heap.size w w' := by
  go_enter Tryz.func155, Tryz.ntmps155
  go_wp2_with fail
  go_ret
  exact ⟨rfl, (Below.refl _ _).alloc (Nat.le_refl _) _⟩
theorem parts2_any (n : Int) (w : World) : Calls Tryz.prog 151 #[.agg #[.int .i64 n]] w fun e w' => e = .returned (.slice none 0 0) ∧ Below w.heap.size w w' := by
  go_enter Tryz.func151, Tryz.ntmps151
  go_wp2_with fail
  go_ret
  exact ⟨rfl, (Below.refl _ _).alloc (Nat.le_refl _) _⟩
theorem parts3_any (n : Int) (w : World) : Calls Tryz.prog 143 #[.agg #[.int .i64 n]] w fun e w' => e = .returned (.slice none 0 0) ∧ Below w.heap.size w w' := by
  go_enter Tryz.func143, Tryz.ntmps143
  go_wp2_with fail
  go_ret
  exact ⟨rfl, (Below.refl _ _).alloc (Nat.le_refl _) _⟩
theorem parts4_any (s : ByteArray) (w : World) : Calls Tryz.prog 145 #[.agg #[.string s]] w fun e w' => e = .returned (.slice none 0 0) ∧ Below w.heap.size w w' := by
  go_enter Tryz.func145, Tryz.ntmps145
  go_wp2_with fail
  go_ret
  exact ⟨rfl, (Below.refl _ _).alloc (Nat.le_refl _) _⟩
theorem parts5_any (a : Option Addr) (n c : Nat) (w : World) : Calls Tryz.prog 147 #[.agg #[.slice a n c]] w fun e w' => e = .returned (.slice a n c) ∧ Below w.heap.size w w' := by
  go_enter Tryz.func147, Tryz.ntmps147
  go_wp2_with fail
  go_ret
  exact ⟨rfl, (Below.refl _ _).alloc (Nat.le_refl _) _⟩
theorem parts6_any (a : Option Addr) (n c : Nat) (a' : Option Addr) (n' c' : Nat) (w : World) : Calls Tryz.prog 149 #[.agg #[.slice a n c, .slice a' n' c']] w fun e w' => e = .returned (.slice a' n' c') ∧ Below w.heap.size w w' := by
  go_enter Tryz.func149, Tryz.ntmps149
  go_wp2_with fail
  go_ret
  exact ⟨rfl, (Below.refl _ _).alloc (Nat.le_refl _) _⟩

theorem ta_null_bool (x : Value) (w : World) : (Instr.typeAssert (.iface 132 x) 54 105 true).run Tryz.prog w = .ok (.tuple #[.agg #[.int .i64 0], .bool false]) w := by kernel_rfl
theorem ta_null_int (x : Value) (w : World) : (Instr.typeAssert (.iface 132 x) 54 86 true).run Tryz.prog w = .ok (.tuple #[.agg #[.int .i64 0], .bool false]) w := by kernel_rfl
theorem ta_null_text (x : Value) (w : World) : (Instr.typeAssert (.iface 132 x) 54 89 true).run Tryz.prog w = .ok (.tuple #[.agg #[.string ByteArray.empty], .bool false]) w := by kernel_rfl
theorem ta_null_map (x : Value) (w : World) : (Instr.typeAssert (.iface 132 x) 54 94 true).run Tryz.prog w = .ok (.tuple #[.agg #[.slice none 0 0, .slice none 0 0], .bool false]) w := by kernel_rfl
theorem ta_bool_bool (x : Value) (w : World) : (Instr.typeAssert (.iface 105 x) 54 105 true).run Tryz.prog w = .ok (.tuple #[x, .bool true]) w := by kernel_rfl
theorem ta_int_bool (x : Value) (w : World) : (Instr.typeAssert (.iface 86 x) 54 105 true).run Tryz.prog w = .ok (.tuple #[.agg #[.int .i64 0], .bool false]) w := by kernel_rfl
theorem ta_int_int (x : Value) (w : World) : (Instr.typeAssert (.iface 86 x) 54 86 true).run Tryz.prog w = .ok (.tuple #[x, .bool true]) w := by kernel_rfl
theorem ta_text_bool (x : Value) (w : World) : (Instr.typeAssert (.iface 89 x) 54 105 true).run Tryz.prog w = .ok (.tuple #[.agg #[.int .i64 0], .bool false]) w := by kernel_rfl
theorem ta_text_int (x : Value) (w : World) : (Instr.typeAssert (.iface 89 x) 54 86 true).run Tryz.prog w = .ok (.tuple #[.agg #[.int .i64 0], .bool false]) w := by kernel_rfl
theorem ta_text_text (x : Value) (w : World) : (Instr.typeAssert (.iface 89 x) 54 89 true).run Tryz.prog w = .ok (.tuple #[x, .bool true]) w := by kernel_rfl
theorem ta_list_bool (x : Value) (w : World) : (Instr.typeAssert (.iface 91 x) 54 105 true).run Tryz.prog w = .ok (.tuple #[.agg #[.int .i64 0], .bool false]) w := by kernel_rfl
theorem ta_list_int (x : Value) (w : World) : (Instr.typeAssert (.iface 91 x) 54 86 true).run Tryz.prog w = .ok (.tuple #[.agg #[.int .i64 0], .bool false]) w := by kernel_rfl
theorem ta_list_text (x : Value) (w : World) : (Instr.typeAssert (.iface 91 x) 54 89 true).run Tryz.prog w = .ok (.tuple #[.agg #[.string ByteArray.empty], .bool false]) w := by kernel_rfl
theorem ta_list_map (x : Value) (w : World) : (Instr.typeAssert (.iface 91 x) 54 94 true).run Tryz.prog w = .ok (.tuple #[.agg #[.slice none 0 0, .slice none 0 0], .bool false]) w := by kernel_rfl
theorem ta_map_bool (x : Value) (w : World) : (Instr.typeAssert (.iface 94 x) 54 105 true).run Tryz.prog w = .ok (.tuple #[.agg #[.int .i64 0], .bool false]) w := by kernel_rfl
theorem ta_map_int (x : Value) (w : World) : (Instr.typeAssert (.iface 94 x) 54 86 true).run Tryz.prog w = .ok (.tuple #[.agg #[.int .i64 0], .bool false]) w := by kernel_rfl
theorem ta_map_text (x : Value) (w : World) : (Instr.typeAssert (.iface 94 x) 54 89 true).run Tryz.prog w = .ok (.tuple #[.agg #[.string ByteArray.empty], .bool false]) w := by kernel_rfl
theorem ta_map_map (x : Value) (w : World) : (Instr.typeAssert (.iface 94 x) 54 94 true).run Tryz.prog w = .ok (.tuple #[x, .bool true]) w := by kernel_rfl
theorem fld_bool (n : Int) (w : World) : (Instr.field 105 (.agg #[.int .i64 n]) 0).run Tryz.prog w = .ok (.int .i64 n) w := by kernel_rfl
theorem fld_int (n : Int) (w : World) : (Instr.field 86 (.agg #[.int .i64 n]) 0).run Tryz.prog w = .ok (.int .i64 n) w := by kernel_rfl
theorem fld_text (s : ByteArray) (w : World) : (Instr.field 89 (.agg #[.string s]) 0).run Tryz.prog w = .ok (.string s) w := by kernel_rfl
theorem fld_map (a : Option Addr) (n c : Nat) (y : Value) (w : World) : (Instr.field 94 (.agg #[.slice a n c, y]) 0).run Tryz.prog w = .ok (.slice a n c) w := by kernel_rfl
theorem Below.next {w w1 w2 : World} (h : Below w.heap.size w w1) (k : Below w1.heap.size w1 w2) : Below w.heap.size w w2 := h.trans (k.mono h.size)
end Go.Proofs.YtfijafbpdlakaaaGreatDoor

/-
  impl.withNodes at values without parts.
-/
namespace Go.Proofs.YtfijafbpdlakaaaGreatDoor
open Go.RowKit
set_option linter.unusedSimpArgs false
set_option linter.unusedVariables false

theorem news5 (w : World) (c0 c1 c2 c3 c4 : Value) : ∀ j u, [c0, c1, c2, c3, c4][j]? = some u → (w.alloc (.cells #[c0, c1, c2, c3, c4] 34)).cell? ((⟨w.heap.size, 0, none⟩ : Addr).add j) = some u :=
  World.news_of_block (cs := #[c0, c1, c2, c3, c4]) (heap_alloc_new w _)

theorem news5_at (w : World) (b : Nat) (c0 c1 c2 c3 c4 : Value) (hb : w.heap.size = b) : ∀ j u, [c0, c1, c2, c3, c4][j]? = some u → (w.alloc (.cells #[c0, c1, c2, c3, c4] 34)).cell? ((⟨b, 0, none⟩ : Addr).add j) = some u := by
  subst hb; exact news5 w c0 c1 c2 c3 c4

set_option maxRecDepth 100000 in
set_option maxHeartbeats 3200000 in
theorem withNodes_null (base : Nat) (v : Value) (ns : List VN) (KV IV : Nat → Value) (w : World) (h : Nest base w v ns KV IV) (hb : base ≤ w.heap.size) (hn : ns.length ≤ 100000) :
    Calls Tryz.prog 33 #[v, .iface 132 (.agg #[])] w fun e w' => ∃ v' KV' IV', e = .returned v' ∧ Laid base w w' v v' ns [{ kind := 1, n := 0, s := ByteArray.empty, keys := [], kids := [] }] KV IV KV' IV' := by
  have H := hideIt h
  obtain ⟨av, cv, rfl⟩ := own_slice h.row
  clear h
  have tabool := ta_null_bool
  have taint := ta_null_int
  have tatext := ta_null_text
  have tamap := ta_null_map
  obtain ⟨i0, hi0, hz0, hs0, hy0⟩ := info_parts infoNode
  go_enter Tryz.func33, Tryz.ntmps33
  go_wp2_with fail
  refine (kind1_any _).mono ?_
  rintro e w1 ⟨rfl, hb1⟩
  have HB1 := hideIt hb1
  go_wp2_with fail
  refine (parts1_any _).mono ?_
  rintro e w2 ⟨rfl, hb2⟩
  have HM := hideIt (Mid.start H.out hb HB1.out hb2)
  have z2 : w1.heap.size < w2.heap.size := by have := hb2.size; simp at this; omega
  clear hb1 hb2
  go_wp2_with fail
  have y0 : w2.cell? ⟨w1.heap.size, 0, none⟩ = some (.int .i64 1) := HM.out.node.cellAt 0 (by omega)
  have y1 : w2.cell? ⟨w1.heap.size, 1, none⟩ = some (.int .i64 0) := HM.out.node.cellAt 1 (by omega)
  have y2 : w2.cell? ⟨w1.heap.size, 2, none⟩ = some (.string ⟨#[]⟩) := HM.out.node.cellAt 2 (by omega)
  have y3 : w2.cell? ⟨w1.heap.size, 3, none⟩ = some (.slice none 0 0) := HM.out.node.cellAt 3 (by omega)
  have y4 : w2.cell? ⟨w1.heap.size, 4, none⟩ = some (.slice none 0 0) := HM.out.node.cellAt 4 (by omega)
  have HN := hideIt (HM.out.nest.row.alloc (.cells #[.int .i64 1, .int .i64 0, .string ⟨#[]⟩, .slice none 0 0, .slice none 0 0] 34))
  go_loopw [0, 18] (fun o i wr => o = .slice av ns.length cv ∧ i = .int .i64 0 ∧ wr = w2) (fun _ _ _ => 0)
  case atStart => exact ⟨rfl, rfl, rfl⟩
  case round =>
    obtain ⟨rfl, rfl, hw⟩ := hrel
    rw [hw]
    clear hw
    go_wp2_with (at_builtin; refine wpList_append_own_at _ rfl _ _ 24 rfl base 34 i0 zeroNode 5 80 Tryz.underlying24 hi0 hz0 hs0 hy0 rfl (by decide) _ _ _ rfl HN.out ⟨w2.heap.size, 0, none⟩ 1 1 [.int .i64 1, .int .i64 0, .string ⟨#[]⟩, .slice none 0 0, .slice none 0 0] rfl rfl ?c1 ?c2 ?c3 ?c4 ?c5 ?_)
    case c1 => exact news5 _ _ _ _ _ _
    case c2 => intro u hu; simp at hu; rcases hu with rfl | rfl | rfl | rfl <;> rfl
    case c3 => simp [maxLen]; omega
    case c4 => simp; omega
    case c5 => simp; have := HM.out.frame.size; omega
    intro v' w6 hown hgrow _ hat
    have HL := hideIt (Mid.fin (x := { kind := 1, n := 0, s := ⟨#[]⟩, keys := [], kids := [] }) HM.out rfl (World.ownsRow_nil _ _ _ _) (fun j _ y hy => by simp [Value.ownBlock] at hy) (by simpa using hown) hgrow hat)
    clear hown hgrow hat
    go_wp2_with fail
    go_ret
    exact ⟨_, _, _, rfl, HL.out⟩

set_option maxRecDepth 100000 in
set_option maxHeartbeats 3200000 in
theorem withNodes_bool (n : Int) (base : Nat) (v : Value) (ns : List VN) (KV IV : Nat → Value) (w : World) (h : Nest base w v ns KV IV) (hb : base ≤ w.heap.size) (hn : ns.length ≤ 100000) :
    Calls Tryz.prog 33 #[v, .iface 105 (.agg #[.int .i64 n])] w fun e w' => ∃ v' KV' IV', e = .returned v' ∧ Laid base w w' v v' ns [{ kind := 2, n := n, s := ByteArray.empty, keys := [], kids := [] }] KV IV KV' IV' := by
  have H := hideIt h
  obtain ⟨av, cv, rfl⟩ := own_slice h.row
  clear h
  have ta0 := ta_bool_bool
  obtain ⟨i0, hi0, hz0, hs0, hy0⟩ := info_parts infoNode
  go_enter Tryz.func33, Tryz.ntmps33
  go_wp2_with fail
  refine (kind2_any _ _).mono ?_
  rintro e w1 ⟨rfl, hb1⟩
  have HB1 := hideIt hb1
  go_wp2_with fail
  refine (parts2_any _ _).mono ?_
  rintro e w2 ⟨rfl, hb2⟩
  have HM := hideIt (Mid.start H.out hb HB1.out hb2)
  have z2 : w1.heap.size < w2.heap.size := by have := hb2.size; simp at this; omega
  clear hb1 hb2
  go_wp2_with fail
  have y0 : w2.cell? ⟨w1.heap.size, 0, none⟩ = some (.int .i64 2) := HM.out.node.cellAt 0 (by omega)
  have y1 : w2.cell? ⟨w1.heap.size, 1, none⟩ = some (.int .i64 0) := HM.out.node.cellAt 1 (by omega)
  have y2 : w2.cell? ⟨w1.heap.size, 2, none⟩ = some (.string ⟨#[]⟩) := HM.out.node.cellAt 2 (by omega)
  have y3 : w2.cell? ⟨w1.heap.size, 3, none⟩ = some (.slice none 0 0) := HM.out.node.cellAt 3 (by omega)
  have y4 : w2.cell? ⟨w1.heap.size, 4, none⟩ = some (.slice none 0 0) := HM.out.node.cellAt 4 (by omega)
  have f1 : w2.frozen? ⟨w1.heap.size, 1, none⟩ = false := HM.out.node.frozenAt 1
  have HM2 := hideIt ((HM.out.put 1 (.int .i64 n)).grow (World.grownBy_alloc _ (.cells #[.int .i64 n] 105) none))
  have x0 : ((w2.setCell ⟨w1.heap.size, 1, none⟩ (.int .i64 n)).alloc (.cells #[.int .i64 n] 105)).cell? ⟨w1.heap.size, 0, none⟩ = some (.int .i64 2) := HM2.out.node.cellAt 0 (by omega)
  have x1 : ((w2.setCell ⟨w1.heap.size, 1, none⟩ (.int .i64 n)).alloc (.cells #[.int .i64 n] 105)).cell? ⟨w1.heap.size, 1, none⟩ = some (.int .i64 n) := HM2.out.node.cellAt 1 (by omega)
  have x2 : ((w2.setCell ⟨w1.heap.size, 1, none⟩ (.int .i64 n)).alloc (.cells #[.int .i64 n] 105)).cell? ⟨w1.heap.size, 2, none⟩ = some (.string ⟨#[]⟩) := HM2.out.node.cellAt 2 (by omega)
  have x3 : ((w2.setCell ⟨w1.heap.size, 1, none⟩ (.int .i64 n)).alloc (.cells #[.int .i64 n] 105)).cell? ⟨w1.heap.size, 3, none⟩ = some (.slice none 0 0) := HM2.out.node.cellAt 3 (by omega)
  have x4 : ((w2.setCell ⟨w1.heap.size, 1, none⟩ (.int .i64 n)).alloc (.cells #[.int .i64 n] 105)).cell? ⟨w1.heap.size, 4, none⟩ = some (.slice none 0 0) := HM2.out.node.cellAt 4 (by omega)
  have HN := hideIt (HM2.out.nest.row.alloc (.cells #[.int .i64 2, .int .i64 n, .string ⟨#[]⟩, .slice none 0 0, .slice none 0 0] 34))
  have HZ := hideIt HM2.out.frame.size
  go_loopw [0, 18] (fun o i wr => o = .slice av ns.length cv ∧ i = .int .i64 0 ∧ wr = w2) (fun _ _ _ => 0)
  case atStart => exact ⟨rfl, rfl, rfl⟩
  case round =>
    obtain ⟨rfl, rfl, hw⟩ := hrel
    rw [hw]
    clear hw
    go_wp2_with (at_builtin; refine wpList_append_own_at _ rfl _ _ 24 rfl base 34 i0 zeroNode 5 80 Tryz.underlying24 hi0 hz0 hs0 hy0 rfl (by decide) _ _ _ rfl HN.out ⟨w2.heap.size + 1, 0, none⟩ 1 1 [.int .i64 2, .int .i64 n, .string ⟨#[]⟩, .slice none 0 0, .slice none 0 0] rfl rfl ?c1 ?c2 ?c3 ?c4 ?c5 ?_)
    case c1 => exact news5_at _ _ _ _ _ _ _ (by simp)
    case c2 => intro u hu; simp at hu; rcases hu with rfl | rfl | rfl | rfl | rfl <;> rfl
    case c3 => simp [maxLen]; omega
    case c4 => simp; omega
    case c5 => have := HZ.out; simp at this ⊢; omega
    intro v' w6 hown hgrow _ hat
    have HL := hideIt (Mid.fin (x := { kind := 2, n := n, s := ⟨#[]⟩, keys := [], kids := [] }) HM2.out rfl (World.ownsRow_nil _ _ _ _) (fun j _ y hy => by simp [Value.ownBlock] at hy) (by simpa using hown) hgrow (by simpa using hat))
    clear hown hgrow hat
    go_wp2_with fail
    go_ret
    exact ⟨_, _, _, rfl, HL.out⟩

set_option maxRecDepth 100000 in
set_option maxHeartbeats 3200000 in
theorem withNodes_int (n : Int) (base : Nat) (v : Value) (ns : List VN) (KV IV : Nat → Value) (w : World) (h : Nest base w v ns KV IV) (hb : base ≤ w.heap.size) (hn : ns.length ≤ 100000) :
    Calls Tryz.prog 33 #[v, .iface 86 (.agg #[.int .i64 n])] w fun e w' => ∃ v' KV' IV', e = .returned v' ∧ Laid base w w' v v' ns [{ kind := 3, n := n, s := ByteArray.empty, keys := [], kids := [] }] KV IV KV' IV' := by
  have H := hideIt h
  obtain ⟨av, cv, rfl⟩ := own_slice h.row
  clear h
  have ta0 := ta_int_bool
  have ta1 := ta_int_int
  obtain ⟨i0, hi0, hz0, hs0, hy0⟩ := info_parts infoNode
  go_enter Tryz.func33, Tryz.ntmps33
  go_wp2_with fail
  refine (kind3_any _ _).mono ?_
  rintro e w1 ⟨rfl, hb1⟩
  have HB1 := hideIt hb1
  go_wp2_with fail
  refine (parts3_any _ _).mono ?_
  rintro e w2 ⟨rfl, hb2⟩
  have HM := hideIt (Mid.start H.out hb HB1.out hb2)
  have z2 : w1.heap.size < w2.heap.size := by have := hb2.size; simp at this; omega
  clear hb1 hb2
  go_wp2_with fail
  have y0 : w2.cell? ⟨w1.heap.size, 0, none⟩ = some (.int .i64 3) := HM.out.node.cellAt 0 (by omega)
  have y1 : w2.cell? ⟨w1.heap.size, 1, none⟩ = some (.int .i64 0) := HM.out.node.cellAt 1 (by omega)
  have y2 : w2.cell? ⟨w1.heap.size, 2, none⟩ = some (.string ⟨#[]⟩) := HM.out.node.cellAt 2 (by omega)
  have y3 : w2.cell? ⟨w1.heap.size, 3, none⟩ = some (.slice none 0 0) := HM.out.node.cellAt 3 (by omega)
  have y4 : w2.cell? ⟨w1.heap.size, 4, none⟩ = some (.slice none 0 0) := HM.out.node.cellAt 4 (by omega)
  have f1 : w2.frozen? ⟨w1.heap.size, 1, none⟩ = false := HM.out.node.frozenAt 1
  have HM2 := hideIt ((HM.out.put 1 (.int .i64 n)).grow (World.grownBy_alloc _ (.cells #[.int .i64 n] 86) none))
  have x0 : ((w2.setCell ⟨w1.heap.size, 1, none⟩ (.int .i64 n)).alloc (.cells #[.int .i64 n] 86)).cell? ⟨w1.heap.size, 0, none⟩ = some (.int .i64 3) := HM2.out.node.cellAt 0 (by omega)
  have x1 : ((w2.setCell ⟨w1.heap.size, 1, none⟩ (.int .i64 n)).alloc (.cells #[.int .i64 n] 86)).cell? ⟨w1.heap.size, 1, none⟩ = some (.int .i64 n) := HM2.out.node.cellAt 1 (by omega)
  have x2 : ((w2.setCell ⟨w1.heap.size, 1, none⟩ (.int .i64 n)).alloc (.cells #[.int .i64 n] 86)).cell? ⟨w1.heap.size, 2, none⟩ = some (.string ⟨#[]⟩) := HM2.out.node.cellAt 2 (by omega)
  have x3 : ((w2.setCell ⟨w1.heap.size, 1, none⟩ (.int .i64 n)).alloc (.cells #[.int .i64 n] 86)).cell? ⟨w1.heap.size, 3, none⟩ = some (.slice none 0 0) := HM2.out.node.cellAt 3 (by omega)
  have x4 : ((w2.setCell ⟨w1.heap.size, 1, none⟩ (.int .i64 n)).alloc (.cells #[.int .i64 n] 86)).cell? ⟨w1.heap.size, 4, none⟩ = some (.slice none 0 0) := HM2.out.node.cellAt 4 (by omega)
  have HN := hideIt (HM2.out.nest.row.alloc (.cells #[.int .i64 3, .int .i64 n, .string ⟨#[]⟩, .slice none 0 0, .slice none 0 0] 34))
  have HZ := hideIt HM2.out.frame.size
  go_loopw [0, 18] (fun o i wr => o = .slice av ns.length cv ∧ i = .int .i64 0 ∧ wr = w2) (fun _ _ _ => 0)
  case atStart => exact ⟨rfl, rfl, rfl⟩
  case round =>
    obtain ⟨rfl, rfl, hw⟩ := hrel
    rw [hw]
    clear hw
    go_wp2_with (at_builtin; refine wpList_append_own_at _ rfl _ _ 24 rfl base 34 i0 zeroNode 5 80 Tryz.underlying24 hi0 hz0 hs0 hy0 rfl (by decide) _ _ _ rfl HN.out ⟨w2.heap.size + 1, 0, none⟩ 1 1 [.int .i64 3, .int .i64 n, .string ⟨#[]⟩, .slice none 0 0, .slice none 0 0] rfl rfl ?c1 ?c2 ?c3 ?c4 ?c5 ?_)
    case c1 => exact news5_at _ _ _ _ _ _ _ (by simp)
    case c2 => intro u hu; simp at hu; rcases hu with rfl | rfl | rfl | rfl | rfl <;> rfl
    case c3 => simp [maxLen]; omega
    case c4 => simp; omega
    case c5 => have := HZ.out; simp at this ⊢; omega
    intro v' w6 hown hgrow _ hat
    have HL := hideIt (Mid.fin (x := { kind := 3, n := n, s := ⟨#[]⟩, keys := [], kids := [] }) HM2.out rfl (World.ownsRow_nil _ _ _ _) (fun j _ y hy => by simp [Value.ownBlock] at hy) (by simpa using hown) hgrow (by simpa using hat))
    clear hown hgrow hat
    go_wp2_with fail
    go_ret
    exact ⟨_, _, _, rfl, HL.out⟩

set_option maxRecDepth 100000 in
set_option maxHeartbeats 3200000 in
theorem withNodes_text (s : ByteArray) (base : Nat) (v : Value) (ns : List VN) (KV IV : Nat → Value) (w : World) (h : Nest base w v ns KV IV) (hb : base ≤ w.heap.size) (hn : ns.length ≤ 100000) :
    Calls Tryz.prog 33 #[v, .iface 89 (.agg #[.string s])] w fun e w' => ∃ v' KV' IV', e = .returned v' ∧ Laid base w w' v v' ns [{ kind := 4, n := 0, s := s, keys := [], kids := [] }] KV IV KV' IV' := by
  have H := hideIt h
  obtain ⟨av, cv, rfl⟩ := own_slice h.row
  clear h
  have ta0 := ta_text_bool
  have ta1 := ta_text_int
  have ta2 := ta_text_text
  obtain ⟨i0, hi0, hz0, hs0, hy0⟩ := info_parts infoNode
  go_enter Tryz.func33, Tryz.ntmps33
  go_wp2_with fail
  refine (kind4_any _ _).mono ?_
  rintro e w1 ⟨rfl, hb1⟩
  have HB1 := hideIt hb1
  go_wp2_with fail
  refine (parts4_any _ _).mono ?_
  rintro e w2 ⟨rfl, hb2⟩
  have HM := hideIt (Mid.start H.out hb HB1.out hb2)
  have z2 : w1.heap.size < w2.heap.size := by have := hb2.size; simp at this; omega
  clear hb1 hb2
  go_wp2_with fail
  have y0 : w2.cell? ⟨w1.heap.size, 0, none⟩ = some (.int .i64 4) := HM.out.node.cellAt 0 (by omega)
  have y1 : w2.cell? ⟨w1.heap.size, 1, none⟩ = some (.int .i64 0) := HM.out.node.cellAt 1 (by omega)
  have y2 : w2.cell? ⟨w1.heap.size, 2, none⟩ = some (.string ⟨#[]⟩) := HM.out.node.cellAt 2 (by omega)
  have y3 : w2.cell? ⟨w1.heap.size, 3, none⟩ = some (.slice none 0 0) := HM.out.node.cellAt 3 (by omega)
  have y4 : w2.cell? ⟨w1.heap.size, 4, none⟩ = some (.slice none 0 0) := HM.out.node.cellAt 4 (by omega)
  have f2 : w2.frozen? ⟨w1.heap.size, 2, none⟩ = false := HM.out.node.frozenAt 2
  have HM2 := hideIt ((HM.out.put 2 (.string s)).grow (World.grownBy_alloc _ (.cells #[.string s] 89) none))
  have x0 : ((w2.setCell ⟨w1.heap.size, 2, none⟩ (.string s)).alloc (.cells #[.string s] 89)).cell? ⟨w1.heap.size, 0, none⟩ = some (.int .i64 4) := HM2.out.node.cellAt 0 (by omega)
  have x1 : ((w2.setCell ⟨w1.heap.size, 2, none⟩ (.string s)).alloc (.cells #[.string s] 89)).cell? ⟨w1.heap.size, 1, none⟩ = some (.int .i64 0) := HM2.out.node.cellAt 1 (by omega)
  have x2 : ((w2.setCell ⟨w1.heap.size, 2, none⟩ (.string s)).alloc (.cells #[.string s] 89)).cell? ⟨w1.heap.size, 2, none⟩ = some (.string s) := HM2.out.node.cellAt 2 (by omega)
  have x3 : ((w2.setCell ⟨w1.heap.size, 2, none⟩ (.string s)).alloc (.cells #[.string s] 89)).cell? ⟨w1.heap.size, 3, none⟩ = some (.slice none 0 0) := HM2.out.node.cellAt 3 (by omega)
  have x4 : ((w2.setCell ⟨w1.heap.size, 2, none⟩ (.string s)).alloc (.cells #[.string s] 89)).cell? ⟨w1.heap.size, 4, none⟩ = some (.slice none 0 0) := HM2.out.node.cellAt 4 (by omega)
  have HN := hideIt (HM2.out.nest.row.alloc (.cells #[.int .i64 4, .int .i64 0, .string s, .slice none 0 0, .slice none 0 0] 34))
  have HZ := hideIt HM2.out.frame.size
  go_loopw [0, 18] (fun o i wr => o = .slice av ns.length cv ∧ i = .int .i64 0 ∧ wr = w2) (fun _ _ _ => 0)
  case atStart => exact ⟨rfl, rfl, rfl⟩
  case round =>
    obtain ⟨rfl, rfl, hw⟩ := hrel
    rw [hw]
    clear hw
    go_wp2_with (at_builtin; refine wpList_append_own_at _ rfl _ _ 24 rfl base 34 i0 zeroNode 5 80 Tryz.underlying24 hi0 hz0 hs0 hy0 rfl (by decide) _ _ _ rfl HN.out ⟨w2.heap.size + 1, 0, none⟩ 1 1 [.int .i64 4, .int .i64 0, .string s, .slice none 0 0, .slice none 0 0] rfl rfl ?c1 ?c2 ?c3 ?c4 ?c5 ?_)
    case c1 => exact news5_at _ _ _ _ _ _ _ (by simp)
    case c2 => intro u hu; simp at hu; rcases hu with rfl | rfl | rfl | rfl | rfl <;> rfl
    case c3 => simp [maxLen]; omega
    case c4 => simp; omega
    case c5 => have := HZ.out; simp at this ⊢; omega
    intro v' w6 hown hgrow _ hat
    have HL := hideIt (Mid.fin (x := { kind := 4, n := 0, s := s, keys := [], kids := [] }) HM2.out rfl (World.ownsRow_nil _ _ _ _) (fun j _ y hy => by simp [Value.ownBlock] at hy) (by simpa using hown) hgrow (by simpa using hat))
    clear hown hgrow hat
    go_wp2_with fail
    go_ret
    exact ⟨_, _, _, rfl, HL.out⟩
end Go.Proofs.YtfijafbpdlakaaaGreatDoor
