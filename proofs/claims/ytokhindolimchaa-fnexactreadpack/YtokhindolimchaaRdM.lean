/-
  One node alone, in new memory.
-/
import Derived.Test.YtokhindolimchaaNest
import Derived.Test.YtokhindolimchaaRdC
import Derived.Test.YtokhindolimchaaStb
import Derived.Test.YtokhindolimchaaBrM
import Derived.Test.YtokhindolimchaaTree
namespace Go.Proofs.Ytokhindolimchaa
open Go.RowKit
set_option linter.unusedSimpArgs false
set_option linter.unusedVariables false

def leafN (kind n : Int) (s : ByteArray) : List VN := [{ kind := kind, n := n, s := s, keys := [], kids := [] }]

theorem leaf_nest (w : World) (kind n : Int) (s : ByteArray) : Nest w.heap.size (w.alloc (.cells #[.int .i64 kind, .int .i64 n, .string s, .slice none 0 0, .slice none 0 0] 57)) (.slice (some ⟨w.heap.size, 0, none⟩) 1 1) (leafN kind n s) (fun _ => .slice none 0 0) (fun _ => .slice none 0 0) := by
  refine ⟨?_, fun i hi => ?_, fun i hi => ?_, fun i j hi hj hne => ?_, fun i j hi hj hne => ?_⟩
  · have := World.ownsRow_lit (base := w.heap.size) (e := 57) (size := 5) w #[.int .i64 kind, .int .i64 n, .string s, .slice none 0 0, .slice none 0 0] 1 (Nat.le_refl _) (by simp [maxLen]) rfl
    have eu : upd (fun _ => Value.slice none 0 0) 0 (.slice none 0 0) = fun _ => .slice none 0 0 := by funext i; unfold upd; split <;> rfl
    have e : nestCells (leafN kind n s) (fun _ => .slice none 0 0) (fun _ => .slice none 0 0) = [.int .i64 kind, .int .i64 n, .string s, .slice none 0 0, .slice none 0 0] := by
      have h := nestCells_snoc [] { kind := kind, n := n, s := s, keys := [], kids := [] } (fun _ => .slice none 0 0) (fun _ => .slice none 0 0) (.slice none 0 0) (.slice none 0 0)
      simp only [List.length_nil, eu, List.nil_append] at h
      exact h
    rw [e]
    exact this
  · obtain rfl : i = 0 := by simp [leafN] at hi; omega
    exact World.ownsRow_nil _ _ _ _
  · obtain rfl : i = 0 := by simp [leafN] at hi; omega
    exact World.ownsRow_nil _ _ _ _
  · simp [leafN] at hi hj; omega
  · simp [leafN] at hi hj; omega
end Go.Proofs.Ytokhindolimchaa

/-
  Plain: bytes at a place as numbers and texts, as the program and the specification take them.
-/
namespace Go.Proofs.Ytokhindolimchaa
open Go.RowKit
set_option linter.unusedSimpArgs false
set_option linter.unusedVariables false

/-- The byte at a place. -/
def byAt (L : List UInt8) (p : Nat) : Nat := (L.getD p 0).toNat
theorem byAt_lt (L : List UInt8) (p : Nat) : byAt L p < 256 := (L.getD p 0).toNat_lt
/-- So many bytes as a number, the highest first. -/
def bigN (L : List UInt8) (p : Nat) : Nat → Nat
  | 0 => 0
  | k + 1 => 256 * bigN L p k + byAt L (p + k)
theorem bigN_lt (L : List UInt8) (p k : Nat) : bigN L p k < 256 ^ k := by
  induction k with
  | zero => simp [bigN]
  | succ k ih => have := byAt_lt L (p + k); rw [bigN, Nat.pow_succ]; omega
theorem bigN_mono (L : List UInt8) (p : Nat) {j k : Nat} (h : j ≤ k) : bigN L p j ≤ bigN L p k := by
  induction k with
  | zero => obtain rfl : j = 0 := by omega
            exact Nat.le_refl _
  | succ k ih =>
    by_cases e : j = k + 1
    · subst e; exact Nat.le_refl _
    · have := ih (by omega); rw [bigN]; omega
def cutT (L : List UInt8) (p n : Nat) : ByteArray := txt ((L.drop p).take n)
theorem cutT_size {L : List UInt8} {p n : Nat} (h : p + n ≤ L.length) : (cutT L p n).size = n := by
  unfold cutT; rw [txt_size, List.length_take, List.length_drop]; omega
def numT (n : Int) : VT := .mk 3 n ByteArray.empty [] []
def wordT (s : ByteArray) : VT := .mk 4 0 s [] []
def nullT : VT := .mk 1 0 ByteArray.empty [] []
def boolT (n : Int) : VT := .mk 2 n ByteArray.empty [] []
/-- The greatest number. -/
def maxI : Nat := 1000000000000000
/-- The program: a number in so many bytes, within its bounds; a text of so many. -/
def numI (L : List UInt8) (p w : Nat) : Option (Nat × Nat) := if p + w ≤ L.length ∧ bigN L p w ≤ maxI then some (bigN L p w, p + w) else none
def takeI (L : List UInt8) (n p : Nat) : Option (ByteArray × Nat) := if p + n ≤ L.length then some (cutT L p n, p + n) else none
def wordI (L : List UInt8) (n p : Nat) : Option (VT × Nat) := if p + n ≤ L.length then some (wordT (cutT L p n), p + n) else none
/-- The specification: the same. -/
def bigS (L : List UInt8) (p w : Nat) : Option (Nat × Nat) := if p + w ≤ L.length ∧ bigN L p (w - 1) ≤ maxI then some (bigN L p w, p + w) else none
def takeS (L : List UInt8) (n p : Nat) : Option (ByteArray × Nat) := if n ≤ 60 ∧ p + n ≤ L.length then some (cutT L p n, p + n) else none

theorem leaf_lay (f : Nat) (k n : Int) (s : ByteArray) : layT (f + 1) (.mk k n s [] []) 0 = leafN k n s := rfl
theorem leaf_full (f : Nat) (k n : Int) (s : ByteArray) : FullT (f + 1) (.mk k n s [] []) := fun j hj => absurd hj (by simp)
theorem leaf_len (k n : Int) (s : ByteArray) : (leafN k n s).length = 1 := rfl
/-- A leaf that is wrong by itself. -/
theorem leaf_wrong {k n : Int} {s : ByteArray} (h : nodeB { kind := k, n := n, s := s, keys := [], kids := [] } = false) : Wrong (leafN k n s) := ⟨0, by simp [leafN], h⟩
theorem big_num {n : Int} (h : n < -1000000000000000 ∨ 1000000000000000 < n) : nodeB { kind := 3, n := n, s := ByteArray.empty, keys := [], kids := [] } = false := by
  unfold nodeB namedB
  simp
  intro _ _
  omega
theorem big_text {s : ByteArray} (h : 60 < s.size) : textB s = false := by
  unfold textB
  simp; omega
theorem text_doom {f c deep : Nat} {s : ByteArray} (h : 60 < s.size) : Doom (f + 1) c deep (wordT s) := by
  refine .inl (fun hg => ?_)
  have h1 := hg.1
  unfold nodeT nodeB namedB at h1
  simp [big_text h] at h1
theorem num_doom {f c deep : Nat} {n : Int} (h : n < -1000000000000000 ∨ 1000000000000000 < n) : Doom (f + 1) c deep (numT n) := by
  refine .inl (fun hg => ?_)
  have h1 : nodeB { kind := 3, n := n, s := ByteArray.empty, keys := [], kids := [] } = true := hg.1
  rw [big_num h] at h1
  cases h1
theorem many_doom {f c deep : Nat} {t : VT} (hf : FullT f t) (h : 80 ≤ c) : Doom f c deep t := .inr (.inl (by have := layT_len hf 0; omega))
end Go.Proofs.Ytokhindolimchaa

/-
  Trees whose rows lie in blocks of a given kind; what a reader's call leaves.
-/
namespace Go.Proofs.Ytokhindolimchaa
open Go.RowKit
set_option linter.unusedSimpArgs false
set_option linter.unusedVariables false

def StrsP (P : Nat → Prop) (w : World) (v : Value) (l : List ByteArray) : Prop :=
  l.length ≤ 8796093022208 ∧ (∀ i, i < l.length → (keyAt l i).size ≤ 140737488355328) ∧
  ∃ a cap, v = .slice a l.length cap ∧ (0 < l.length → ∃ b o, a = some ⟨b, o, none⟩ ∧ P b ∧ ∀ i, i < l.length → w.cell? ⟨b, o + i, none⟩ = some (.string (keyAt l i)))
def TItemsP (P : Nat → Prop) (w : World) (it : Value) (n : Nat) (Q : Nat → Value → Prop) : Prop :=
  n ≤ 100000 ∧ ∃ a cap, it = .slice a n cap ∧ (0 < n → ∃ b, a = some ⟨b, 0, none⟩ ∧ P b ∧ ∀ j, j < n → ∃ t x, w.cell? ⟨b, j, none⟩ = some (.iface t x) ∧ Q j (.iface t x))
/-- As TreeAt, the rows in blocks that meet 'P'. -/
def TreeP (P : Nat → Prop) (w : World) : Nat → VT → Value → Prop
  | 0, _, _ => False
  | f + 1, .mk kind n s keys kids, v =>
    (kind = 1 ∧ n = 0 ∧ s = ByteArray.empty ∧ keys = [] ∧ kids = [] ∧ v = .iface 76 (.agg #[])) ∨
    (kind = 2 ∧ s = ByteArray.empty ∧ keys = [] ∧ kids = [] ∧ v = .iface 81 (.agg #[.int .i64 n])) ∨
    (kind = 3 ∧ s = ByteArray.empty ∧ keys = [] ∧ kids = [] ∧ v = .iface 82 (.agg #[.int .i64 n])) ∨
    (kind = 4 ∧ n = 0 ∧ keys = [] ∧ kids = [] ∧ v = .iface 85 (.agg #[.string s])) ∨
    (kind = 5 ∧ n = 0 ∧ s = ByteArray.empty ∧ keys = [] ∧ ∃ it, v = .iface 88 (.agg #[it]) ∧ TItemsP P w it kids.length (fun j u => TreeP P w f (kidT kids j) u)) ∨
    (kind = 6 ∧ n = 0 ∧ s = ByteArray.empty ∧ ∃ ks it, v = .iface 91 (.agg #[ks, it]) ∧ StrsP P w ks keys ∧ TItemsP P w it kids.length (fun j u => TreeP P w f (kidT kids j) u))
theorem cellB {w w' : World} {b o : Nat} (h : w'.heap[b]? = w.heap[b]?) : w'.cell? ⟨b, o, none⟩ = w.cell? ⟨b, o, none⟩ := World.cell?_of_block (w := w) (a := ⟨b, o, none⟩) h
theorem StrsP.keep {P P' : Nat → Prop} {w w' : World} {v : Value} {l : List ByteArray} (hk : ∀ b, P b → w'.heap[b]? = w.heap[b]?) (hP : ∀ b, P b → P' b) (h : StrsP P w v l) : StrsP P' w' v l := by
  obtain ⟨h1, h2, a, cap, e, h3⟩ := h
  refine ⟨h1, h2, a, cap, e, fun hp => ?_⟩
  obtain ⟨b, o, e2, hb, hc⟩ := h3 hp
  exact ⟨b, o, e2, hP b hb, fun i hi => (cellB (hk b hb)).trans (hc i hi)⟩
theorem StrsP.at {P : Nat → Prop} {w : World} {v : Value} {l : List ByteArray} {B : Nat} (h : StrsP P w v l) (hB : ∀ b, P b → b < B) : StrsAt B w v l := by
  obtain ⟨h1, h2, a, cap, e, h3⟩ := h
  refine ⟨h1, h2, a, cap, e, fun hp => ?_⟩
  obtain ⟨b, o, e2, hb, hc⟩ := h3 hp
  exact ⟨b, o, e2, hB b hb, hc⟩
theorem TreeP.keep {P P' : Nat → Prop} {w w' : World} (hk : ∀ b, P b → w'.heap[b]? = w.heap[b]?) (hP : ∀ b, P b → P' b) : ∀ {f : Nat} {t : VT} {v : Value}, TreeP P w f t v → TreeP P' w' f t v := by
  intro f
  induction f with
  | zero => intro t v h; exact h.elim
  | succ f ih =>
    intro t v h
    obtain ⟨kind, n, s, keys, kids⟩ := t
    have hit : ∀ it, TItemsP P w it kids.length (fun j u => TreeP P w f (kidT kids j) u) → TItemsP P' w' it kids.length (fun j u => TreeP P' w' f (kidT kids j) u) := by
      rintro it ⟨h0, a, cap, e, hx⟩
      refine ⟨h0, a, cap, e, fun hn => ?_⟩
      obtain ⟨b, ea, h2, h3⟩ := hx hn
      refine ⟨b, ea, hP b h2, fun j hj => ?_⟩
      obtain ⟨t, x, hcc, hv⟩ := h3 j hj
      exact ⟨t, x, (cellB (hk b h2)).trans hcc, ih hv⟩
    rcases h with h | h | h | h | ⟨h1, h2, h3, h4, it, e, hi⟩ | ⟨h1, h2, h3, ks, it, e, hs, hi⟩
    · exact Or.inl h
    · exact Or.inr (Or.inl h)
    · exact Or.inr (Or.inr (Or.inl h))
    · exact Or.inr (Or.inr (Or.inr (Or.inl h)))
    · exact Or.inr (Or.inr (Or.inr (Or.inr (Or.inl ⟨h1, h2, h3, h4, it, e, hit it hi⟩))))
    · exact Or.inr (Or.inr (Or.inr (Or.inr (Or.inr ⟨h1, h2, h3, ks, it, e, hs.keep hk hP, hit it hi⟩))))
theorem TreeP.at {P : Nat → Prop} {w : World} {B : Nat} (hB : ∀ b, P b → b < B) : ∀ {f : Nat} {t : VT} {v : Value}, TreeP P w f t v → TreeAt B w f t v := by
  intro f
  induction f with
  | zero => intro t v h; exact h.elim
  | succ f ih =>
    intro t v h
    obtain ⟨kind, n, s, keys, kids⟩ := t
    have hit : ∀ it, TItemsP P w it kids.length (fun j u => TreeP P w f (kidT kids j) u) → TItems B w it kids.length (fun j u => TreeAt B w f (kidT kids j) u) := by
      rintro it ⟨h0, a, cap, e, hx⟩
      refine ⟨h0, a, cap, e, fun hn => ?_⟩
      obtain ⟨b, ea, h2, h3⟩ := hx hn
      refine ⟨b, ea, hB b h2, fun j hj => ?_⟩
      obtain ⟨t, x, hcc, hv⟩ := h3 j hj
      exact ⟨t, x, hcc, ih hv⟩
    rcases h with h | h | h | h | ⟨h1, h2, h3, h4, it, e, hi⟩ | ⟨h1, h2, h3, ks, it, e, hs, hi⟩
    · exact Or.inl h
    · exact Or.inr (Or.inl h)
    · exact Or.inr (Or.inr (Or.inl h))
    · exact Or.inr (Or.inr (Or.inr (Or.inl h)))
    · exact Or.inr (Or.inr (Or.inr (Or.inr (Or.inl ⟨h1, h2, h3, h4, it, e, hit it hi⟩))))
    · exact Or.inr (Or.inr (Or.inr (Or.inr (Or.inr ⟨h1, h2, h3, ks, it, e, hs.at hB, hit it hi⟩))))
theorem TreeP.iface {P : Nat → Prop} {w : World} {f : Nat} {t : VT} {v : Value} (h : TreeP P w f t v) : ∃ ty x, v = .iface ty x := by
  cases f with
  | zero => exact h.elim
  | succ f =>
    obtain ⟨kind, n, s, keys, kids⟩ := t
    rcases h with ⟨_, _, _, _, _, e⟩ | ⟨_, _, _, _, e⟩ | ⟨_, _, _, _, e⟩ | ⟨_, _, _, _, e⟩ | ⟨_, _, _, _, _, e, _⟩ | ⟨_, _, _, _, _, e, _⟩ <;> exact ⟨_, _, e⟩
/-- What is new since a world. -/
def NewB (w w' : World) (b : Nat) : Prop := w.heap.size ≤ b ∧ b < w'.heap.size
/-- What a reading answers: a tree in new memory, the reader further on; or it gives up. -/
def ReadOr (r : Option (VT × Nat)) (f rb : Nat) (s : ByteArray) (p : Nat) (w : World) (e : Ending) (w' : World) : Prop :=
  (∃ t q x, r = some (t, q) ∧ e = .returned x ∧ TreeP (NewB w w') w' f t x ∧ BrAt w' rb s q ∧ But rb w w' ∧ p < q) ∨ (r = none ∧ e = gup ∧ But rb w w')
/-- A function that reads so. -/
def GAll (G : FuncId) (L : List UInt8) (R : Nat → Option (VT × Nat)) (f rb : Nat) (s : ByteArray) : Prop :=
  ∀ p w, BrAt w rb s p → s.size < p + f → Calls Try.prog G #[.pointer (some ⟨rb, 0, none⟩)] w (ReadOr (R p) f rb s p w)
theorem leafP {P : Nat → Prop} {w : World} (f : Nat) : TreeP P w (f + 1) nullT (.iface 76 (.agg #[])) ∧ (∀ n, TreeP P w (f + 1) (boolT n) (.iface 81 (.agg #[.int .i64 n]))) ∧ (∀ n, TreeP P w (f + 1) (numT n) (.iface 82 (.agg #[.int .i64 n]))) ∧ ∀ s, TreeP P w (f + 1) (wordT s) (.iface 85 (.agg #[.string s])) :=
  ⟨.inl ⟨rfl, rfl, rfl, rfl, rfl, rfl⟩, fun n => .inr (.inl ⟨rfl, rfl, rfl, rfl, rfl⟩), fun n => .inr (.inr (.inl ⟨rfl, rfl, rfl, rfl, rfl⟩)), fun s => .inr (.inr (.inr (.inl ⟨rfl, rfl, rfl, rfl, rfl⟩)))⟩
theorem But.size_le {rb : Nat} {a b : World} (h : But rb a b) : a.heap.size ≤ b.heap.size := h.size

theorem getB {s : ByteArray} {p : Nat} (h : p < s.size) : byAt s.data.toList p = s[p].toNat := by
  unfold byAt
  rw [List.getD_eq_getElem?_getD, getK? h]
  rfl
/-- A reader behind so many bytes more. -/
theorem BrAt.skip {w : World} {rb p n : Nat} {s : ByteArray} (h : BrAt w rb s p) (hp : p + n ≤ s.size) : BrAt (w.setCell ⟨rb, 1, none⟩ (.int .i64 ((p + n : Nat) : Int))) rb s (p + n) :=
  ⟨by simpa using h.lt, by rw [World.cell?_setCell_other (h := by simp)]; exact h.src, World.cell?_setCell_same _ _ _ h.place, by rw [World.frozen?_setCell]; exact h.free, hp⟩

set_option maxRecDepth 100000 in
set_option maxHeartbeats 1600000 in
theorem take_yes {rb p n : Nat} {s : ByteArray} {w : World} (h : BrAt w rb s p) (hp : p + n ≤ s.size) (hs : s.size ≤ 1048576) :
    Calls Try.prog 59 #[.pointer (some ⟨rb, 0, none⟩), .int .i64 n] w fun e w' => e = .returned (.string (cutT s.data.toList p n)) ∧ BrAt w' rb s (p + n) ∧ But rb w w' := by
  have H := hideB h
  have h1 := h.src
  have h2 := h.place
  have h3 := h.free
  have h4 := h.lt
  clear h
  have hgt : ¬ ((s.size : Int) - (p : Int) < (n : Int)) := by omega
  have hgt2 : decide ((s.size : Int) - (p : Int) < (n : Int)) = false := by simpa using hgt
  go_enter Try.func59, Try.ntmps59
  go_wp2_with fail
  go_quiet (fail)
  have HD1 := hideB (below_drewB (w := w) nq)
  have HR1 := hideB (H.out.below HD1.out)
  have k1 := HR1.out.src
  have k2 := HR1.out.place
  have k3 := HR1.out.free
  generalize w.drewN nq = W1 at HR1 HD1 k1 k2 k3 ⊢
  clear nq h1 h2 h3
  have HR2 := hideB (HR1.out.skip hp)
  have e1 : ((p + n : Nat) : Int) = (p : Int) + (n : Int) := by omega
  rw [e1] at HR2
  go_wp2_with fail
  have l1 := HR2.out.src
  have l2 := HR2.out.place
  have HB2 := hideB ((But.of_below (rb := rb) HD1.out).trans (But.of_set 1 (.int .i64 ((p : Int) + (n : Int)))))
  rw [e1] at l2
  generalize W1.setCell ⟨rb, 1, none⟩ (.int .i64 ((p : Int) + (n : Int))) = W2 at HR2 l1 l2 HB2 ⊢
  clear k1 k2 k3
  have hcut : ∀ w, (Instr.slice 9 (.string s) (some (.int .i64 (p : Int))) (some (.int .i64 ((p : Int) + (n : Int)))) none).run Try.prog w = .ok (.string (cutT s.data.toList p n)) w := fun w => by
    have := run_cut (P := Try.prog) (t := 9) s p (p + n) Try.underlying9 (by omega) hp w
    rw [e1, Nat.add_sub_cancel_left] at this
    exact this
  go_quiet (fail)
  have HD3 := hideB (below_drewB (w := W2) nq)
  have HR3 := hideB (HR2.out.below HD3.out)
  generalize W2.drewN nq = W3 at HR3 HD3 ⊢
  go_wp2_with fail
  go_ret
  exact ⟨rfl, HR3.out, HB2.out.trans (But.of_below HD3.out)⟩

set_option maxRecDepth 100000 in
set_option maxHeartbeats 1600000 in
theorem take_no {rb p n : Nat} {s : ByteArray} {w : World} (h : BrAt w rb s p) (hp : s.size < p + n) (hs : s.size ≤ 1048576) (hn : n ≤ 1000000000000000) :
    Calls Try.prog 59 #[.pointer (some ⟨rb, 0, none⟩), .int .i64 n] w fun e w' => e = gup ∧ But rb w w' := by
  have H := hideB h
  have h1 := h.src
  have h2 := h.place
  have h3 := h.free
  have h4 := h.lt
  have h5 := h.le
  clear h
  have hgt : ((s.size : Int) - (p : Int) < (n : Int)) := by omega
  have hgt2 : decide ((s.size : Int) - (p : Int) < (n : Int)) = true := by simpa using hgt
  go_enter Try.func59, Try.ntmps59
  go_wp2_with fail
  go_quiet (fail)
  have HD1 := hideB (below_drewB (w := w) nq)
  go_wp2_with fail
  exact ⟨rfl, rfl, But.of_below HD1.out⟩
theorem within_yes (n : Nat) (w : World) (h : n ≤ 1000000000000000) : Calls Try.prog 95 #[.int .u64 n] w fun e w' => e = .returned (.int .i64 n) ∧ w' = w := by
  have h1 : ¬ (1000000000000000 : Int) < (n : Int) := by omega
  go_enter Try.func95, Try.ntmps95
  go_wp2_with fail
  go_ret
  exact ⟨rfl, rfl⟩
theorem within_no (n : Nat) (w : World) (h : 1000000000000000 < n) : Calls Try.prog 95 #[.int .u64 n] w fun e w' => e = gup ∧ w' = w := by
  have h1 : (1000000000000000 : Int) < (n : Int) := by omega
  go_enter Try.func95, Try.ntmps95
  go_wp2_with fail
  exact ⟨rfl, rfl, rfl⟩
end Go.Proofs.Ytokhindolimchaa
