/-
  Plain: the tree of right nodes is good; the nodes that are laid for a tree, and its tree again.
-/
import Derived.Test.YtokhindolimchaaGreatRdT
import Derived.Test.YtokhindolimchaaGreatMapP
import Derived.Test.YtokhindolimchaaGreatProg
import Derived.Test.YtokhindolimchaaGreatEscP
import Derived.Below
import Derived.BigQuiet
import Derived.Deep.QuietTactic
import Derived.Defers
import Derived.Recover
import Derived.WalkLawsBesides
import Derived.Test.YtokhindolimchaaGreatSit
import Derived.Test.YtokhindolimchaaGreatGotP
namespace Go.Proofs.YtokhindolimchaaGreat
open Go.RowKit
set_option linter.unusedSimpArgs false
set_option linter.unusedVariables false

theorem good_tree {vs : List VN} (hok : okB vs = true) : ∀ f i, i < vs.length → i < f → goodT f (treeOf vs f i) := by
  intro f
  induction f with
  | zero => intro i _ h; omega
  | succ f ih =>
    intro i hi hf
    obtain ⟨_, p2, _, _⟩ := okB_parts hok
    rw [treeOf]
    refine ⟨?_, fun j hj => ?_⟩
    · have := (p2 i hi).1
      rw [nodeT_eq] at this
      rw [List.length_map]
      exact this
    · rw [List.length_map] at hj
      have hki := kidsIn_get (p2 i hi).2 hj
      rw [kidT_map hj]
      exact ih _ (by omega) (by omega)
theorem whole_len {vs : List VN} (hok : okB vs = true) : (layT vs.length (treeOf vs vs.length (vs.length - 1)) 0).length = vs.length := by
  obtain ⟨p1, _⟩ := okB_parts hok
  obtain ⟨h, htr⟩ := root_first hok
  rw [← lay_tree, lay_run vs vs.length (vs.length - 1) 0 0 h (by omega) htr]
  unfold run
  rw [List.length_map, List.length_range']
  omega
theorem whole_lay {vs : List VN} (hok : okB vs = true) : layT vs.length (treeOf vs vs.length (vs.length - 1)) 0 = vs := by
  obtain ⟨p1, _⟩ := okB_parts hok
  obtain ⟨h, htr⟩ := root_first hok
  rw [← lay_tree, lay_run vs vs.length (vs.length - 1) 0 0 h (by omega) htr]
  rw [show vs.length - 1 + 1 - 0 = vs.length by omega, show (((0 : Nat) : Int) - ((0 : Nat) : Int)) = 0 by omega, run_all]
  have : (shiftN 0) = id := by funext x; exact shift_zero x
  rw [this, List.map_id]
theorem acc_at {f sh : Nat} {kids : List VT} {vs : List VN} {x : VN} (hk : ∀ j, j < (accT f sh kids kids.length ++ [x]).length → nodeAt vs (sh + j) = nodeAt (accT f sh kids kids.length ++ [x]) j) {k : Nat} (hkl : k < kids.length) :
    ∀ j, j < (layT f (kidT kids k) (sh + (accT f sh kids k).length)).length → nodeAt vs (sh + (accT f sh kids k).length + j) = nodeAt (layT f (kidT kids k) (sh + (accT f sh kids k).length)) j := by
  intro j hj
  have hlen : (accT f sh kids (k + 1)).length = (accT f sh kids k).length + (layT f (kidT kids k) (sh + (accT f sh kids k).length)).length := by rw [accT_succ f sh hkl, List.length_append]
  obtain ⟨t1, ht1⟩ := accT_pre f sh kids (show k + 1 ≤ kids.length by omega) (Nat.le_refl _)
  have hl1 := congrArg List.length ht1
  rw [List.length_append] at hl1
  have := hk ((accT f sh kids k).length + j) (by rw [List.length_append]; omega)
  rw [nodeAt_left (by omega), ht1, nodeAt_left (by omega), accT_succ f sh hkl, nodeAt_right (by omega)] at this
  rw [Nat.add_assoc, this, Nat.add_sub_cancel_left]
theorem tree_back : ∀ {f : Nat} {t : VT}, FullT f t → ∀ (vs : List VN) (sh g : Nat), f ≤ g → (∀ j, j < (layT f t sh).length → nodeAt vs (sh + j) = nodeAt (layT f t sh) j) → treeOf vs g (sh + (layT f t sh).length - 1) = t := by
  intro f
  induction f with
  | zero => intro t h; exact h.elim
  | succ f ih =>
    intro t h vs sh g hg hk
    obtain ⟨g, rfl⟩ : ∃ k, g = k + 1 := ⟨g - 1, by omega⟩
    obtain ⟨kind, n, s, keys, kids⟩ := t
    rw [layT_eq] at hk ⊢
    have hroot := hk (accT f sh kids kids.length).length (by rw [List.length_append, List.length_cons]; omega)
    rw [nodeAt_right (Nat.le_refl _), Nat.sub_self] at hroot
    have hroot' : nodeAt vs (sh + (accT f sh kids kids.length).length) = { kind := kind, n := n, s := s, keys := keys, kids := ksT f sh kids kids.length } := hroot
    rw [List.length_append, List.length_cons, List.length_nil, show sh + ((accT f sh kids kids.length).length + (0 + 1)) - 1 = sh + (accT f sh kids kids.length).length by omega, treeOf, hroot']
    have hf : ∀ k, k ≤ kids.length → (ksT f sh kids k).map (fun x => treeOf vs g x.toNat) = kids.take k := by
      intro k
      induction k with
      | zero => intro _; rw [ksT_zero]; rfl
      | succ k ihk =>
        intro hkl
        have hlen : (accT f sh kids (k + 1)).length = (accT f sh kids k).length + (layT f (kidT kids k) (sh + (accT f sh kids k).length)).length := by rw [accT_succ f sh (by omega), List.length_append]
        rw [ksT_succ f sh (by omega), List.map_append, ihk (by omega), take_kid (by omega)]
        have e := ih (h k (by omega)) vs (sh + (accT f sh kids k).length) g (by omega) (acc_at hk (by omega))
        congr 1
        rw [List.map_cons, List.map_nil, show (((sh + (accT f sh kids (k + 1)).length : Nat) : Int) - 1).toNat = sh + (accT f sh kids k).length + (layT f (kidT kids k) (sh + (accT f sh kids k).length)).length - 1 by omega, e]
    dsimp only
    rw [hf _ (Nat.le_refl _), List.take_length]
theorem full_len : ∀ {f : Nat} {t : VT}, FullT f t → ∀ sh, FullT (layT f t sh).length t := by
  intro f
  induction f with
  | zero => intro t h; exact h.elim
  | succ f ih =>
    intro t h sh
    obtain ⟨kind, n, s, keys, kids⟩ := t
    rw [layT_eq, List.length_append, List.length_cons, List.length_nil]
    intro j hj
    have hlen : (accT f sh kids (j + 1)).length = (accT f sh kids j).length + (layT f (kidT kids j) (sh + (accT f sh kids j).length)).length := by rw [accT_succ f sh hj, List.length_append]
    obtain ⟨t1, ht1⟩ := accT_pre f sh kids (show j + 1 ≤ kids.length by omega) (Nat.le_refl _)
    have hl1 := congrArg List.length ht1
    rw [List.length_append] at hl1
    exact (ih (h j hj) (sh + (accT f sh kids j).length)).more (by omega)
end Go.Proofs.YtokhindolimchaaGreat

/-
  The program's byteReader: its place in memory, the next byte, giving up, and what turns giving up into false.
-/
namespace Go.Proofs.YtokhindolimchaaGreat
open Go.RowKit
set_option linter.unusedSimpArgs false
set_option linter.unusedVariables false

/-- Giving up. -/
def gup : Ending := .panicked [{ v := .iface 97 (.agg #[]), recovered := false }]
/-- A reader of the text 's' in block 'rb', behind 'p' bytes. -/
structure BrAt (w : World) (rb : Nat) (s : ByteArray) (p : Nat) : Prop where
  lt : rb < w.heap.size
  src : w.cell? ⟨rb, 0, none⟩ = some (.string s)
  place : w.cell? ⟨rb, 1, none⟩ = some (.int .i64 p)
  free : w.frozen? ⟨rb, 1, none⟩ = false
  le : p ≤ s.size
/-- No block but 'rb' has turned. -/
structure But (rb : Nat) (w w' : World) : Prop where
  os : w'.os = w.os
  tape : w'.tape = w.tape
  output : w'.output = w.output
  size : w.heap.size ≤ w'.heap.size
  block : ∀ c, c < w.heap.size → c ≠ rb → w'.heap[c]? = w.heap[c]?
theorem But.refl (rb : Nat) (w : World) : But rb w w := ⟨rfl, rfl, rfl, Nat.le_refl _, fun _ _ _ => rfl⟩
theorem But.trans {rb : Nat} {a b c : World} (h : But rb a b) (k : But rb b c) : But rb a c :=
  ⟨k.os.trans h.os, k.tape.trans h.tape, k.output.trans h.output, Nat.le_trans h.size k.size, fun x hx hn => (k.block x (Nat.lt_of_lt_of_le hx h.size) hn).trans (h.block x hx hn)⟩
theorem But.of_below {rb : Nat} {a b : World} (h : Below a.heap.size a b) : But rb a b := ⟨h.os, h.tape, h.output, h.size, fun x hx _ => h.block x hx⟩
theorem But.of_set {rb : Nat} {a : World} (o : Nat) (u : Value) : But rb a (a.setCell ⟨rb, o, none⟩ u) :=
  ⟨rfl, rfl, rfl, by simp, fun x _ hn => Below.heap_setCell _ _ _ _ hn⟩
theorem But.below {rb : Nat} {a b : World} (h : But rb a b) (hr : rb ≤ a.heap.size) : Below rb a b := ⟨h.os, h.tape, h.output, h.size, fun x hx => h.block x (by omega) (by omega)⟩
theorem But.next {rb : Nat} {a b c : World} (h : But rb a b) (k : Below a.heap.size b c) : But rb a c :=
  ⟨k.os.trans h.os, k.tape.trans h.tape, k.output.trans h.output, Nat.le_trans h.size k.size, fun x hx hn => (k.block x hx).trans (h.block x hx hn)⟩
theorem cellOf {w w' : World} {b o : Nat} (h : w'.heap[b]? = w.heap[b]?) : w'.cell? ⟨b, o, none⟩ = w.cell? ⟨b, o, none⟩ := World.cell?_of_block (w := w) (a := ⟨b, o, none⟩) h
theorem frozenOf {w w' : World} {b o : Nat} (h : w'.heap[b]? = w.heap[b]?) : w'.frozen? ⟨b, o, none⟩ = w.frozen? ⟨b, o, none⟩ := World.frozen?_of_block (w := w) (a := ⟨b, o, none⟩) h
theorem BrAt.keep {w w' : World} {rb p : Nat} {s : ByteArray} (h : BrAt w rb s p) (hb : w'.heap[rb]? = w.heap[rb]?) (hz : w.heap.size ≤ w'.heap.size) : BrAt w' rb s p :=
  ⟨Nat.lt_of_lt_of_le h.lt hz, (cellOf hb).trans h.src, (cellOf hb).trans h.place, (frozenOf hb).trans h.free, h.le⟩
theorem BrAt.below {w w' : World} {rb p : Nat} {s : ByteArray} (h : BrAt w rb s p) (hb : Below w.heap.size w w') : BrAt w' rb s p := h.keep (hb.block rb h.lt) hb.size
theorem BrAt.step {w : World} {rb p : Nat} {s : ByteArray} (h : BrAt w rb s p) (hp : p < s.size) : BrAt (w.setCell ⟨rb, 1, none⟩ (.int .i64 ((p + 1 : Nat) : Int))) rb s (p + 1) :=
  ⟨by simpa using h.lt, by rw [World.cell?_setCell_other (h := by simp)]; exact h.src, World.cell?_setCell_same _ _ _ h.place, by rw [World.frozen?_setCell]; exact h.free, by omega⟩

theorem below_drewB {w : World} (n : Nat) : Below w.heap.size w (w.drewN n) := ⟨rfl, rfl, rfl, Nat.le_refl _, fun _ _ => rfl⟩

set_option maxRecDepth 100000 in
set_option maxHeartbeats 1600000 in
theorem next_yes {rb p : Nat} {s : ByteArray} {w : World} (h : BrAt w rb s p) (hp : p < s.size) (hs : s.size ≤ 1048576) :
    Calls Tryz.prog 55 #[.pointer (some ⟨rb, 0, none⟩)] w fun e w' => e = .returned (.int .u8 (s[p].toNat : Int)) ∧ BrAt w' rb s (p + 1) ∧ But rb w w' := by
  have H := hideB h
  have h1 := h.src
  have h2 := h.place
  have h3 := h.free
  have h4 := h.lt
  clear h
  have hne : ((p : Int) == (s.size : Int)) = false := by simp; omega
  go_enter Tryz.func55, Tryz.ntmps55
  go_wp2_with fail
  go_quiet (fail)
  have HD1 := hideB (below_drewB (w := w) nq)
  have HR1 := hideB (H.out.below HD1.out)
  have k1 := HR1.out.src
  have k2 := HR1.out.place
  have k3 := HR1.out.free
  generalize w.drewN nq = W1 at HR1 HD1 k1 k2 k3 ⊢
  clear nq h1 h2 h3
  go_wp2_with fail
  go_quiet (fail)
  have HD2 := hideB (below_drewB (w := W1) nq)
  have HR2 := hideB (HR1.out.below HD2.out)
  have l1 := HR2.out.src
  have l2 := HR2.out.place
  have l3 := HR2.out.free
  generalize W1.drewN nq = W2 at HR2 HD2 l1 l2 l3 ⊢
  clear nq k1 k2 k3
  go_wp2_with fail
  go_ret
  refine ⟨rfl, HR2.out.step hp, ?_⟩
  exact ((But.of_below HD1.out).trans (But.of_below HD2.out)).trans (But.of_set _ _)

set_option maxRecDepth 100000 in
set_option maxHeartbeats 1600000 in
theorem next_no {rb : Nat} {s : ByteArray} {w : World} (h : BrAt w rb s s.size) (hs : s.size ≤ 1048576) :
    Calls Tryz.prog 55 #[.pointer (some ⟨rb, 0, none⟩)] w fun e w' => e = gup ∧ BrAt w' rb s s.size ∧ But rb w w' := by
  have H := hideB h
  have h1 := h.src
  have h2 := h.place
  have h3 := h.free
  have h4 := h.lt
  clear h
  go_enter Tryz.func55, Tryz.ntmps55
  go_wp2_with fail
  go_quiet (fail)
  have HD1 := hideB (below_drewB (w := w) nq)
  go_wp2_with fail
  exact ⟨rfl, rfl, H.out.below HD1.out, But.of_below HD1.out⟩
end Go.Proofs.YtokhindolimchaaGreat

/-
  Trees whose rows lie in blocks of a given kind; what a reader's call leaves.
-/
namespace Go.Proofs.YtokhindolimchaaGreat
open Go.RowKit
set_option linter.unusedSimpArgs false
set_option linter.unusedVariables false

def StrsP (P : Nat → Prop) (w : World) (v : Value) (l : List ByteArray) : Prop :=
  l.length ≤ 8796093022208 ∧ (∀ i, i < l.length → (keyAt l i).size ≤ 140737488355328) ∧
  ∃ a cap, v = .slice a l.length cap ∧ (0 < l.length → ∃ b o, a = some ⟨b, o, none⟩ ∧ P b ∧ ∀ i, i < l.length → w.cell? ⟨b, o + i, none⟩ = some (.string (keyAt l i)))
def TItemsP (P : Nat → Prop) (w : World) (it : Value) (n : Nat) (Q : Nat → Value → Prop) : Prop :=
  n ≤ 100000 ∧ ∃ a cap, it = .slice a n cap ∧ (0 < n → ∃ b, a = some ⟨b, 0, none⟩ ∧ P b ∧ ∀ j, j < n → ∃ t x, w.cell? ⟨b, j, none⟩ = some (.iface t x) ∧ Q j (.iface t x))
/-- As TreeAt, the rows in blocks that meet 'P'. -/
def TreeP (P : Nat → Prop) (w : World) : Nat → VT → Value → Prop
  | 0, _, _ => False
  | f + 1, .mk kind n s keys kids, v =>
    (kind = 1 ∧ n = 0 ∧ s = ByteArray.empty ∧ keys = [] ∧ kids = [] ∧ v = .iface 88 (.agg #[])) ∨
    (kind = 2 ∧ s = ByteArray.empty ∧ keys = [] ∧ kids = [] ∧ v = .iface 90 (.agg #[.int .i64 n])) ∨
    (kind = 3 ∧ s = ByteArray.empty ∧ keys = [] ∧ kids = [] ∧ v = .iface 92 (.agg #[.int .i64 n])) ∨
    (kind = 4 ∧ n = 0 ∧ keys = [] ∧ kids = [] ∧ v = .iface 95 (.agg #[.string s])) ∨
    (kind = 5 ∧ n = 0 ∧ s = ByteArray.empty ∧ keys = [] ∧ ∃ it, v = .iface 113 (.agg #[it]) ∧ TItemsP P w it kids.length (fun j u => TreeP P w f (kidT kids j) u)) ∨
    (kind = 6 ∧ n = 0 ∧ s = ByteArray.empty ∧ ∃ ks it, v = .iface 116 (.agg #[ks, it]) ∧ StrsP P w ks keys ∧ TItemsP P w it kids.length (fun j u => TreeP P w f (kidT kids j) u))
theorem cellB {w w' : World} {b o : Nat} (h : w'.heap[b]? = w.heap[b]?) : w'.cell? ⟨b, o, none⟩ = w.cell? ⟨b, o, none⟩ := World.cell?_of_block (w := w) (a := ⟨b, o, none⟩) h
theorem StrsP.keep {P P' : Nat → Prop} {w w' : World} {v : Value} {l : List ByteArray} (hk : ∀ b, P b → w'.heap[b]? = w.heap[b]?) (hP : ∀ b, P b → P' b) (h : StrsP P w v l) : StrsP P' w' v l := by
  obtain ⟨h1, h2, a, cap, e, h3⟩ := h
  refine ⟨h1, h2, a, cap, e, fun hp => ?_⟩
  obtain ⟨b, o, e2, hb, hc⟩ := h3 hp
  exact ⟨b, o, e2, hP b hb, fun i hi => (cellB (hk b hb)).trans (hc i hi)⟩
theorem StrsP.at {P : Nat → Prop} {w : World} {v : Value} {l : List ByteArray} {B : Nat} (h : StrsP P w v l) (hB : ∀ b, P b → b < B) : StrsAt B w v l := by
  obtain ⟨h1, h2, a, cap, e, h3⟩ := h
  refine ⟨h1, h2, a, cap, e, fun hp => ?_⟩
  obtain ⟨b, o, e2, hb, hc⟩ := h3 hp
  exact ⟨b, o, e2, hB b hb, hc⟩
theorem TreeP.keep {P P' : Nat → Prop} {w w' : World} (hk : ∀ b, P b → w'.heap[b]? = w.heap[b]?) (hP : ∀ b, P b → P' b) : ∀ {f : Nat} {t : VT} {v : Value}, TreeP P w f t v → TreeP P' w' f t v := by
  intro f
  induction f with
  | zero => intro t v h; exact h.elim
  | succ f ih =>
    intro t v h
    obtain ⟨kind, n, s, keys, kids⟩ := t
    have hit : ∀ it, TItemsP P w it kids.length (fun j u => TreeP P w f (kidT kids j) u) → TItemsP P' w' it kids.length (fun j u => TreeP P' w' f (kidT kids j) u) := by
      rintro it ⟨h0, a, cap, e, hx⟩
      refine ⟨h0, a, cap, e, fun hn => ?_⟩
      obtain ⟨b, ea, h2, h3⟩ := hx hn
      refine ⟨b, ea, hP b h2, fun j hj => ?_⟩
      obtain ⟨t, x, hcc, hv⟩ := h3 j hj
      exact ⟨t, x, (cellB (hk b h2)).trans hcc, ih hv⟩
    rcases h with h | h | h | h | ⟨h1, h2, h3, h4, it, e, hi⟩ | ⟨h1, h2, h3, ks, it, e, hs, hi⟩
    · exact Or.inl h
    · exact Or.inr (Or.inl h)
    · exact Or.inr (Or.inr (Or.inl h))
    · exact Or.inr (Or.inr (Or.inr (Or.inl h)))
    · exact Or.inr (Or.inr (Or.inr (Or.inr (Or.inl ⟨h1, h2, h3, h4, it, e, hit it hi⟩))))
    · exact Or.inr (Or.inr (Or.inr (Or.inr (Or.inr ⟨h1, h2, h3, ks, it, e, hs.keep hk hP, hit it hi⟩))))
theorem TreeP.at {P : Nat → Prop} {w : World} {B : Nat} (hB : ∀ b, P b → b < B) : ∀ {f : Nat} {t : VT} {v : Value}, TreeP P w f t v → TreeAt B w f t v := by
  intro f
  induction f with
  | zero => intro t v h; exact h.elim
  | succ f ih =>
    intro t v h
    obtain ⟨kind, n, s, keys, kids⟩ := t
    have hit : ∀ it, TItemsP P w it kids.length (fun j u => TreeP P w f (kidT kids j) u) → TItems B w it kids.length (fun j u => TreeAt B w f (kidT kids j) u) := by
      rintro it ⟨h0, a, cap, e, hx⟩
      refine ⟨h0, a, cap, e, fun hn => ?_⟩
      obtain ⟨b, ea, h2, h3⟩ := hx hn
      refine ⟨b, ea, hB b h2, fun j hj => ?_⟩
      obtain ⟨t, x, hcc, hv⟩ := h3 j hj
      exact ⟨t, x, hcc, ih hv⟩
    rcases h with h | h | h | h | ⟨h1, h2, h3, h4, it, e, hi⟩ | ⟨h1, h2, h3, ks, it, e, hs, hi⟩
    · exact Or.inl h
    · exact Or.inr (Or.inl h)
    · exact Or.inr (Or.inr (Or.inl h))
    · exact Or.inr (Or.inr (Or.inr (Or.inl h)))
    · exact Or.inr (Or.inr (Or.inr (Or.inr (Or.inl ⟨h1, h2, h3, h4, it, e, hit it hi⟩))))
    · exact Or.inr (Or.inr (Or.inr (Or.inr (Or.inr ⟨h1, h2, h3, ks, it, e, hs.at hB, hit it hi⟩))))
theorem TreeP.iface {P : Nat → Prop} {w : World} {f : Nat} {t : VT} {v : Value} (h : TreeP P w f t v) : ∃ ty x, v = .iface ty x := by
  cases f with
  | zero => exact h.elim
  | succ f =>
    obtain ⟨kind, n, s, keys, kids⟩ := t
    rcases h with ⟨_, _, _, _, _, e⟩ | ⟨_, _, _, _, e⟩ | ⟨_, _, _, _, e⟩ | ⟨_, _, _, _, e⟩ | ⟨_, _, _, _, _, e, _⟩ | ⟨_, _, _, _, _, e, _⟩ <;> exact ⟨_, _, e⟩
/-- What is new since a world. -/
def NewB (w w' : World) (b : Nat) : Prop := w.heap.size ≤ b ∧ b < w'.heap.size
/-- What a reading answers: a tree in new memory, the reader further on; or it gives up. -/
def ReadOr (r : Option (VT × Nat)) (f rb : Nat) (s : ByteArray) (p : Nat) (w : World) (e : Ending) (w' : World) : Prop :=
  (∃ t q x, r = some (t, q) ∧ e = .returned x ∧ TreeP (NewB w w') w' f t x ∧ BrAt w' rb s q ∧ But rb w w' ∧ p < q) ∨ (r = none ∧ e = gup ∧ But rb w w')
/-- A function that reads so. -/
def GAll (G : FuncId) (L : List UInt8) (R : Nat → Option (VT × Nat)) (f rb : Nat) (s : ByteArray) : Prop :=
  ∀ p w, BrAt w rb s p → s.size < p + f → Calls Tryz.prog G #[.pointer (some ⟨rb, 0, none⟩)] w (ReadOr (R p) f rb s p w)
theorem leafP {P : Nat → Prop} {w : World} (f : Nat) : TreeP P w (f + 1) nullT (.iface 88 (.agg #[])) ∧ (∀ n, TreeP P w (f + 1) (boolT n) (.iface 90 (.agg #[.int .i64 n]))) ∧ (∀ n, TreeP P w (f + 1) (numT n) (.iface 92 (.agg #[.int .i64 n]))) ∧ ∀ s, TreeP P w (f + 1) (wordT s) (.iface 95 (.agg #[.string s])) :=
  ⟨.inl ⟨rfl, rfl, rfl, rfl, rfl, rfl⟩, fun n => .inr (.inl ⟨rfl, rfl, rfl, rfl, rfl⟩), fun n => .inr (.inr (.inl ⟨rfl, rfl, rfl, rfl, rfl⟩)), fun s => .inr (.inr (.inr (.inl ⟨rfl, rfl, rfl, rfl, rfl⟩)))⟩
theorem But.size_le {rb : Nat} {a b : World} (h : But rb a b) : a.heap.size ≤ b.heap.size := h.size

theorem getB {s : ByteArray} {p : Nat} (h : p < s.size) : byAt s.data.toList p = s[p].toNat := by
  unfold byAt
  rw [List.getD_eq_getElem?_getD, getK? h]
  rfl
/-- A reader behind so many bytes more. -/
theorem BrAt.skip {w : World} {rb p n : Nat} {s : ByteArray} (h : BrAt w rb s p) (hp : p + n ≤ s.size) : BrAt (w.setCell ⟨rb, 1, none⟩ (.int .i64 ((p + n : Nat) : Int))) rb s (p + n) :=
  ⟨by simpa using h.lt, by rw [World.cell?_setCell_other (h := by simp)]; exact h.src, World.cell?_setCell_same _ _ _ h.place, by rw [World.frozen?_setCell]; exact h.free, hp⟩

set_option maxRecDepth 100000 in
set_option maxHeartbeats 1600000 in
theorem take_yes {rb p n : Nat} {s : ByteArray} {w : World} (h : BrAt w rb s p) (hp : p + n ≤ s.size) (hs : s.size ≤ 1048576) :
    Calls Tryz.prog 57 #[.pointer (some ⟨rb, 0, none⟩), .int .i64 n] w fun e w' => e = .returned (.string (cutT s.data.toList p n)) ∧ BrAt w' rb s (p + n) ∧ But rb w w' := by
  have H := hideB h
  have h1 := h.src
  have h2 := h.place
  have h3 := h.free
  have h4 := h.lt
  clear h
  have hgt : ¬ ((s.size : Int) - (p : Int) < (n : Int)) := by omega
  have hgt2 : decide ((s.size : Int) - (p : Int) < (n : Int)) = false := by simpa using hgt
  go_enter Tryz.func57, Tryz.ntmps57
  go_wp2_with fail
  go_quiet (fail)
  have HD1 := hideB (below_drewB (w := w) nq)
  have HR1 := hideB (H.out.below HD1.out)
  have k1 := HR1.out.src
  have k2 := HR1.out.place
  have k3 := HR1.out.free
  generalize w.drewN nq = W1 at HR1 HD1 k1 k2 k3 ⊢
  clear nq h1 h2 h3
  have HR2 := hideB (HR1.out.skip hp)
  have e1 : ((p + n : Nat) : Int) = (p : Int) + (n : Int) := by omega
  rw [e1] at HR2
  go_wp2_with fail
  have l1 := HR2.out.src
  have l2 := HR2.out.place
  have HB2 := hideB ((But.of_below (rb := rb) HD1.out).trans (But.of_set 1 (.int .i64 ((p : Int) + (n : Int)))))
  rw [e1] at l2
  generalize W1.setCell ⟨rb, 1, none⟩ (.int .i64 ((p : Int) + (n : Int))) = W2 at HR2 l1 l2 HB2 ⊢
  clear k1 k2 k3
  have hcut : ∀ w, (Instr.slice 9 (.string s) (some (.int .i64 (p : Int))) (some (.int .i64 ((p : Int) + (n : Int)))) none).run Tryz.prog w = .ok (.string (cutT s.data.toList p n)) w := fun w => by
    have := run_cut (P := Tryz.prog) (t := 9) s p (p + n) Tryz.underlying9 (by omega) hp w
    rw [e1, Nat.add_sub_cancel_left] at this
    exact this
  go_quiet (fail)
  have HD3 := hideB (below_drewB (w := W2) nq)
  have HR3 := hideB (HR2.out.below HD3.out)
  generalize W2.drewN nq = W3 at HR3 HD3 ⊢
  go_wp2_with fail
  go_ret
  exact ⟨rfl, HR3.out, HB2.out.trans (But.of_below HD3.out)⟩

set_option maxRecDepth 100000 in
set_option maxHeartbeats 1600000 in
theorem take_no {rb p n : Nat} {s : ByteArray} {w : World} (h : BrAt w rb s p) (hp : s.size < p + n) (hs : s.size ≤ 1048576) (hn : n ≤ 1000000000000000) :
    Calls Tryz.prog 57 #[.pointer (some ⟨rb, 0, none⟩), .int .i64 n] w fun e w' => e = gup ∧ But rb w w' := by
  have H := hideB h
  have h1 := h.src
  have h2 := h.place
  have h3 := h.free
  have h4 := h.lt
  have h5 := h.le
  clear h
  have hgt : ((s.size : Int) - (p : Int) < (n : Int)) := by omega
  have hgt2 : decide ((s.size : Int) - (p : Int) < (n : Int)) = true := by simpa using hgt
  go_enter Tryz.func57, Tryz.ntmps57
  go_wp2_with fail
  go_quiet (fail)
  have HD1 := hideB (below_drewB (w := w) nq)
  go_wp2_with fail
  exact ⟨rfl, rfl, But.of_below HD1.out⟩
theorem within_yes (n : Nat) (w : World) (h : n ≤ 1000000000000000) : Calls Tryz.prog 91 #[.int .u64 n] w fun e w' => e = .returned (.int .i64 n) ∧ w' = w := by
  have h1 : ¬ (1000000000000000 : Int) < (n : Int) := by omega
  go_enter Tryz.func91, Tryz.ntmps91
  go_wp2_with fail
  go_ret
  exact ⟨rfl, rfl⟩
theorem within_no (n : Nat) (w : World) (h : 1000000000000000 < n) : Calls Tryz.prog 91 #[.int .u64 n] w fun e w' => e = gup ∧ w' = w := by
  have h1 : (1000000000000000 : Int) < (n : Int) := by omega
  go_enter Tryz.func91, Tryz.ntmps91
  go_wp2_with fail
  exact ⟨rfl, rfl, rfl⟩
end Go.Proofs.YtokhindolimchaaGreat

/-
  A call of take.
-/
namespace Go.Proofs.YtokhindolimchaaGreat
open Go.RowKit
set_option linter.unusedSimpArgs false
set_option linter.unusedVariables false

theorem call_take (u v : Value) : ∀ w, (callFunc 57 #[u, v]).run Tryz.prog w = .ok (.enter 57 #[u, v]) w := fun w => by kernel_rfl
end Go.Proofs.YtokhindolimchaaGreat
