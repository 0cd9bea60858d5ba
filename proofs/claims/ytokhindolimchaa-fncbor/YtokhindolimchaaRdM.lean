/-
  Plain: a tree that is written as CBOR is read again.
-/
import Derived.Test.YtokhindolimchaaCbY
import Derived.Test.YtokhindolimchaaProg
import Derived.Test.YtokhindolimchaaStepT
import Derived.Below
import Derived.BigQuiet
import Derived.Deep.QuietTactic
import Derived.Defers
import Derived.Recover
import Derived.WalkLawsBesides
import Derived.Test.YtokhindolimchaaSit
import Derived.Test.YtokhindolimchaaGotP
namespace Go.Proofs.Ytokhindolimchaa
open Go.RowKit
set_option linter.unusedSimpArgs false
set_option linter.unusedVariables false

theorem cborT_one : ∀ {f : Nat} {t : VT}, goodT f t → 1 ≤ (cborT f t).length
  | 0, _, h => h.elim
  | f + 1, .mk kind n s keys kids, h => by
    have hl := cborT_leaf f (kind := kind) (n := n) (s := s) (keys := keys) (kids := kids)
    rcases nodeT_says h.1 with ⟨k, _⟩ | ⟨k, _⟩ | ⟨k, _⟩ | ⟨k, _⟩ | ⟨k, _⟩ | ⟨k, _⟩
    · rw [hl.1 k]; simp
    · rw [hl.2.1 k]; simp
    · rw [hl.2.2.1 k]; exact (cborN_len _).1
    · rw [hl.2.2.2.1 k]; exact (cborW_len _).1
    · rw [hl.2.2.2.2.1 k, List.length_append]; have := (headC_len 4 (kids.length : Int)).1; omega
    · rw [hl.2.2.2.2.2 k, List.length_append]; have := (headC_len 5 (kids.length : Int)).1; omega
theorem cborL_many {F : VT → List UInt8} {kids : List VT} (h : ∀ j, j < kids.length → 1 ≤ (F (kidT kids j)).length) : ∀ k, k ≤ kids.length → k ≤ (cborL F kids k).length := by
  intro k
  induction k with
  | zero => intro _; simp
  | succ k ih => intro hk; have h1 := ih (by omega); have h2 := h k (by omega); rw [cborL, List.length_append]; omega
theorem entC_many {F : VT → List UInt8} {keys : List ByteArray} {kids : List VT} : ∀ (ps : List Nat), ps.length ≤ (entC F keys kids ps).length := by
  intro ps
  induction ps with
  | nil => simp
  | cons x ps ih =>
    have e : entC F keys kids (x :: ps) = cborW (keyAt keys x) ++ (F (kidT kids x) ++ entC F keys kids ps) := by unfold entC; rw [List.flatMap_cons, List.append_assoc]
    rw [e, List.length_append, List.length_append, List.length_cons]
    have := (cborW_len (keyAt keys x)).1
    omega
theorem read_cbor {L : List UInt8} (hL : L.length ≤ 1000000000000000) : ∀ (f g : Nat) (t : VT) (p : Nat), f ≤ g → goodT f t → Sit L p (cborT f t) → rdC L g p = some (t, p + (cborT f t).length) := by
  intro f
  induction f with
  | zero => intro g t p _ h; exact h.elim
  | succ f ih =>
    intro g t p hg h hs
    obtain ⟨g, rfl⟩ : ∃ k, g = k + 1 := ⟨g - 1, by omega⟩
    obtain ⟨kind, n, s, keys, kids⟩ := t
    have hl := cborT_leaf f (kind := kind) (n := n) (s := s) (keys := keys) (kids := kids)
    obtain ⟨h1, h2⟩ := h
    have H : ∀ j, j < kids.length → ∀ p, Sit L p (cborT f (kidT kids j)) → rdC L g p = some (kidT kids j, p + (cborT f (kidT kids j)).length) := fun j hj p hs => ih g _ p (by omega) (h2 j hj) hs
    rcases nodeT_says h1 with ⟨k, rfl, rfl, rfl, hm⟩ | ⟨k, hn, rfl, rfl, hm⟩ | ⟨k, hn, rfl, rfl, hm⟩ | ⟨k, rfl, hz, rfl, hm⟩ | ⟨k, rfl, rfl, rfl⟩ | ⟨k, rfl, rfl, hm, hr⟩
    · rw [hl.1 k] at hs ⊢
      have hb : byAt L (p + 0) = (246 : UInt8).toNat := hs.byte rfl
      have h3 := hs.len
      rw [List.length_cons, List.length_nil] at h3
      obtain rfl : kids = [] := List.eq_nil_of_length_eq_zero hm
      rw [rdC_null (by omega) (by rw [Nat.add_zero] at hb; rw [hb]; rfl), k]
      rfl
    · rw [hl.2.1 k] at hs ⊢
      have hb : byAt L (p + 0) = (byI (244 + n)).toNat := hs.byte rfl
      rw [Nat.add_zero] at hb
      have h3 := hs.len
      rw [List.length_cons, List.length_nil] at h3
      obtain rfl : kids = [] := List.eq_nil_of_length_eq_zero hm
      have h4 := byI_int (244 + n)
      rcases hn with rfl | rfl
      · rw [rdC_no (by omega) (by omega), k]; rfl
      · rw [rdC_yes (by omega) (by omega), k]; rfl
    · rw [hl.2.2.1 k] at hs ⊢
      obtain rfl : kids = [] := List.eq_nil_of_length_eq_zero hm
      rw [num_sit hn.1 hn.2 hs, k]
      rfl
    · rw [hl.2.2.2.1 k] at hs ⊢
      obtain rfl : kids = [] := List.eq_nil_of_length_eq_zero hm
      rw [word_sit hz hs, k]
      rfl
    · rw [hl.2.2.2.2.1 k] at hs ⊢
      have hk := cborL_many (F := cborT f) (kids := kids) (fun j hj => cborT_one (h2 j hj)) kids.length (Nat.le_refl _)
      have hlen := hs.right.len
      obtain ⟨a1, a2, a3, a4⟩ := head_sit (k := 4) (by omega) (by omega) hs.left
      have hit := list_sit H kids.length (Nat.le_refl _) hs.right
      rw [rdC_head a1 (by omega), a3]
      show kindI L (rdC L g) (byAt L p / 32) kids.length _ = _
      rw [a2]
      show rowT (rdC L g) false kids.length _ = _
      unfold rowT
      rw [if_neg (by decide), hit]
      simp only [List.take_length, List.length_append, k, listT, Nat.add_assoc]
    · rw [hl.2.2.2.2.2 k] at hs ⊢
      have hks : ∀ q, q < keys.length → (keyAt keys q).size ≤ 60 := fun q hq => by
        have := (rise_at hr hq).1
        unfold textB at this
        simp only [Bool.and_eq_true, decide_eq_true_eq] at this
        exact this.1
      have hpm := byLen_perm (l := keys) (M := kids.length) (S := 61) (fun q hq => by have := hks q (by omega); omega)
      obtain ⟨ps, hps⟩ : ∃ ps, byLen keys kids.length 61 = ps := ⟨_, rfl⟩
      rw [hps] at hs hpm ⊢
      have hpl : ps.length = kids.length := by rw [hpm.length_eq]; simp
      have hk := entC_many (F := cborT f) (keys := keys) (kids := kids) ps
      have hlen := hs.right.len
      have hin : ∀ j ∈ ps, j < kids.length := fun j hj => List.mem_range.1 (hpm.mem_iff.1 hj)
      obtain ⟨a1, a2, a3, a4⟩ := head_sit (k := 5) (by omega) (by omega) hs.left
      have hW : ∀ j ∈ ps, ∀ p, Sit L p (cborW (keyAt keys j)) → rdC L g p = some (wordT (keyAt keys j), p + (cborW (keyAt keys j)).length) := fun j hj p hs => by
        have hj' := hin j hj
        obtain ⟨g', rfl⟩ : ∃ z, g = z + 1 := by
          have : 1 ≤ f := by
            rcases Nat.eq_zero_or_pos f with e | e
            · subst e; exact (h2 j hj').elim
            · exact e
          exact ⟨g - 1, by omega⟩
        exact word_sit (hks j (by omega)) hs
      have hit := pairs_sit ps (fun j hj => H j (hin j hj)) hW _ hs.right
      rw [hpl] at hit
      rw [rdC_head a1 (by omega), a3]
      show kindI L (rdC L g) (byAt L p / 32) kids.length _ = _
      rw [a2]
      show rowT (rdC L g) true kids.length _ = _
      unfold rowT
      rw [if_pos rfl, hit]
      have hb := map_back (keys := keys) (kids := kids) hm hr (ps := ps) (by rw [hm]; exact hpm)
      simp only [hb, List.length_append, k, Nat.add_assoc]
end Go.Proofs.Ytokhindolimchaa

/-
  The program's byteReader: its place in memory, the next byte, giving up, and what turns giving up into false.
-/
namespace Go.Proofs.Ytokhindolimchaa
open Go.RowKit
set_option linter.unusedSimpArgs false
set_option linter.unusedVariables false

/-- Giving up. -/
def gup : Ending := .panicked [{ v := .iface 109 (.agg #[]), recovered := false }]
/-- A reader of the text 's' in block 'rb', behind 'p' bytes. -/
structure BrAt (w : World) (rb : Nat) (s : ByteArray) (p : Nat) : Prop where
  lt : rb < w.heap.size
  src : w.cell? ⟨rb, 0, none⟩ = some (.string s)
  place : w.cell? ⟨rb, 1, none⟩ = some (.int .i64 p)
  free : w.frozen? ⟨rb, 1, none⟩ = false
  le : p ≤ s.size
/-- No block but 'rb' has turned. -/
structure But (rb : Nat) (w w' : World) : Prop where
  os : w'.os = w.os
  tape : w'.tape = w.tape
  output : w'.output = w.output
  size : w.heap.size ≤ w'.heap.size
  block : ∀ c, c < w.heap.size → c ≠ rb → w'.heap[c]? = w.heap[c]?
theorem But.refl (rb : Nat) (w : World) : But rb w w := ⟨rfl, rfl, rfl, Nat.le_refl _, fun _ _ _ => rfl⟩
theorem But.trans {rb : Nat} {a b c : World} (h : But rb a b) (k : But rb b c) : But rb a c :=
  ⟨k.os.trans h.os, k.tape.trans h.tape, k.output.trans h.output, Nat.le_trans h.size k.size, fun x hx hn => (k.block x (Nat.lt_of_lt_of_le hx h.size) hn).trans (h.block x hx hn)⟩
theorem But.of_below {rb : Nat} {a b : World} (h : Below a.heap.size a b) : But rb a b := ⟨h.os, h.tape, h.output, h.size, fun x hx _ => h.block x hx⟩
theorem But.of_set {rb : Nat} {a : World} (o : Nat) (u : Value) : But rb a (a.setCell ⟨rb, o, none⟩ u) :=
  ⟨rfl, rfl, rfl, by simp, fun x _ hn => Below.heap_setCell _ _ _ _ hn⟩
theorem But.below {rb : Nat} {a b : World} (h : But rb a b) (hr : rb ≤ a.heap.size) : Below rb a b := ⟨h.os, h.tape, h.output, h.size, fun x hx => h.block x (by omega) (by omega)⟩
theorem But.next {rb : Nat} {a b c : World} (h : But rb a b) (k : Below a.heap.size b c) : But rb a c :=
  ⟨k.os.trans h.os, k.tape.trans h.tape, k.output.trans h.output, Nat.le_trans h.size k.size, fun x hx hn => (k.block x hx).trans (h.block x hx hn)⟩
theorem cellOf {w w' : World} {b o : Nat} (h : w'.heap[b]? = w.heap[b]?) : w'.cell? ⟨b, o, none⟩ = w.cell? ⟨b, o, none⟩ := World.cell?_of_block (w := w) (a := ⟨b, o, none⟩) h
theorem frozenOf {w w' : World} {b o : Nat} (h : w'.heap[b]? = w.heap[b]?) : w'.frozen? ⟨b, o, none⟩ = w.frozen? ⟨b, o, none⟩ := World.frozen?_of_block (w := w) (a := ⟨b, o, none⟩) h
theorem BrAt.keep {w w' : World} {rb p : Nat} {s : ByteArray} (h : BrAt w rb s p) (hb : w'.heap[rb]? = w.heap[rb]?) (hz : w.heap.size ≤ w'.heap.size) : BrAt w' rb s p :=
  ⟨Nat.lt_of_lt_of_le h.lt hz, (cellOf hb).trans h.src, (cellOf hb).trans h.place, (frozenOf hb).trans h.free, h.le⟩
theorem BrAt.below {w w' : World} {rb p : Nat} {s : ByteArray} (h : BrAt w rb s p) (hb : Below w.heap.size w w') : BrAt w' rb s p := h.keep (hb.block rb h.lt) hb.size
theorem BrAt.step {w : World} {rb p : Nat} {s : ByteArray} (h : BrAt w rb s p) (hp : p < s.size) : BrAt (w.setCell ⟨rb, 1, none⟩ (.int .i64 ((p + 1 : Nat) : Int))) rb s (p + 1) :=
  ⟨by simpa using h.lt, by rw [World.cell?_setCell_other (h := by simp)]; exact h.src, World.cell?_setCell_same _ _ _ h.place, by rw [World.frozen?_setCell]; exact h.free, by omega⟩

theorem below_drewB {w : World} (n : Nat) : Below w.heap.size w (w.drewN n) := ⟨rfl, rfl, rfl, Nat.le_refl _, fun _ _ => rfl⟩

set_option maxRecDepth 100000 in
set_option maxHeartbeats 1600000 in
theorem next_yes {rb p : Nat} {s : ByteArray} {w : World} (h : BrAt w rb s p) (hp : p < s.size) (hs : s.size ≤ 1048576) :
    Calls Try.prog 57 #[.pointer (some ⟨rb, 0, none⟩)] w fun e w' => e = .returned (.int .u8 (s[p].toNat : Int)) ∧ BrAt w' rb s (p + 1) ∧ But rb w w' := by
  have H := hideB h
  have h1 := h.src
  have h2 := h.place
  have h3 := h.free
  have h4 := h.lt
  clear h
  have hne : ((p : Int) == (s.size : Int)) = false := by simp; omega
  go_enter Try.func57, Try.ntmps57
  go_wp2_with fail
  go_quiet (fail)
  have HD1 := hideB (below_drewB (w := w) nq)
  have HR1 := hideB (H.out.below HD1.out)
  have k1 := HR1.out.src
  have k2 := HR1.out.place
  have k3 := HR1.out.free
  generalize w.drewN nq = W1 at HR1 HD1 k1 k2 k3 ⊢
  clear nq h1 h2 h3
  go_wp2_with fail
  go_quiet (fail)
  have HD2 := hideB (below_drewB (w := W1) nq)
  have HR2 := hideB (HR1.out.below HD2.out)
  have l1 := HR2.out.src
  have l2 := HR2.out.place
  have l3 := HR2.out.free
  generalize W1.drewN nq = W2 at HR2 HD2 l1 l2 l3 ⊢
  clear nq k1 k2 k3
  go_wp2_with fail
  go_ret
  refine ⟨rfl, HR2.out.step hp, ?_⟩
  exact ((But.of_below HD1.out).trans (But.of_below HD2.out)).trans (But.of_set _ _)

set_option maxRecDepth 100000 in
set_option maxHeartbeats 1600000 in
theorem next_no {rb : Nat} {s : ByteArray} {w : World} (h : BrAt w rb s s.size) (hs : s.size ≤ 1048576) :
    Calls Try.prog 57 #[.pointer (some ⟨rb, 0, none⟩)] w fun e w' => e = gup ∧ BrAt w' rb s s.size ∧ But rb w w' := by
  have H := hideB h
  have h1 := h.src
  have h2 := h.place
  have h3 := h.free
  have h4 := h.lt
  clear h
  go_enter Try.func57, Try.ntmps57
  go_wp2_with fail
  go_quiet (fail)
  have HD1 := hideB (below_drewB (w := w) nq)
  go_wp2_with fail
  exact ⟨rfl, rfl, H.out.below HD1.out, But.of_below HD1.out⟩
end Go.Proofs.Ytokhindolimchaa

/-
  Trees whose rows lie in blocks of a given kind; what a reader's call leaves.
-/
namespace Go.Proofs.Ytokhindolimchaa
open Go.RowKit
set_option linter.unusedSimpArgs false
set_option linter.unusedVariables false

def StrsP (P : Nat → Prop) (w : World) (v : Value) (l : List ByteArray) : Prop :=
  l.length ≤ 8796093022208 ∧ (∀ i, i < l.length → (keyAt l i).size ≤ 140737488355328) ∧
  ∃ a cap, v = .slice a l.length cap ∧ (0 < l.length → ∃ b o, a = some ⟨b, o, none⟩ ∧ P b ∧ ∀ i, i < l.length → w.cell? ⟨b, o + i, none⟩ = some (.string (keyAt l i)))
def TItemsP (P : Nat → Prop) (w : World) (it : Value) (n : Nat) (Q : Nat → Value → Prop) : Prop :=
  n ≤ 100000 ∧ ∃ a cap, it = .slice a n cap ∧ (0 < n → ∃ b, a = some ⟨b, 0, none⟩ ∧ P b ∧ ∀ j, j < n → ∃ t x, w.cell? ⟨b, j, none⟩ = some (.iface t x) ∧ Q j (.iface t x))
/-- As TreeAt, the rows in blocks that meet 'P'. -/
def TreeP (P : Nat → Prop) (w : World) : Nat → VT → Value → Prop
  | 0, _, _ => False
  | f + 1, .mk kind n s keys kids, v =>
    (kind = 1 ∧ n = 0 ∧ s = ByteArray.empty ∧ keys = [] ∧ kids = [] ∧ v = .iface 76 (.agg #[])) ∨
    (kind = 2 ∧ s = ByteArray.empty ∧ keys = [] ∧ kids = [] ∧ v = .iface 81 (.agg #[.int .i64 n])) ∨
    (kind = 3 ∧ s = ByteArray.empty ∧ keys = [] ∧ kids = [] ∧ v = .iface 82 (.agg #[.int .i64 n])) ∨
    (kind = 4 ∧ n = 0 ∧ keys = [] ∧ kids = [] ∧ v = .iface 85 (.agg #[.string s])) ∨
    (kind = 5 ∧ n = 0 ∧ s = ByteArray.empty ∧ keys = [] ∧ ∃ it, v = .iface 88 (.agg #[it]) ∧ TItemsP P w it kids.length (fun j u => TreeP P w f (kidT kids j) u)) ∨
    (kind = 6 ∧ n = 0 ∧ s = ByteArray.empty ∧ ∃ ks it, v = .iface 91 (.agg #[ks, it]) ∧ StrsP P w ks keys ∧ TItemsP P w it kids.length (fun j u => TreeP P w f (kidT kids j) u))
theorem cellB {w w' : World} {b o : Nat} (h : w'.heap[b]? = w.heap[b]?) : w'.cell? ⟨b, o, none⟩ = w.cell? ⟨b, o, none⟩ := World.cell?_of_block (w := w) (a := ⟨b, o, none⟩) h
theorem StrsP.keep {P P' : Nat → Prop} {w w' : World} {v : Value} {l : List ByteArray} (hk : ∀ b, P b → w'.heap[b]? = w.heap[b]?) (hP : ∀ b, P b → P' b) (h : StrsP P w v l) : StrsP P' w' v l := by
  obtain ⟨h1, h2, a, cap, e, h3⟩ := h
  refine ⟨h1, h2, a, cap, e, fun hp => ?_⟩
  obtain ⟨b, o, e2, hb, hc⟩ := h3 hp
  exact ⟨b, o, e2, hP b hb, fun i hi => (cellB (hk b hb)).trans (hc i hi)⟩
theorem StrsP.at {P : Nat → Prop} {w : World} {v : Value} {l : List ByteArray} {B : Nat} (h : StrsP P w v l) (hB : ∀ b, P b → b < B) : StrsAt B w v l := by
  obtain ⟨h1, h2, a, cap, e, h3⟩ := h
  refine ⟨h1, h2, a, cap, e, fun hp => ?_⟩
  obtain ⟨b, o, e2, hb, hc⟩ := h3 hp
  exact ⟨b, o, e2, hB b hb, hc⟩
theorem TreeP.keep {P P' : Nat → Prop} {w w' : World} (hk : ∀ b, P b → w'.heap[b]? = w.heap[b]?) (hP : ∀ b, P b → P' b) : ∀ {f : Nat} {t : VT} {v : Value}, TreeP P w f t v → TreeP P' w' f t v := by
  intro f
  induction f with
  | zero => intro t v h; exact h.elim
  | succ f ih =>
    intro t v h
    obtain ⟨kind, n, s, keys, kids⟩ := t
    have hit : ∀ it, TItemsP P w it kids.length (fun j u => TreeP P w f (kidT kids j) u) → TItemsP P' w' it kids.length (fun j u => TreeP P' w' f (kidT kids j) u) := by
      rintro it ⟨h0, a, cap, e, hx⟩
      refine ⟨h0, a, cap, e, fun hn => ?_⟩
      obtain ⟨b, ea, h2, h3⟩ := hx hn
      refine ⟨b, ea, hP b h2, fun j hj => ?_⟩
      obtain ⟨t, x, hcc, hv⟩ := h3 j hj
      exact ⟨t, x, (cellB (hk b h2)).trans hcc, ih hv⟩
    rcases h with h | h | h | h | ⟨h1, h2, h3, h4, it, e, hi⟩ | ⟨h1, h2, h3, ks, it, e, hs, hi⟩
    · exact Or.inl h
    · exact Or.inr (Or.inl h)
    · exact Or.inr (Or.inr (Or.inl h))
    · exact Or.inr (Or.inr (Or.inr (Or.inl h)))
    · exact Or.inr (Or.inr (Or.inr (Or.inr (Or.inl ⟨h1, h2, h3, h4, it, e, hit it hi⟩))))
    · exact Or.inr (Or.inr (Or.inr (Or.inr (Or.inr ⟨h1, h2, h3, ks, it, e, hs.keep hk hP, hit it hi⟩))))
theorem TreeP.at {P : Nat → Prop} {w : World} {B : Nat} (hB : ∀ b, P b → b < B) : ∀ {f : Nat} {t : VT} {v : Value}, TreeP P w f t v → TreeAt B w f t v := by
  intro f
  induction f with
  | zero => intro t v h; exact h.elim
  | succ f ih =>
    intro t v h
    obtain ⟨kind, n, s, keys, kids⟩ := t
    have hit : ∀ it, TItemsP P w it kids.length (fun j u => TreeP P w f (kidT kids j) u) → TItems B w it kids.length (fun j u => TreeAt B w f (kidT kids j) u) := by
      rintro it ⟨h0, a, cap, e, hx⟩
      refine ⟨h0, a, cap, e, fun hn => ?_⟩
      obtain ⟨b, ea, h2, h3⟩ := hx hn
      refine ⟨b, ea, hB b h2, fun j hj => ?_⟩
      obtain ⟨t, x, hcc, hv⟩ := h3 j hj
      exact ⟨t, x, hcc, ih hv⟩
    rcases h with h | h | h | h | ⟨h1, h2, h3, h4, it, e, hi⟩ | ⟨h1, h2, h3, ks, it, e, hs, hi⟩
    · exact Or.inl h
    · exact Or.inr (Or.inl h)
    · exact Or.inr (Or.inr (Or.inl h))
    · exact Or.inr (Or.inr (Or.inr (Or.inl h)))
    · exact Or.inr (Or.inr (Or.inr (Or.inr (Or.inl ⟨h1, h2, h3, h4, it, e, hit it hi⟩))))
    · exact Or.inr (Or.inr (Or.inr (Or.inr (Or.inr ⟨h1, h2, h3, ks, it, e, hs.at hB, hit it hi⟩))))
theorem TreeP.iface {P : Nat → Prop} {w : World} {f : Nat} {t : VT} {v : Value} (h : TreeP P w f t v) : ∃ ty x, v = .iface ty x := by
  cases f with
  | zero => exact h.elim
  | succ f =>
    obtain ⟨kind, n, s, keys, kids⟩ := t
    rcases h with ⟨_, _, _, _, _, e⟩ | ⟨_, _, _, _, e⟩ | ⟨_, _, _, _, e⟩ | ⟨_, _, _, _, e⟩ | ⟨_, _, _, _, _, e, _⟩ | ⟨_, _, _, _, _, e, _⟩ <;> exact ⟨_, _, e⟩
/-- What is new since a world. -/
def NewB (w w' : World) (b : Nat) : Prop := w.heap.size ≤ b ∧ b < w'.heap.size
/-- What a reading answers: a tree in new memory, the reader further on; or it gives up. -/
def ReadOr (r : Option (VT × Nat)) (f rb : Nat) (s : ByteArray) (p : Nat) (w : World) (e : Ending) (w' : World) : Prop :=
  (∃ t q x, r = some (t, q) ∧ e = .returned x ∧ TreeP (NewB w w') w' f t x ∧ BrAt w' rb s q ∧ But rb w w' ∧ p < q) ∨ (r = none ∧ e = gup ∧ But rb w w')
/-- A function that reads so. -/
def GAll (G : FuncId) (L : List UInt8) (R : Nat → Option (VT × Nat)) (f rb : Nat) (s : ByteArray) : Prop :=
  ∀ p w, BrAt w rb s p → s.size < p + f → Calls Try.prog G #[.pointer (some ⟨rb, 0, none⟩)] w (ReadOr (R p) f rb s p w)
theorem leafP {P : Nat → Prop} {w : World} (f : Nat) : TreeP P w (f + 1) nullT (.iface 76 (.agg #[])) ∧ (∀ n, TreeP P w (f + 1) (boolT n) (.iface 81 (.agg #[.int .i64 n]))) ∧ (∀ n, TreeP P w (f + 1) (numT n) (.iface 82 (.agg #[.int .i64 n]))) ∧ ∀ s, TreeP P w (f + 1) (wordT s) (.iface 85 (.agg #[.string s])) :=
  ⟨.inl ⟨rfl, rfl, rfl, rfl, rfl, rfl⟩, fun n => .inr (.inl ⟨rfl, rfl, rfl, rfl, rfl⟩), fun n => .inr (.inr (.inl ⟨rfl, rfl, rfl, rfl, rfl⟩)), fun s => .inr (.inr (.inr (.inl ⟨rfl, rfl, rfl, rfl, rfl⟩)))⟩
theorem But.size_le {rb : Nat} {a b : World} (h : But rb a b) : a.heap.size ≤ b.heap.size := h.size

theorem getB {s : ByteArray} {p : Nat} (h : p < s.size) : byAt s.data.toList p = s[p].toNat := by
  unfold byAt
  rw [List.getD_eq_getElem?_getD, getK? h]
  rfl
/-- A reader behind so many bytes more. -/
theorem BrAt.skip {w : World} {rb p n : Nat} {s : ByteArray} (h : BrAt w rb s p) (hp : p + n ≤ s.size) : BrAt (w.setCell ⟨rb, 1, none⟩ (.int .i64 ((p + n : Nat) : Int))) rb s (p + n) :=
  ⟨by simpa using h.lt, by rw [World.cell?_setCell_other (h := by simp)]; exact h.src, World.cell?_setCell_same _ _ _ h.place, by rw [World.frozen?_setCell]; exact h.free, hp⟩

set_option maxRecDepth 100000 in
set_option maxHeartbeats 1600000 in
theorem take_yes {rb p n : Nat} {s : ByteArray} {w : World} (h : BrAt w rb s p) (hp : p + n ≤ s.size) (hs : s.size ≤ 1048576) :
    Calls Try.prog 59 #[.pointer (some ⟨rb, 0, none⟩), .int .i64 n] w fun e w' => e = .returned (.string (cutT s.data.toList p n)) ∧ BrAt w' rb s (p + n) ∧ But rb w w' := by
  have H := hideB h
  have h1 := h.src
  have h2 := h.place
  have h3 := h.free
  have h4 := h.lt
  clear h
  have hgt : ¬ ((s.size : Int) - (p : Int) < (n : Int)) := by omega
  have hgt2 : decide ((s.size : Int) - (p : Int) < (n : Int)) = false := by simpa using hgt
  go_enter Try.func59, Try.ntmps59
  go_wp2_with fail
  go_quiet (fail)
  have HD1 := hideB (below_drewB (w := w) nq)
  have HR1 := hideB (H.out.below HD1.out)
  have k1 := HR1.out.src
  have k2 := HR1.out.place
  have k3 := HR1.out.free
  generalize w.drewN nq = W1 at HR1 HD1 k1 k2 k3 ⊢
  clear nq h1 h2 h3
  have HR2 := hideB (HR1.out.skip hp)
  have e1 : ((p + n : Nat) : Int) = (p : Int) + (n : Int) := by omega
  rw [e1] at HR2
  go_wp2_with fail
  have l1 := HR2.out.src
  have l2 := HR2.out.place
  have HB2 := hideB ((But.of_below (rb := rb) HD1.out).trans (But.of_set 1 (.int .i64 ((p : Int) + (n : Int)))))
  rw [e1] at l2
  generalize W1.setCell ⟨rb, 1, none⟩ (.int .i64 ((p : Int) + (n : Int))) = W2 at HR2 l1 l2 HB2 ⊢
  clear k1 k2 k3
  have hcut : ∀ w, (Instr.slice 9 (.string s) (some (.int .i64 (p : Int))) (some (.int .i64 ((p : Int) + (n : Int)))) none).run Try.prog w = .ok (.string (cutT s.data.toList p n)) w := fun w => by
    have := run_cut (P := Try.prog) (t := 9) s p (p + n) Try.underlying9 (by omega) hp w
    rw [e1, Nat.add_sub_cancel_left] at this
    exact this
  go_quiet (fail)
  have HD3 := hideB (below_drewB (w := W2) nq)
  have HR3 := hideB (HR2.out.below HD3.out)
  generalize W2.drewN nq = W3 at HR3 HD3 ⊢
  go_wp2_with fail
  go_ret
  exact ⟨rfl, HR3.out, HB2.out.trans (But.of_below HD3.out)⟩

set_option maxRecDepth 100000 in
set_option maxHeartbeats 1600000 in
theorem take_no {rb p n : Nat} {s : ByteArray} {w : World} (h : BrAt w rb s p) (hp : s.size < p + n) (hs : s.size ≤ 1048576) (hn : n ≤ 1000000000000000) :
    Calls Try.prog 59 #[.pointer (some ⟨rb, 0, none⟩), .int .i64 n] w fun e w' => e = gup ∧ But rb w w' := by
  have H := hideB h
  have h1 := h.src
  have h2 := h.place
  have h3 := h.free
  have h4 := h.lt
  have h5 := h.le
  clear h
  have hgt : ((s.size : Int) - (p : Int) < (n : Int)) := by omega
  have hgt2 : decide ((s.size : Int) - (p : Int) < (n : Int)) = true := by simpa using hgt
  go_enter Try.func59, Try.ntmps59
  go_wp2_with fail
  go_quiet (fail)
  have HD1 := hideB (below_drewB (w := w) nq)
  go_wp2_with fail
  exact ⟨rfl, rfl, But.of_below HD1.out⟩
theorem within_yes (n : Nat) (w : World) (h : n ≤ 1000000000000000) : Calls Try.prog 95 #[.int .u64 n] w fun e w' => e = .returned (.int .i64 n) ∧ w' = w := by
  have h1 : ¬ (1000000000000000 : Int) < (n : Int) := by omega
  go_enter Try.func95, Try.ntmps95
  go_wp2_with fail
  go_ret
  exact ⟨rfl, rfl⟩
theorem within_no (n : Nat) (w : World) (h : 1000000000000000 < n) : Calls Try.prog 95 #[.int .u64 n] w fun e w' => e = gup ∧ w' = w := by
  have h1 : (1000000000000000 : Int) < (n : Int) := by omega
  go_enter Try.func95, Try.ntmps95
  go_wp2_with fail
  exact ⟨rfl, rfl, rfl⟩
end Go.Proofs.Ytokhindolimchaa
