/-
  The program's byteReader: its place in memory, the next byte, giving up, and what turns giving up into false.
-/
import Derived.Test.YtagcgnhpdmhegaaGreatDoorProg
import Derived.Test.YtagcgnhpdmhegaaGreatDoorPure
import Derived.Below
import Derived.BigQuiet
import Derived.Deep.QuietTactic
import Derived.Defers
import Derived.Recover
import Derived.WalkLawsBesides
import Derived.Test.YtagcgnhpdmhegaaGreatDoorRdN
import Derived.Test.YtagcgnhpdmhegaaGreatDoorMarkM
import Derived.Test.YtagcgnhpdmhegaaGreatDoorIQuo
import Derived.Test.YtagcgnhpdmhegaaGreatDoorJbP
namespace Go.Proofs.YtagcgnhpdmhegaaGreatDoor
open Go.RowKit
set_option linter.unusedSimpArgs false
set_option linter.unusedVariables false

/-- Giving up. -/
def gup : Ending := .panicked [{ v := .iface 102 (.agg #[]), recovered := false }]
/-- A reader of the text 's' in block 'rb', behind 'p' bytes. -/
structure BrAt (w : World) (rb : Nat) (s : ByteArray) (p : Nat) : Prop where
  lt : rb < w.heap.size
  src : w.cell? ⟨rb, 0, none⟩ = some (.string s)
  place : w.cell? ⟨rb, 1, none⟩ = some (.int .i64 p)
  free : w.frozen? ⟨rb, 1, none⟩ = false
  le : p ≤ s.size
/-- No block but 'rb' has turned. -/
structure But (rb : Nat) (w w' : World) : Prop where
  os : w'.os = w.os
  tape : w'.tape = w.tape
  output : w'.output = w.output
  size : w.heap.size ≤ w'.heap.size
  block : ∀ c, c < w.heap.size → c ≠ rb → w'.heap[c]? = w.heap[c]?
theorem But.refl (rb : Nat) (w : World) : But rb w w := ⟨rfl, rfl, rfl, Nat.le_refl _, fun _ _ _ => rfl⟩
theorem But.trans {rb : Nat} {a b c : World} (h : But rb a b) (k : But rb b c) : But rb a c :=
  ⟨k.os.trans h.os, k.tape.trans h.tape, k.output.trans h.output, Nat.le_trans h.size k.size, fun x hx hn => (k.block x (Nat.lt_of_lt_of_le hx h.size) hn).trans (h.block x hx hn)⟩
theorem But.of_below {rb : Nat} {a b : World} (h : Below a.heap.size a b) : But rb a b := ⟨h.os, h.tape, h.output, h.size, fun x hx _ => h.block x hx⟩
theorem But.of_set {rb : Nat} {a : World} (o : Nat) (u : Value) : But rb a (a.setCell ⟨rb, o, none⟩ u) :=
  ⟨rfl, rfl, rfl, by simp, fun x _ hn => Below.heap_setCell _ _ _ _ hn⟩
theorem But.below {rb : Nat} {a b : World} (h : But rb a b) (hr : rb ≤ a.heap.size) : Below rb a b := ⟨h.os, h.tape, h.output, h.size, fun x hx => h.block x (by omega) (by omega)⟩
theorem But.next {rb : Nat} {a b c : World} (h : But rb a b) (k : Below a.heap.size b c) : But rb a c :=
  ⟨k.os.trans h.os, k.tape.trans h.tape, k.output.trans h.output, Nat.le_trans h.size k.size, fun x hx hn => (k.block x hx).trans (h.block x hx hn)⟩
theorem cellOf {w w' : World} {b o : Nat} (h : w'.heap[b]? = w.heap[b]?) : w'.cell? ⟨b, o, none⟩ = w.cell? ⟨b, o, none⟩ := World.cell?_of_block (w := w) (a := ⟨b, o, none⟩) h
theorem frozenOf {w w' : World} {b o : Nat} (h : w'.heap[b]? = w.heap[b]?) : w'.frozen? ⟨b, o, none⟩ = w.frozen? ⟨b, o, none⟩ := World.frozen?_of_block (w := w) (a := ⟨b, o, none⟩) h
theorem BrAt.keep {w w' : World} {rb p : Nat} {s : ByteArray} (h : BrAt w rb s p) (hb : w'.heap[rb]? = w.heap[rb]?) (hz : w.heap.size ≤ w'.heap.size) : BrAt w' rb s p :=
  ⟨Nat.lt_of_lt_of_le h.lt hz, (cellOf hb).trans h.src, (cellOf hb).trans h.place, (frozenOf hb).trans h.free, h.le⟩
theorem BrAt.below {w w' : World} {rb p : Nat} {s : ByteArray} (h : BrAt w rb s p) (hb : Below w.heap.size w w') : BrAt w' rb s p := h.keep (hb.block rb h.lt) hb.size
theorem BrAt.step {w : World} {rb p : Nat} {s : ByteArray} (h : BrAt w rb s p) (hp : p < s.size) : BrAt (w.setCell ⟨rb, 1, none⟩ (.int .i64 ((p + 1 : Nat) : Int))) rb s (p + 1) :=
  ⟨by simpa using h.lt, by rw [World.cell?_setCell_other (h := by simp)]; exact h.src, World.cell?_setCell_same _ _ _ h.place, by rw [World.frozen?_setCell]; exact h.free, by omega⟩

theorem below_drewB {w : World} (n : Nat) : Below w.heap.size w (w.drewN n) := ⟨rfl, rfl, rfl, Nat.le_refl _, fun _ _ => rfl⟩

set_option maxRecDepth 100000 in
set_option maxHeartbeats 1600000 in
theorem next_no {rb : Nat} {s : ByteArray} {w : World} (h : BrAt w rb s s.size) (hs : s.size ≤ 1048576) :
    Calls Tryz.prog 112 #[.pointer (some ⟨rb, 0, none⟩)] w fun e w' => e = gup ∧ BrAt w' rb s s.size ∧ But rb w w' := by
  have H := hideB h
  have h1 := h.src
  have h2 := h.place
  have h3 := h.free
  have h4 := h.lt
  clear h
  go_enter Tryz.func112, Tryz.ntmps112
  go_wp2_with fail
  go_quiet (fail)
  have HD1 := hideB (below_drewB (w := w) nq)
  go_wp2_with fail
  exact ⟨rfl, rfl, H.out.below HD1.out, But.of_below HD1.out⟩
end Go.Proofs.YtagcgnhpdmhegaaGreatDoor

/-
  Trees whose rows lie in blocks of a given kind; what a reader's call leaves.
-/
namespace Go.Proofs.YtagcgnhpdmhegaaGreatDoor
open Go.RowKit
set_option linter.unusedSimpArgs false
set_option linter.unusedVariables false

def StrsP (P : Nat → Prop) (w : World) (v : Value) (l : List ByteArray) : Prop :=
  l.length ≤ 8796093022208 ∧ (∀ i, i < l.length → (keyAt l i).size ≤ 140737488355328) ∧
  ∃ a cap, v = .slice a l.length cap ∧ (0 < l.length → ∃ b o, a = some ⟨b, o, none⟩ ∧ P b ∧ ∀ i, i < l.length → w.cell? ⟨b, o + i, none⟩ = some (.string (keyAt l i)))
def TItemsP (P : Nat → Prop) (w : World) (it : Value) (n : Nat) (Q : Nat → Value → Prop) : Prop :=
  n ≤ 100000 ∧ ∃ a cap, it = .slice a n cap ∧ (0 < n → ∃ b, a = some ⟨b, 0, none⟩ ∧ P b ∧ ∀ j, j < n → ∃ t x, w.cell? ⟨b, j, none⟩ = some (.iface t x) ∧ Q j (.iface t x))
/-- As TreeAt, the rows in blocks that meet 'P'. -/
def TreeP (P : Nat → Prop) (w : World) : Nat → VT → Value → Prop
  | 0, _, _ => False
  | f + 1, .mk kind n s keys kids, v =>
    (kind = 1 ∧ n = 0 ∧ s = ByteArray.empty ∧ keys = [] ∧ kids = [] ∧ v = .iface 73 (.agg #[])) ∨
    (kind = 2 ∧ s = ByteArray.empty ∧ keys = [] ∧ kids = [] ∧ v = .iface 77 (.agg #[.int .i64 n])) ∨
    (kind = 3 ∧ s = ByteArray.empty ∧ keys = [] ∧ kids = [] ∧ v = .iface 79 (.agg #[.int .i64 n])) ∨
    (kind = 4 ∧ n = 0 ∧ keys = [] ∧ kids = [] ∧ v = .iface 82 (.agg #[.string s])) ∨
    (kind = 5 ∧ n = 0 ∧ s = ByteArray.empty ∧ keys = [] ∧ ∃ it, v = .iface 84 (.agg #[it]) ∧ TItemsP P w it kids.length (fun j u => TreeP P w f (kidT kids j) u)) ∨
    (kind = 6 ∧ n = 0 ∧ s = ByteArray.empty ∧ ∃ ks it, v = .iface 87 (.agg #[ks, it]) ∧ StrsP P w ks keys ∧ TItemsP P w it kids.length (fun j u => TreeP P w f (kidT kids j) u))
theorem cellB {w w' : World} {b o : Nat} (h : w'.heap[b]? = w.heap[b]?) : w'.cell? ⟨b, o, none⟩ = w.cell? ⟨b, o, none⟩ := World.cell?_of_block (w := w) (a := ⟨b, o, none⟩) h
theorem StrsP.keep {P P' : Nat → Prop} {w w' : World} {v : Value} {l : List ByteArray} (hk : ∀ b, P b → w'.heap[b]? = w.heap[b]?) (hP : ∀ b, P b → P' b) (h : StrsP P w v l) : StrsP P' w' v l := by
  obtain ⟨h1, h2, a, cap, e, h3⟩ := h
  refine ⟨h1, h2, a, cap, e, fun hp => ?_⟩
  obtain ⟨b, o, e2, hb, hc⟩ := h3 hp
  exact ⟨b, o, e2, hP b hb, fun i hi => (cellB (hk b hb)).trans (hc i hi)⟩
theorem StrsP.at {P : Nat → Prop} {w : World} {v : Value} {l : List ByteArray} {B : Nat} (h : StrsP P w v l) (hB : ∀ b, P b → b < B) : StrsAt B w v l := by
  obtain ⟨h1, h2, a, cap, e, h3⟩ := h
  refine ⟨h1, h2, a, cap, e, fun hp => ?_⟩
  obtain ⟨b, o, e2, hb, hc⟩ := h3 hp
  exact ⟨b, o, e2, hB b hb, hc⟩
theorem TreeP.keep {P P' : Nat → Prop} {w w' : World} (hk : ∀ b, P b → w'.heap[b]? = w.heap[b]?) (hP : ∀ b, P b → P' b) : ∀ {f : Nat} {t : VT} {v : Value}, TreeP P w f t v → TreeP P' w' f t v := by
  intro f
  induction f with
  | zero => intro t v h; exact h.elim
  | succ f ih =>
    intro t v h
    obtain ⟨kind, n, s, keys, kids⟩ := t
    have hit : ∀ it, TItemsP P w it kids.length (fun j u => TreeP P w f (kidT kids j) u) → TItemsP P' w' it kids.length (fun j u => TreeP P' w' f (kidT kids j) u) := by
      rintro it ⟨h0, a, cap, e, hx⟩
      refine ⟨h0, a, cap, e, fun hn => ?_⟩
      obtain ⟨b, ea, h2, h3⟩ := hx hn
      refine ⟨b, ea, hP b h2, fun j hj => ?_⟩
      obtain ⟨t, x, hcc, hv⟩ := h3 j hj
      exact ⟨t, x, (cellB (hk b h2)).trans hcc, ih hv⟩
    rcases h with h | h | h | h | ⟨h1, h2, h3, h4, it, e, hi⟩ | ⟨h1, h2, h3, ks, it, e, hs, hi⟩
    · exact Or.inl h
    · exact Or.inr (Or.inl h)
    · exact Or.inr (Or.inr (Or.inl h))
    · exact Or.inr (Or.inr (Or.inr (Or.inl h)))
    · exact Or.inr (Or.inr (Or.inr (Or.inr (Or.inl ⟨h1, h2, h3, h4, it, e, hit it hi⟩))))
    · exact Or.inr (Or.inr (Or.inr (Or.inr (Or.inr ⟨h1, h2, h3, ks, it, e, hs.keep hk hP, hit it hi⟩))))
theorem TreeP.at {P : Nat → Prop} {w : World} {B : Nat} (hB : ∀ b, P b → b < B) : ∀ {f : Nat} {t : VT} {v : Value}, TreeP P w f t v → TreeAt B w f t v := by
  intro f
  induction f with
  | zero => intro t v h; exact h.elim
  | succ f ih =>
    intro t v h
    obtain ⟨kind, n, s, keys, kids⟩ := t
    have hit : ∀ it, TItemsP P w it kids.length (fun j u => TreeP P w f (kidT kids j) u) → TItems B w it kids.length (fun j u => TreeAt B w f (kidT kids j) u) := by
      rintro it ⟨h0, a, cap, e, hx⟩
      refine ⟨h0, a, cap, e, fun hn => ?_⟩
      obtain ⟨b, ea, h2, h3⟩ := hx hn
      refine ⟨b, ea, hB b h2, fun j hj => ?_⟩
      obtain ⟨t, x, hcc, hv⟩ := h3 j hj
      exact ⟨t, x, hcc, ih hv⟩
    rcases h with h | h | h | h | ⟨h1, h2, h3, h4, it, e, hi⟩ | ⟨h1, h2, h3, ks, it, e, hs, hi⟩
    · exact Or.inl h
    · exact Or.inr (Or.inl h)
    · exact Or.inr (Or.inr (Or.inl h))
    · exact Or.inr (Or.inr (Or.inr (Or.inl h)))
    · exact Or.inr (Or.inr (Or.inr (Or.inr (Or.inl ⟨h1, h2, h3, h4, it, e, hit it hi⟩))))
    · exact Or.inr (Or.inr (Or.inr (Or.inr (Or.inr ⟨h1, h2, h3, ks, it, e, hs.at hB, hit it hi⟩))))
theorem TreeP.iface {P : Nat → Prop} {w : World} {f : Nat} {t : VT} {v : Value} (h : TreeP P w f t v) : ∃ ty x, v = .iface ty x := by
  cases f with
  | zero => exact h.elim
  | succ f =>
    obtain ⟨kind, n, s, keys, kids⟩ := t
    rcases h with ⟨_, _, _, _, _, e⟩ | ⟨_, _, _, _, e⟩ | ⟨_, _, _, _, e⟩ | ⟨_, _, _, _, e⟩ | ⟨_, _, _, _, _, e, _⟩ | ⟨_, _, _, _, _, e, _⟩ <;> exact ⟨_, _, e⟩
/-- What is new since a world. -/
def NewB (w w' : World) (b : Nat) : Prop := w.heap.size ≤ b ∧ b < w'.heap.size
theorem getB {s : ByteArray} {p : Nat} (h : p < s.size) : byAt s.data.toList p = s[p].toNat := by
  unfold byAt
  rw [List.getD_eq_getElem?_getD, getK? h]
  rfl
/-- A reader behind so many bytes more. -/
theorem BrAt.skip {w : World} {rb p n : Nat} {s : ByteArray} (h : BrAt w rb s p) (hp : p + n ≤ s.size) : BrAt (w.setCell ⟨rb, 1, none⟩ (.int .i64 ((p + n : Nat) : Int))) rb s (p + n) :=
  ⟨by simpa using h.lt, by rw [World.cell?_setCell_other (h := by simp)]; exact h.src, World.cell?_setCell_same _ _ _ h.place, by rw [World.frozen?_setCell]; exact h.free, hp⟩

end Go.Proofs.YtagcgnhpdmhegaaGreatDoor

/-
  The program's signReader: its place in memory, the next sign, blanks.
-/
namespace Go.Proofs.YtagcgnhpdmhegaaGreatDoor
open Go.RowKit
set_option linter.unusedSimpArgs false
set_option linter.unusedVariables false

/-- A reader of signs with the blanks of JSON. -/
structure SrAt (w : World) (rb : Nat) (s : ByteArray) (p : Nat) : Prop where
  br : BrAt w rb s p
  bl : w.cell? ⟨rb, 2, none⟩ = some (.string ⟨#[9, 10, 13, 32]⟩)
theorem SrAt.keep {w w' : World} {rb p : Nat} {s : ByteArray} (h : SrAt w rb s p) (hb : w'.heap[rb]? = w.heap[rb]?) (hz : w.heap.size ≤ w'.heap.size) : SrAt w' rb s p := ⟨h.br.keep hb hz, (cellOf hb).trans h.bl⟩
theorem SrAt.below {w w' : World} {rb p : Nat} {s : ByteArray} (h : SrAt w rb s p) (hb : Below w.heap.size w w') : SrAt w' rb s p := h.keep (hb.block rb h.br.lt) hb.size
theorem SrAt.to {w : World} {rb p q : Nat} {s : ByteArray} (h : SrAt w rb s p) (hq : q ≤ s.size) : SrAt (w.setCell ⟨rb, 1, none⟩ (.int .i64 (q : Int))) rb s q :=
  ⟨⟨by simpa using h.br.lt, by rw [World.cell?_setCell_other (h := by simp)]; exact h.br.src, World.cell?_setCell_same _ _ _ h.br.place, by rw [World.frozen?_setCell]; exact h.br.free, hq⟩, by rw [World.cell?_setCell_other (h := by simp)]; exact h.bl⟩
/-- Another reading of the reader's own memory. -/
theorem SrAt.of {w w' : World} {rb p q : Nat} {s : ByteArray} (h : SrAt w rb s p) (hb : BrAt w' rb s q) (hc : w'.cell? ⟨rb, 2, none⟩ = w.cell? ⟨rb, 2, none⟩) : SrAt w' rb s q := ⟨hb, hc.trans h.bl⟩
def placeOf (w : World) (rb : Nat) : Nat := match w.cell? ⟨rb, 1, none⟩ with
  | some v => (intOf v).toNat
  | none => 0
theorem SrAt.placeOf {w : World} {rb p : Nat} {s : ByteArray} (h : SrAt w rb s p) : placeOf w rb = p := by unfold Go.Proofs.YtagcgnhpdmhegaaGreatDoor.placeOf; rw [h.br.place]; simp [intOf]
theorem ix_blank0 : ∀ n : Fin 256, (blankC n.val = true ∧ ∃ i : Fin 4, Go.Lib.indexByte [9, 10, 13, 32] (UInt8.ofNat n.val) = (i.val : Int)) ∨ (blankC n.val = false ∧ Go.Lib.indexByte [9, 10, 13, 32] (UInt8.ofNat n.val) = -1) := by decide +kernel
theorem ix_blank (c : UInt8) : (blankC c.toNat = true ∧ ∃ i : Nat, Go.Lib.indexByte [9, 10, 13, 32] c = (i : Int)) ∨ (blankC c.toNat = false ∧ Go.Lib.indexByte [9, 10, 13, 32] c = -1) := by
  have h := ix_blank0 ⟨c.toNat, c.toNat_lt⟩
  have e : UInt8.ofNat c.toNat = c := by simp
  simp only [e] at h
  rcases h with ⟨h1, i, h2⟩ | h
  · exact .inl ⟨h1, i.val, h2⟩
  · exact .inr h
theorem byS {s : ByteArray} {p : Nat} (h : p < s.size) : s[p].toNat = byAt s.data.toList p := (getB h).symm

set_option maxRecDepth 100000 in
set_option maxHeartbeats 1600000 in
theorem peek_any {rb p : Nat} {s : ByteArray} {w : World} (h : BrAt w rb s p) (hs : s.size ≤ 1048576) :
    Calls Tryz.prog 95 #[.pointer (some ⟨rb, 0, none⟩)] w fun e w' => e = .returned (.int .u8 (byAt s.data.toList p : Int)) ∧ Below w.heap.size w w' := by
  have H := hideB h
  have h1 := h.src
  have h2 := h.place
  have h4 := h.lt
  have h5 := h.le
  clear h
  by_cases hp : p < s.size
  · have hne : ((p : Int) == (s.size : Int)) = false := by simp; omega
    have HB := hideB (byS hp)
    go_enter Tryz.func95, Tryz.ntmps95
    go_wp2_with fail
    go_quiet (fail)
    have HD1 := hideB (below_drewB (w := w) nq)
    have HR1 := hideB (H.out.below HD1.out)
    have k1 := HR1.out.src
    have k2 := HR1.out.place
    generalize w.drewN nq = W1 at HR1 HD1 k1 k2 ⊢
    clear nq h1 h2
    go_wp2_with fail
    go_quiet (fail)
    have HD2 := hideB (below_drewB (w := W1) nq)
    go_wp2_with fail
    go_ret
    exact ⟨by rw [HB.out]; rfl, HD1.out.trans (HD2.out.mono HD1.out.size)⟩
  · obtain rfl : p = s.size := by omega
    have HB : Hid (byAt s.data.toList s.size = 0) := byAt_past (by rw [len_is]; omega)
    go_enter Tryz.func95, Tryz.ntmps95
    go_wp2_with fail
    go_quiet (fail)
    go_wp2_with fail
    go_ret
    exact ⟨by rw [HB.out]; rfl, below_drewB nq⟩

set_option maxRecDepth 100000 in
set_option maxHeartbeats 3200000 in
theorem skip_any {rb p : Nat} {s : ByteArray} {w : World} (h : SrAt w rb s p) (hs : s.size ≤ 1048576) :
    Calls Tryz.prog 82 #[.pointer (some ⟨rb, 0, none⟩)] w fun e w' => e = .returned (.tuple #[]) ∧ SrAt w' rb s (skipJ s.data.toList p) ∧ But rb w w' := by
  have H := hideB h
  clear h
  go_enter Tryz.func82, Tryz.ntmps82
  go_wp2_with fail
  go_loopw [] (fun wr => ∃ q, SrAt wr rb s q ∧ skipJ s.data.toList q = skipJ s.data.toList p ∧ But rb w wr) (fun wr => s.size - placeOf wr rb)
  case atStart => exact ⟨p, H.out, rfl, But.refl _ _⟩
  case round =>
    obtain ⟨q, hsr, hsk, hbt⟩ := hrel
    have HS := hideB hsr
    have HK := hideB hsk
    have HBT := hideB hbt
    have h1 := hsr.br.src
    have h2 := hsr.br.place
    have h3 := hsr.br.free
    have h4 := hsr.br.lt
    have h5 := hsr.br.le
    have h6 := hsr.bl
    clear hsr hsk hbt
    by_cases hq : q < s.size
    · have hq' : (q : Int) < (s.size : Int) := by omega
      have HB := hideB (byS hq)
      rcases ix_blank s[q] with ⟨hb, i, hi⟩ | ⟨hb, hi⟩
      · have HIX : Hid (∀ w, Calls Tryz.prog 74 #[.string ⟨#[9, 10, 13, 32]⟩, .int .u8 (s[q].toNat : Int)] w fun e w' => e = .returned (.int .i64 (i : Int)) ∧ w' = w) := fun w => by
          have := indexByte_any ⟨#[9, 10, 13, 32]⟩ s[q] w
          rw [show (⟨#[9, 10, 13, 32]⟩ : ByteArray).data.toList = [9, 10, 13, 32] from rfl, hi] at this
          exact this
        have HNX : Hid (skipJ s.data.toList q = skipJ s.data.toList (q + 1)) := runJ_yes (by rw [len_is]; exact hq) (by rw [← HB.out]; exact hb)
        clear hi hb
        go_wp2_with fail
        go_quiet ((go_at_call 74; exact Calls.quiet_of_same (HIX.out _)))
        have HD := hideB (below_drewB (w := wr) nq)
        have HR := hideB (HS.out.below HD.out)
        have k1 := HR.out.br.src
        have k2 := HR.out.br.place
        have k3 := HR.out.br.free
        generalize wr.drewN nq = W1 at HR HD k1 k2 k3 ⊢
        clear nq h1 h2 h3 h6
        go_wp2_with fail
        go_roundw
        case rel =>
          have e : ((q : Int) + 1) = ((q + 1 : Nat) : Int) := by omega
          refine ⟨q + 1, ?_, by rw [← HNX.out]; exact HK.out, (HBT.out.trans (But.of_below HD.out)).trans (But.of_set _ _)⟩
          rw [e]
          exact HR.out.to hq
        case measure =>
          have e : ((q : Int) + 1) = ((q + 1 : Nat) : Int) := by omega
          rw [HS.out.placeOf, e, (HR.out.to hq).placeOf]
          omega
      · have HIX : Hid (∀ w, Calls Tryz.prog 74 #[.string ⟨#[9, 10, 13, 32]⟩, .int .u8 (s[q].toNat : Int)] w fun e w' => e = .returned (.int .i64 (-1)) ∧ w' = w) := fun w => by
          have := indexByte_any ⟨#[9, 10, 13, 32]⟩ s[q] w
          rw [show (⟨#[9, 10, 13, 32]⟩ : ByteArray).data.toList = [9, 10, 13, 32] from rfl, hi] at this
          exact this
        have HNX : Hid (skipJ s.data.toList q = q) := runJ_no (fun e => by rw [← HB.out, hb] at e; cases e.2)
        clear hi hb
        go_wp2_with fail
        go_quiet ((go_at_call 74; exact Calls.quiet_of_same (HIX.out _)))
        have HD := hideB (below_drewB (w := wr) nq)
        go_wp2_with fail
        go_end0
        exact ⟨rfl, by rw [← HK.out, HNX.out]; exact HS.out.below HD.out, HBT.out.trans (But.of_below HD.out)⟩
    · obtain rfl : q = s.size := by omega
      have HNX : Hid (skipJ s.data.toList s.size = s.size) := runJ_past (by rw [len_is]; omega)
      go_wp2_with fail
      go_quiet (fail)
      have HD := hideB (below_drewB (w := wr) nq)
      go_wp2_with fail
      go_end0
      exact ⟨rfl, by rw [← HK.out, HNX.out]; exact HS.out.below HD.out, HBT.out.trans (But.of_below HD.out)⟩
set_option maxRecDepth 100000 in
set_option maxHeartbeats 1600000 in
theorem nextS_yes {rb p : Nat} {s : ByteArray} {w : World} (h : SrAt w rb s p) (hp : p < s.size) (hs : s.size ≤ 1048576) :
    Calls Tryz.prog 112 #[.pointer (some ⟨rb, 0, none⟩)] w fun e w' => e = .returned (.int .u8 (s[p].toNat : Int)) ∧ SrAt w' rb s (p + 1) ∧ But rb w w' := by
  have H := hideB h
  have h1 := h.br.src
  have h2 := h.br.place
  have h3 := h.br.free
  have h4 := h.br.lt
  clear h
  have hne : ((p : Int) == (s.size : Int)) = false := by simp; omega
  go_enter Tryz.func112, Tryz.ntmps112
  go_wp2_with fail
  go_quiet (fail)
  have HD1 := hideB (below_drewB (w := w) nq)
  have HR1 := hideB (H.out.below HD1.out)
  have k1 := HR1.out.br.src
  have k2 := HR1.out.br.place
  have k3 := HR1.out.br.free
  generalize w.drewN nq = W1 at HR1 HD1 k1 k2 k3 ⊢
  clear nq h1 h2 h3
  go_wp2_with fail
  go_quiet (fail)
  have HD2 := hideB (below_drewB (w := W1) nq)
  have HR2 := hideB (HR1.out.below HD2.out)
  have l1 := HR2.out.br.src
  have l2 := HR2.out.br.place
  have l3 := HR2.out.br.free
  generalize W1.drewN nq = W2 at HR2 HD2 l1 l2 l3 ⊢
  clear nq k1 k2 k3
  go_wp2_with fail
  go_ret
  refine ⟨rfl, HR2.out.to hp, ?_⟩
  exact ((But.of_below HD1.out).trans (But.of_below HD2.out)).trans (But.of_set _ _)

end Go.Proofs.YtagcgnhpdmhegaaGreatDoor
