/-
  impl.rightNodes: the nodes of a value, if these are right.
-/
import Derived.Test.YtiamkmkbkehldaaGreatDoorWn6
import Derived.Test.YtiamkmkbkehldaaGreatDoorSMake
import Derived.Test.YtiamkmkbkehldaaGreatDoorLowN
import Derived.Test.YtiamkmkbkehldaaGreatDoorMarkM
import Derived.Test.YtiamkmkbkehldaaGreatDoorRowB
import Derived.Test.YtiamkmkbkehldaaGreatDoorSpc3
import Derived.Test.YtiamkmkbkehldaaGreatDoorKpK
import Derived.Test.YtiamkmkbkehldaaGreatDoorRd
import Derived.Test.YtiamkmkbkehldaaGreatDoorPure
import Derived.Test.YtiamkmkbkehldaaGreatDoorDrL
namespace Go.Proofs.YtiamkmkbkehldaaGreatDoor
open Go.RowKit
set_option linter.unusedSimpArgs false
set_option linter.unusedVariables false

theorem TreeAt.iface {B : Nat} {w : World} {f : Nat} {t : VT} {v : Value} (h : TreeAt B w f t v) : ∃ ty x, v = .iface ty x := by
  cases f with
  | zero => exact h.elim
  | succ f =>
    obtain ⟨kind, n, s, keys, kids⟩ := t
    rcases h with ⟨_, _, _, _, _, rfl⟩ | ⟨_, _, _, _, rfl⟩ | ⟨_, _, _, _, rfl⟩ | ⟨_, _, _, _, rfl⟩ | ⟨_, _, _, _, it, rfl, _⟩ | ⟨_, _, _, ks, it, rfl, _⟩ <;> exact ⟨_, _, rfl⟩

def rightNs (ns : List VN) : List VN := if okB ns = true then ns else []

set_option maxRecDepth 100000 in
set_option maxHeartbeats 3200000 in
theorem rightNodes_any (f : Nat) (t : VT) (x : Value) (ns : List VN) (w : World) (ht : TreeAt w.heap.size w f t x) (hns : layT f t 0 = ns) (hn : ns.length ≤ 100000) (hf : ∀ i, i < ns.length → Fits (nodeAt ns i)) :
    Calls Tryz.prog 46 #[x] w fun e w' => ∃ r base KV IV, e = .returned (.tuple #[r, .bool (okB ns)]) ∧ w.heap.size ≤ base ∧ base ≤ w'.heap.size ∧ Nest base w' r (rightNs ns) KV IV ∧ Below w.heap.size w w' := by
  obtain ⟨ty, xv, rfl⟩ := ht.iface
  have HT := hideIt ht
  have HNS := hideIt hns
  have HF := hideIt hf
  have HRN : Hid (rightNs ns = if okB ns = true then ns else []) := rfl
  clear ht hns hf
  go_enter Tryz.func46, Tryz.ntmps46
  go_wp2_with fail
  refine (withNodes_any w.heap.size w.heap.size (Nat.le_refl _) f t (.iface ty xv) (.slice none 0 0) [] (fun _ => undef) (fun _ => undef) w (Nest.nil _ _ _ _) HT.out (Nat.le_refl _) (by rw [List.length_nil, HNS.out]; omega)).mono ?_
  rintro e w1 ⟨r, K, I, rfl, hl1⟩
  have hn1 : Nest w.heap.size w1 r ns K I := by have := hl1.1; rw [List.nil_append, List.length_nil, HNS.out] at this; exact this
  have hb1 : Below w.heap.size w w1 := (Below.refl _ _).grown hl1.2.1 (Nat.le_refl _) (fun k hk => by simp [Value.ownBlock] at hk)
  have z1 := hb1.size
  have HN1 := hideIt hn1
  have HB1 := hideIt hb1
  obtain ⟨ar, cr, er⟩ := own_slice hn1.row
  obtain ⟨N, hN⟩ : ∃ N, ns.length = N := ⟨_, rfl⟩
  rw [hN] at er
  subst er
  clear hn1 hb1 hN hl1
  go_wp2_with fail
  refine (implOk_any w1.heap.size _ ns _ (HN1.out.nodes (by omega) HF.out) (Nat.le_refl _)).mono ?_
  rintro e w2 ⟨rfl, hb2⟩
  have z2 := hb2.size
  have HN2 := hideIt (HN1.out.below hb2)
  have HB2 := hideIt (HB1.out.trans (hb2.mono z1))
  clear hb2
  cases ok1 : okB ns
  · go_wp2_with fail
    go_ret2
    exact ⟨.slice none 0 0, w.heap.size, fun _ => undef, fun _ => undef, by rw [ok1]; rfl, Nat.le_refl _, by omega, by rw [HRN.out, ok1]; exact Nest.nil _ _ _ _, HB2.out⟩
  · go_wp2_with fail
    go_ret2
    exact ⟨.slice ar N cr, w.heap.size, K, I, by rw [ok1]; rfl, Nat.le_refl _, by omega, by rw [HRN.out, ok1]; exact HN2.out, HB2.out⟩
end Go.Proofs.YtiamkmkbkehldaaGreatDoor

/-
  A list's nodes: what the specification lays and what the program lays are the same. Plain mathematics.
-/
namespace Go.Proofs.YtiamkmkbkehldaaGreatDoor
open Go.RowKit
set_option linter.unusedSimpArgs false
set_option linter.unusedVariables false

theorem root_first {vs : List VN} (hok : okB vs = true) : ∃ h, tr (kidsOf vs) (vs.length - 1) = some (0, h) := by
  unfold okB rootB at hok
  simp only [Bool.and_eq_true] at hok
  have h := hok.2
  cases e : tr (kidsOf vs) (vs.length - 1) with
  | none => simp [e] at h
  | some p => obtain ⟨a, b⟩ := p; simp [e] at h; obtain ⟨rfl, _⟩ := h; exact ⟨b, rfl⟩

theorem run_all (vs : List VN) (d : Int) : run vs d 0 vs.length = vs.map (shiftN d) := by
  unfold run
  apply List.ext_getElem?
  intro j
  by_cases hj : j < vs.length
  · simp [List.getElem?_range', hj, nodeAt]
  · simp [hj]

theorem nodeAt_left {a b : List VN} {i : Nat} (h : i < a.length) : nodeAt (a ++ b) i = nodeAt a i := by
  unfold nodeAt; rw [List.getD_eq_getElem?_getD, List.getD_eq_getElem?_getD, List.getElem?_append_left h]
theorem nodeAt_right {a b : List VN} {i : Nat} (h : a.length ≤ i) : nodeAt (a ++ b) i = nodeAt b (i - a.length) := by
  unfold nodeAt; rw [List.getD_eq_getElem?_getD, List.getD_eq_getElem?_getD, List.getElem?_append_right h]
end Go.Proofs.YtiamkmkbkehldaaGreatDoor

/-
  spec.ListOf.
-/
namespace Go.Proofs.YtiamkmkbkehldaaGreatDoor
open Go.RowKit
set_option linter.unusedSimpArgs false
set_option linter.unusedVariables false

theorem RowsAt.below {B : Nat} {w w' : World} {v : Value} {m : Nat} {L : Nat → List VN} (h : RowsAt B w v m L) (hb : Below B w w') : RowsAt B w' v m L := by
  obtain ⟨h1, a, c, e, h2⟩ := h
  refine ⟨h1, a, c, e, fun hp => ?_⟩
  obtain ⟨b, ea, hbB, h3⟩ := h2 hp
  refine ⟨b, ea, hbB, fun i hi => ?_⟩
  obtain ⟨r, e2, hn⟩ := h3 i hi
  exact ⟨r, (below_cell hb hbB).trans e2, hn.below hb⟩

end Go.Proofs.YtiamkmkbkehldaaGreatDoor

/-
  The map of keys and values: the program's arrangement is the specification's. Plain mathematics.
-/
namespace Go.Proofs.YtiamkmkbkehldaaGreatDoor
open Go.RowKit
set_option linter.unusedSimpArgs false
set_option linter.unusedVariables false

end Go.Proofs.YtiamkmkbkehldaaGreatDoor

/-
  Plain: when the nodes that are laid for a tree are a right value: by the tree alone.
-/
namespace Go.Proofs.YtiamkmkbkehldaaGreatDoor
open Go.RowKit
set_option linter.unusedSimpArgs false
set_option linter.unusedVariables false

/-- The tree ends within so many steps. -/
def FullT : Nat → VT → Prop
  | 0, _ => False
  | f + 1, .mk _ _ _ _ kids => ∀ j, j < kids.length → FullT f (kidT kids j)
/-- Every node is right by itself. -/
def nodeT (kind n : Int) (s : ByteArray) (keys : List ByteArray) (m : Nat) : Bool := nodeB ⟨kind, n, s, keys, List.replicate m 0⟩
def goodT : Nat → VT → Prop
  | 0, _ => False
  | f + 1, .mk kind n s keys kids => nodeT kind n s keys kids.length = true ∧ ∀ j, j < kids.length → goodT f (kidT kids j)
def hiK (F : VT → Nat) (kids : List VT) : Nat → Nat
  | 0 => 0
  | k + 1 => max (hiK F kids k) (F (kidT kids k))
/-- How deep a tree is. -/
def hiT : Nat → VT → Nat
  | 0, _ => 0
  | f + 1, .mk _ _ _ _ kids => hiK (hiT f) kids kids.length + 1
theorem goodT.full : ∀ {f : Nat} {t : VT}, goodT f t → FullT f t
  | 0, _, h => h.elim
  | f + 1, .mk _ _ _ _ _, h => fun j hj => (h.2 j hj).full
theorem nodeT_eq (x : VN) : nodeB x = nodeT x.kind x.n x.s x.keys x.kids.length := by
  unfold nodeT nodeB unnamedB namedB
  simp
theorem FullT.more : ∀ {f g : Nat} {t : VT}, f ≤ g → FullT f t → FullT g t
  | 0, _, _, _, h => h.elim
  | f + 1, 0, _, hg, _ => by omega
  | f + 1, g + 1, .mk _ _ _ _ _, hg, h => fun j hj => (h j hj).more (by omega)

theorem layT_len {f : Nat} {t : VT} (h : FullT f t) (sh : Nat) : 1 ≤ (layT f t sh).length := by
  cases f with
  | zero => exact h.elim
  | succ f => obtain ⟨kind, n, s, keys, kids⟩ := t; rw [layT_eq]; simp

theorem acc_nodes (f sh : Nat) (kids : List VT) (P : VN → Prop) : ∀ k, k ≤ kids.length → ((∀ j, j < (accT f sh kids k).length → P (nodeAt (accT f sh kids k) j)) ↔ ∀ i, i < k → ∀ j, j < (layT f (kidT kids i) (sh + (accT f sh kids i).length)).length → P (nodeAt (layT f (kidT kids i) (sh + (accT f sh kids i).length)) j)) := by
  intro k
  induction k with
  | zero => intro _; rw [accT_zero]; simp
  | succ k ih =>
    intro hk
    have ih' := ih (by omega)
    rw [accT_succ f sh (by omega), List.length_append]
    constructor
    · intro h i hi j hj
      by_cases e : i = k
      · subst e
        have := h ((accT f sh kids i).length + j) (by omega)
        rw [nodeAt_right (by omega), Nat.add_sub_cancel_left] at this
        exact this
      · exact ih'.1 (fun j hj => by have := h j (by omega); rw [nodeAt_left hj] at this; exact this) i (by omega) j hj
    · intro h j hj
      by_cases e : j < (accT f sh kids k).length
      · rw [nodeAt_left e]
        exact ih'.2 (fun i hi => h i (by omega)) j e
      · rw [nodeAt_right (by omega)]
        exact h k (by omega) _ (by omega)
end Go.Proofs.YtiamkmkbkehldaaGreatDoor

/-
  Plain: the nodes of a list and of a map out of those of their parts; what is wrong in a part is wrong in the whole.
-/
namespace Go.Proofs.YtiamkmkbkehldaaGreatDoor
open Go.RowKit
set_option linter.unusedSimpArgs false
set_option linter.unusedVariables false

theorem shift_add (a b : Int) (x : VN) : shiftN a (shiftN b x) = shiftN (a + b) x := by
  unfold shiftN
  simp only [List.map_map]
  congr 1
  apply List.map_congr_left
  intro y _
  simp only [Function.comp]
  omega
theorem shift_zero (x : VN) : shiftN 0 x = x := by
  unfold shiftN
  cases x
  simp
/-- Laid further on: shifted. -/
theorem layT_shift : ∀ (f : Nat) (t : VT) (sh : Nat), layT f t sh = (layT f t 0).map (shiftN (sh : Int)) := by
  intro f
  induction f with
  | zero => intro t sh; rfl
  | succ f ih =>
    intro t sh
    obtain ⟨kind, n, s, keys, kids⟩ := t
    have hk : ∀ k, k ≤ kids.length → accT f sh kids k = (accT f 0 kids k).map (shiftN (sh : Int)) ∧ ksT f sh kids k = (ksT f 0 kids k).map (· + (sh : Int)) := by
      intro k
      induction k with
      | zero => intro _; rw [accT_zero, accT_zero, ksT_zero, ksT_zero]; exact ⟨rfl, rfl⟩
      | succ k ihk =>
        intro hk
        obtain ⟨h1, h2⟩ := ihk (by omega)
        have hl : (accT f sh kids k).length = (accT f 0 kids k).length := by rw [h1, List.length_map]
        have ha : accT f sh kids (k + 1) = (accT f 0 kids (k + 1)).map (shiftN (sh : Int)) := by
          rw [accT_succ f sh (by omega), accT_succ f 0 (by omega), List.map_append, h1, List.length_map, ih _ (sh + (accT f 0 kids k).length), ih _ (0 + (accT f 0 kids k).length), List.map_map]
          congr 1
          apply List.map_congr_left
          intro x _
          simp only [Function.comp, shift_add]
          congr 1
          omega
        refine ⟨ha, ?_⟩
        rw [ksT_succ f sh (by omega), ksT_succ f 0 (by omega), List.map_append, h2, ha, List.length_map]
        congr 1
        simp only [List.map_cons, List.map_nil, List.cons.injEq, and_true]
        omega
    obtain ⟨h1, h2⟩ := hk _ (Nat.le_refl _)
    rw [layT_eq, layT_eq, List.map_append, h1, h2]
    rfl
theorem acc_cat (f : Nat) (kids : List VT) : ∀ k, k ≤ kids.length → accT f 0 kids k = catNs (fun i => layT f (kidT kids i) 0) k ∧ ksT f 0 kids k = catKs (fun i => layT f (kidT kids i) 0) k := by
  intro k
  induction k with
  | zero => intro _; exact ⟨accT_zero _ _ _, ksT_zero _ _ _⟩
  | succ k ih =>
    intro hk
    obtain ⟨h1, h2⟩ := ih (by omega)
    have ha : accT f 0 kids (k + 1) = catNs (fun i => layT f (kidT kids i) 0) (k + 1) := by
      rw [accT_succ f 0 (by omega), catNs, h1, Nat.zero_add, layT_shift f _ (catNs _ k).length]
    refine ⟨ha, ?_⟩
    rw [ksT_succ f 0 (by omega), catKs, h2, ha, Nat.zero_add]
theorem layT_more : ∀ {f g : Nat} {t : VT}, FullT f t → f ≤ g → ∀ sh, layT g t sh = layT f t sh := by
  intro f
  induction f with
  | zero => intro g t h; exact h.elim
  | succ f ih =>
    intro g t h hfg sh
    obtain ⟨g, rfl⟩ : ∃ g', g = g' + 1 := ⟨g - 1, by omega⟩
    obtain ⟨kind, n, s, keys, kids⟩ := t
    have hk : ∀ k, k ≤ kids.length → accT g sh kids k = accT f sh kids k ∧ ksT g sh kids k = ksT f sh kids k := by
      intro k
      induction k with
      | zero => intro _; rw [accT_zero, accT_zero, ksT_zero, ksT_zero]; exact ⟨rfl, rfl⟩
      | succ k ihk =>
        intro hk
        obtain ⟨h1, h2⟩ := ihk (by omega)
        have ha : accT g sh kids (k + 1) = accT f sh kids (k + 1) := by rw [accT_succ g sh (by omega), accT_succ f sh (by omega), h1, ih (h k (by omega)) (by omega)]
        exact ⟨ha, by rw [ksT_succ g sh (by omega), ksT_succ f sh (by omega), h2, ha]⟩
    obtain ⟨h1, h2⟩ := hk _ (Nat.le_refl _)
    rw [layT_eq, layT_eq, h1, h2]
end Go.Proofs.YtiamkmkbkehldaaGreatDoor

/-
  Plain: the places of texts in their order; a map of keys and trees as the program makes it.
-/
namespace Go.Proofs.YtiamkmkbkehldaaGreatDoor
open Go.RowKit
set_option linter.unusedSimpArgs false
set_option linter.unusedVariables false

instance (l : List ByteArray) (x y : Int) : Decidable (RK l x y) := by unfold RK; infer_instance
def leK (l : List ByteArray) (a b : Nat) : Bool := decide (RK l a b) || decide (a = b)
/-- The places of the texts, by their order. -/
def srt (l : List ByteArray) : List Nat := (List.range l.length).mergeSort (leK l)
theorem srt_perm (l : List ByteArray) : (srt l).Perm (List.range l.length) := List.mergeSort_perm _ _
theorem srt_len (l : List ByteArray) : (srt l).length = l.length := by rw [(srt_perm l).length_eq]; simp
theorem srt_mem {l : List ByteArray} {x : Nat} : x ∈ srt l ↔ x < l.length := by rw [(srt_perm l).mem_iff]; simp
theorem srt_rises (l : List ByteArray) : (srt l).Pairwise fun (a b : Nat) => RK l (a : Int) (b : Int) := by
  have h1 : (srt l).Pairwise fun a b => leK l a b = true := List.pairwise_mergeSort (le := leK l) (fun a b c => by
    unfold leK
    simp only [Bool.or_eq_true, decide_eq_true_eq]
    rintro (h | rfl) (k | rfl)
    · exact .inl ((rk_tot l).tr _ _ _ h k)
    · exact .inl h
    · exact .inl k
    · exact .inr rfl) (fun a b => by
    unfold leK
    simp only [Bool.or_eq_true, decide_eq_true_eq]
    by_cases e : a = b
    · exact .inl (.inr e)
    · rcases (rk_tot l).to (a : Int) (b : Int) (by omega) with h | h
      · exact .inl (.inl h)
      · exact .inr (.inl h)) _
  have h2 : (srt l).Nodup := (srt_perm l).nodup_iff.2 List.nodup_range
  refine (h1.and h2).imp ?_
  rintro a b ⟨h, hne⟩
  unfold leK at h
  simp only [Bool.or_eq_true, decide_eq_true_eq] at h
  exact h.resolve_right hne
theorem blk_list {l : List ByteArray} {f : Nat → Int} (hf : Blk (RK l) (fun p => (p : Int)) f 0 l.length) : (List.range l.length).map f = (srt l).map fun n : Nat => (n : Int) := by
  refine one_order (rk_tot l) (N := l.length) (rises_list hf.2) ?_ (by simp) (by rw [List.length_map, srt_len]) ?_ ?_
  · rw [List.pairwise_map]; exact srt_rises l
  · intro x hx
    obtain ⟨j, hj, rfl⟩ := List.mem_map.1 hx
    obtain ⟨q, q1, q2, q3⟩ := hf.1 j (Nat.zero_le _) (List.mem_range.1 hj)
    simp only at q3
    omega
  · intro x hx
    obtain ⟨n, hn, rfl⟩ := List.mem_map.1 hx
    have := srt_mem.1 hn
    omega
/-- The program's places are those. -/
theorem blk_at {l : List ByteArray} {f : Nat → Int} (hf : Blk (RK l) (fun p => (p : Int)) f 0 l.length) {j : Nat} (hj : j < l.length) : f j = (((srt l).getD j 0 : Nat) : Int) := by
  have h := congrArg (·[j]?) (blk_list hf)
  simp only [List.getElem?_map, List.getElem?_range hj, Option.map_some] at h
  rw [List.getElem?_eq_getElem (by rw [srt_len]; exact hj)] at h
  rw [List.getD_eq_getElem?_getD, List.getElem?_eq_getElem (by rw [srt_len]; exact hj)]
  simpa using h
/-- The map of keys and trees that the program makes. -/
def mapT (ks : List ByteArray) (ts : List VT) : VT := .mk 6 0 ByteArray.empty ((srt ks).map (keyAt ks)) ((srt ks).map (kidT ts))
theorem kid_srt {ks : List ByteArray} {ts : List VT} {j : Nat} (hj : j < ks.length) : kidT ((srt ks).map (kidT ts)) j = kidT ts ((srt ks).getD j 0) := by
  have hl := srt_len ks
  unfold kidT
  rw [List.getD_eq_getElem?_getD, List.getElem?_map, List.getElem?_eq_getElem (by omega), List.getD_eq_getElem?_getD (l := srt ks), List.getElem?_eq_getElem (show j < (srt ks).length by omega)]
  rfl
theorem srt_lt {ks : List ByteArray} {j : Nat} (hj : j < ks.length) : (srt ks).getD j 0 < ks.length := by
  have hl := srt_len ks
  rw [List.getD_eq_getElem?_getD, List.getElem?_eq_getElem (show j < (srt ks).length by omega)]
  exact srt_mem.1 (List.getElem_mem _)
def listT (ts : List VT) : VT := .mk 5 0 ByteArray.empty [] ts
end Go.Proofs.YtiamkmkbkehldaaGreatDoor

/-
  Plain: rows of values as the program reads them, and as the specification does; that both say the same.
-/
namespace Go.Proofs.YtiamkmkbkehldaaGreatDoor
open Go.RowKit
set_option linter.unusedSimpArgs false
set_option linter.unusedVariables false

def textOf : VT → Option ByteArray
  | .mk kind _ s _ _ => if kind = 4 then some s else none
/-! ### The specification's rows -/
end Go.Proofs.YtiamkmkbkehldaaGreatDoor

/-
  Plain: rows read by the program and by the specification say the same, if the values in them do.
-/
namespace Go.Proofs.YtiamkmkbkehldaaGreatDoor
open Go.RowKit
set_option linter.unusedSimpArgs false
set_option linter.unusedVariables false

/-- A node among these is wrong by itself. -/
def Wrong (ns : List VN) : Prop := ∃ j, j < ns.length ∧ nodeB (nodeAt ns j) = false
/-- No right value has this tree so deep, behind so many nodes. -/
def Doom (f c deep : Nat) (t : VT) : Prop := ¬ goodT f t ∨ 80 < c + (layT f t 0).length ∨ 8 < deep + hiT f t
structure RelV (f deep : Nat) (R : Nat → Option (VT × Nat)) (S : Nat → Nat → Option (List VN × Nat × Nat)) : Prop where
  full : ∀ p t q, R p = some (t, q) → FullT f t
  yes : ∀ p c ns q d, c ≤ 80 → S p c = some (ns, q, d) → d = c + ns.length ∧ d ≤ 80 ∧ 1 ≤ ns.length ∧ ((∃ t, R p = some (t, q) ∧ ns = layT f t 0) ∨ (R p = none ∧ Wrong ns))
  no : ∀ p c, c ≤ 80 → S p c = none → R p = none ∨ ∃ t q, R p = some (t, q) ∧ Doom f c deep t
structure RelW (R : Nat → Option (VT × Nat)) (W : Nat → Option (ByteArray × Nat)) : Prop where
  yes : ∀ p s q, W p = some (s, q) → ∃ t, R p = some (t, q) ∧ textOf t = some s
  no : ∀ p, W p = none → R p = none ∨ ∃ t q, R p = some (t, q) ∧ (textOf t = none ∨ ∃ s, textOf t = some s ∧ textB s = false)

end Go.Proofs.YtiamkmkbkehldaaGreatDoor

/-
  Plain: bytes at a place as numbers and texts, as the program and the specification take them.
-/
namespace Go.Proofs.YtiamkmkbkehldaaGreatDoor
open Go.RowKit
set_option linter.unusedSimpArgs false
set_option linter.unusedVariables false

/-- The byte at a place. -/
def byAt (L : List UInt8) (p : Nat) : Nat := (L.getD p 0).toNat
theorem byAt_lt (L : List UInt8) (p : Nat) : byAt L p < 256 := (L.getD p 0).toNat_lt
def numT (n : Int) : VT := .mk 3 n ByteArray.empty [] []
def wordT (s : ByteArray) : VT := .mk 4 0 s [] []
def nullT : VT := .mk 1 0 ByteArray.empty [] []
def boolT (n : Int) : VT := .mk 2 n ByteArray.empty [] []
end Go.Proofs.YtiamkmkbkehldaaGreatDoor
