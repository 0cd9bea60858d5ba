/-
  The tables of the program's check of all nodes, in memory.
-/
import Derived.Test.YtgmnihofkpjboaaGreatDoorBack
import Derived.Test.YtgmnihofkpjboaaGreatDoorPhase
import Derived.Test.YtgmnihofkpjboaaGreatDoorTo
import Derived.Test.YtgmnihofkpjboaaGreatDoorSpc3
namespace Go.Proofs.YtgmnihofkpjboaaGreatDoor
open Go.RowKit Go.Shelf
set_option linter.unusedSimpArgs false
set_option linter.unusedVariables false

def rootK (K : Nat → List Int) (N : Nat) (D : Int) : Bool := match tr K (N - 1) with
  | some p => decide (p.1 = 0) && decide ((p.2 : Int) ≤ D)
  | none => false
def standB (K : Nat → List Int) (N : Nat) (D : Int) : Bool := ((List.range N).all fun i => (tr K i).isSome) && rootK K N D


/-- The tables, the variables that hold them and the answer, from block s on. -/
structure Tab (s N : Nat) (W : World) (f g : Nat → Int) (rv : Bool) : Prop where
  res : Boxed W s 4 (.bool rv)
  row1 : W.rowIs (s + 1) 2 N (fun j => .int .i64 (f j))
  box1 : Boxed W (s + 1 + 1) 33 (.slice (some ⟨s + 1, 0, none⟩) N N)
  row2 : W.rowIs (s + 1 + 1 + 1) 2 N (fun j => .int .i64 (g j))
  box2 : Boxed W (s + 1 + 1 + 1 + 1) 33 (.slice (some ⟨s + 1 + 1 + 1, 0, none⟩) N N)

theorem rowIs_kept {W W' : World} {b t n : Nat} {f : Nat → Value} {row : Option Nat} (h : W.rowIs b t n f) (hg : W.grownBy W' row) (hr : ∀ r, row = some r → ∃ o : Obj, W.heap[r]? = some o ∧ o.isCells = false) : W'.rowIs b t n f := by
  refine h.of_block (hg.block b h.lt fun e => ?_)
  obtain ⟨c, hb, _, _⟩ := h
  obtain ⟨o, ho, hc⟩ := hr b e.symm
  rw [hb] at ho
  cases ho
  cases hc

theorem boxed_kept {W W' : World} {b t : Nat} {v : Value} {row : Option Nat} (h : Boxed W b t v) (hg : W.grownBy W' row) (hr : ∀ r, row = some r → ∃ o : Obj, W.heap[r]? = some o ∧ o.isCells = false) : Boxed W' b t v := by
  refine h.kept hg fun e => ?_
  obtain ⟨o, ho, hc⟩ := hr b e.symm
  rw [show W.heap[b]? = _ from h] at ho
  cases ho
  cases hc

theorem Tab.kept {s N : Nat} {W W' : World} {f g : Nat → Int} {rv : Bool} {row : Option Nat} (h : Tab s N W f g rv) (hg : W.grownBy W' row) (hr : ∀ r, row = some r → ∃ o : Obj, W.heap[r]? = some o ∧ o.isCells = false) : Tab s N W' f g rv :=
  ⟨boxed_kept h.res hg hr, rowIs_kept h.row1 hg hr, boxed_kept h.box1 hg hr, rowIs_kept h.row2 hg hr, boxed_kept h.box2 hg hr⟩

theorem Tab.alloc {s N : Nat} {W : World} {f g : Nat → Int} {rv : Bool} (h : Tab s N W f g rv) (o : Obj) : Tab s N (W.alloc o) f g rv :=
  ⟨h.res.alloc o, h.row1.alloc o, h.box1.alloc o, h.row2.alloc o, h.box2.alloc o⟩

theorem ne_blk {b c o : Nat} (h : b ≠ c) : b ≠ (⟨c, o, none⟩ : Addr).block := h

theorem boxed_setOther {W : World} {b t : Nat} {v : Value} (h : Boxed W b t v) {a : Addr} (hne : b ≠ a.block) (u : Value) : Boxed (W.setCell a u) b t v :=
  (Below.heap_setCell W a u b hne).trans h

theorem Tab.setH {s N : Nat} {W : World} {f g : Nat → Int} {rv : Bool} (h : Tab s N W f g rv) (k : Nat) (x : Int) : Tab s N (W.setCell ⟨s + 1 + 1 + 1, k, none⟩ (.int .i64 x)) f (fun j => if j = k then x else g j) rv :=
  ⟨boxed_setOther h.res (ne_blk (by omega)) _, h.row1.setOther (ne_blk (by omega)) _, boxed_setOther h.box1 (ne_blk (by omega)) _, (h.row2.set k _).congr (fun j _ => by by_cases e : j = k <;> simp [e]), boxed_setOther h.box2 (ne_blk (by omega)) _⟩

theorem Tab.setF {s N : Nat} {W : World} {f g : Nat → Int} {rv : Bool} (h : Tab s N W f g rv) (k : Nat) (x : Int) : Tab s N (W.setCell ⟨s + 1, k, none⟩ (.int .i64 x)) (fun j => if j = k then x else f j) g rv :=
  ⟨boxed_setOther h.res (ne_blk (by omega)) _, (h.row1.set k _).congr (fun j _ => by by_cases e : j = k <;> simp [e]), boxed_setOther h.box1 (ne_blk (by omega)) _, h.row2.setOther (ne_blk (by omega)) _, boxed_setOther h.box2 (ne_blk (by omega)) _⟩

theorem Tab.setRes {s N : Nat} {W : World} {f g : Nat → Int} {rv : Bool} (h : Tab s N W f g rv) (x : Bool) : Tab s N (W.setCell ⟨s, 0, none⟩ (.bool x)) f g x :=
  ⟨h.res.set _, h.row1.setOther (ne_blk (by omega)) _, boxed_setOther h.box1 (ne_blk (by omega)) _, h.row2.setOther (ne_blk (by omega)) _, boxed_setOther h.box2 (ne_blk (by omega)) _⟩

theorem Tab.other {s N : Nat} {W : World} {f g : Nat → Int} {rv : Bool} (h : Tab s N W f g rv) {a : Addr} (ha : s + 1 + 1 + 1 + 1 < a.block) (u : Value) : Tab s N (W.setCell a u) f g rv :=
  ⟨boxed_setOther h.res (by omega) _, h.row1.setOther (by omega) _, boxed_setOther h.box1 (by omega) _, h.row2.setOther (by omega) _, boxed_setOther h.box2 (by omega) _⟩

theorem Tab.congr {s N : Nat} {W : World} {f g f' g' : Nat → Int} {rv : Bool} (h : Tab s N W f g rv) (e1 : ∀ j, j < N → f j = f' j) (e2 : ∀ j, j < N → g j = g' j) : Tab s N W f' g' rv :=
  ⟨h.res, h.row1.congr (fun j hj => by rw [e1 j hj]), h.box1, h.row2.congr (fun j hj => by rw [e2 j hj]), h.box2⟩

theorem Tab.drew {s N : Nat} {W : World} {f g : Nat → Int} {rv : Bool} (h : Tab s N W f g rv) : Tab s N W.drew f g rv := ⟨h.res, h.row1, h.box1, h.row2, h.box2⟩

/-- Blocks in which the rounds' deferred calls would be collected: there are none. -/
def Marks (W : World) (lo : Nat) (Ds : List Nat) : Prop := Ds.Nodup ∧ ∀ D ∈ Ds, lo ≤ D ∧ W.heap[D]? = some (.deferred (some []))

theorem Marks.keeps {W W' : World} {lo : Nat} {Ds : List Nat} (h : Marks W lo Ds) (k : KeepsOthers W W') : Marks W' lo Ds :=
  ⟨h.1, fun D hD => ⟨(h.2 D hD).1, k.same D _ (h.2 D hD).2 rfl⟩⟩

def mark (D : Nat) : Deferred := { target := .collected D, args := #[] }

theorem leaves_marks {F : Fence} {n : Nat} {P : Program} {fn : Func} {tmps : Array Value} {R : Ending → World → Prop} (lo : Nat) : ∀ (Ds : List Nat) (W : World), Marks W lo Ds →
    (∀ W', Below lo W W' → (∀ b, (∀ D ∈ Ds, b ≠ D) → W'.heap[b]? = W.heap[b]?) → LeavesIn F n P fn tmps R [] .returning W') → LeavesInM F n P fn tmps R (Ds.map mark) .returning W := by
  intro Ds
  induction Ds with
  | nil => intro W _ h; exact h W (Below.refl _ _) (fun _ _ => rfl)
  | cons D Ds ih =>
    intro W hm h
    have hD := hm.2 D (by simp)
    have hnd := List.nodup_cons.1 hm.1
    refine ⟨by simp, .inl ⟨D, W.putObj D (.deferred none), rfl, run_takeDeferred hD.2, ?_⟩⟩
    have hb : Below lo W (W.putObj D (.deferred none)) := by
      refine ⟨rfl, rfl, rfl, by simp [World.putObj], fun k hk => World.putObj_heap_other (by omega)⟩
    refine ih _ ⟨hnd.2, fun D' hD' => ⟨(hm.2 D' (by simp [hD'])).1, ?_⟩⟩ ?_
    · rw [World.putObj_heap_other (fun e => hnd.1 (by rw [← e]; exact hD'))]
      exact (hm.2 D' (by simp [hD'])).2
    · intro W' hb' hsame
      refine h W' (hb.trans hb') fun b hbne => ?_
      rw [hsame b (fun D' hD' => hbne D' (by simp [hD'])), World.putObj_heap_other (hbne D (by simp))]

def fRow (K : Nat → List Int) (k j : Nat) : Int := if j < k then trF (tr K j) else 0
def hRow (K : Nat → List Int) (k j : Nat) : Int := if j < k then trD (tr K j) else 0

/-- What the kids that came say of where the node's tree begins and how deep it is. -/
def came (K : Nat → List Int) (k : Nat) (pre : List (Nat × Int)) : Option (Nat × Nat) := (pre.map Prod.snd).foldl (stepKid (tr K)) (some (k, 0))

/-- Between two kids. -/
def KidI (K : Nat → List Int) (N s sw k : Nat) (w : World) (Ds : List Nat) (pre : List (Nat × Int)) (W : World) : Prop :=
  ∃ b h : Nat, came K k pre = some (b, h) ∧ b ≤ k ∧ h ≤ k ∧ Tab s N W (fRow K k) (fun j => if j = k then (h : Int) + 1 else hRow K k j) false ∧ Boxed W sw 3 (.int .i64 k) ∧ Boxed W (sw + 1) 2 (.int .i64 b) ∧ Below s w W ∧ Marks W s Ds
/-- A kid does not stand. -/
def KidX (K : Nat → List Int) (N s sw k : Nat) (w : World) (Ds : List Nat) (c : Code) (pre : List (Nat × Int)) (W : World) : Prop :=
  c = .ret ∧ came K k pre = none ∧ Boxed W s 4 (.bool false) ∧ Below s w W ∧ Marks W s Ds

theorem came_all {K : Nat → List Int} {k b h : Nat} {xs : List (Nat × Int)} (hx : xs.map Prod.snd = (K k).reverse) (hc : came K k xs = some (b, h)) : tr K k = some (b, h + 1) := by
  unfold came at hc
  rw [hx] at hc
  rw [tr_eq, hc]
  rfl

theorem came_none {K : Nat → List Int} {k : Nat} {pre : List (Nat × Int)} (hx : ∃ q, (K k).reverse = pre.map Prod.snd ++ q) (hc : came K k pre = none) : tr K k = none := by
  obtain ⟨q, hq⟩ := hx
  unfold came at hc
  rw [tr_eq, hq, List.foldl_append, hc, fold_none]
  rfl

theorem standB_none {K : Nat → List Int} {k N : Nat} {D : Int} (hk : k < N) (h : tr K k = none) : standB K N D = false := by
  unfold standB
  rw [show ((List.range N).all fun i => (tr K i).isSome) = false from ?_, Bool.false_and]
  rw [List.all_eq_false]
  exact ⟨k, List.mem_range.2 hk, by simp [h]⟩

theorem standB_all {K : Nat → List Int} {N : Nat} {D : Int} (h : ∀ j, j < N → (tr K j).isSome = true) : standB K N D = rootK K N D := by
  unfold standB
  rw [show ((List.range N).all fun i => (tr K i).isSome) = true from ?_, Bool.true_and]
  rw [List.all_eq_true]
  exact fun j hj => h j (List.mem_range.1 hj)

theorem came_snoc {K : Nat → List Int} {k : Nat} {pre : List (Nat × Int)} {x : Nat × Int} : came K k (pre ++ [x]) = stepKid (tr K) (came K k pre) x.2 := by
  unfold came
  rw [List.map_append, List.foldl_append]
  rfl

theorem fRow_step {K : Nat → List Int} {k b h : Nat} (ht : tr K k = some (b, h)) (j : Nat) : (if j = k then (b : Int) else fRow K k j) = fRow K (k + 1) j := by
  unfold fRow
  by_cases e : j = k
  · subst e; rw [if_pos rfl, if_pos (by omega), ht]; rfl
  · rw [if_neg e]; by_cases g : j < k
    · rw [if_pos g, if_pos (by omega)]
    · rw [if_neg g, if_neg (by omega)]

theorem hRow_step {K : Nat → List Int} {k b h : Nat} (ht : tr K k = some (b, h + 1)) (j : Nat) : (if j = k then (h : Int) + 1 else hRow K k j) = hRow K (k + 1) j := by
  unfold hRow
  by_cases e : j = k
  · subst e; rw [if_pos rfl, if_pos (by omega), ht]; simp [trD]
  · rw [if_neg e]; by_cases g : j < k
    · rw [if_pos g, if_pos (by omega)]
    · rw [if_neg g, if_neg (by omega)]

theorem marks_cons {W : World} {lo D B : Nat} {Ds : List Nat} (h : Marks W lo Ds) (hlt : ∀ E ∈ Ds, E < B) (hD : B ≤ D) (hlo : lo ≤ D) (hK : W.heap[D]? = some (.deferred (some []))) : Marks W lo (D :: Ds) := by
  refine ⟨List.nodup_cons.2 ⟨fun hm => by have := hlt D hm; omega, h.1⟩, fun E hE => ?_⟩
  rcases List.mem_cons.1 hE with rfl | hE
  · exact ⟨hlo, hK⟩
  · exact h.2 E hE

theorem boxed_ne_mark {W : World} {lo b t : Nat} {v : Value} {Ds : List Nat} (hb : Boxed W b t v) (h : Marks W lo Ds) : ∀ D ∈ Ds, b ≠ D := by
  intro D hD e
  subst e
  have := (h.2 b hD).2
  rw [show W.heap[b]? = _ from hb] at this
  cases this

theorem marks_own {s B : Nat} {W W' : World} {Ds : List Nat} {row : Option Nat} (h : Marks W s Ds) (hlt : ∀ D ∈ Ds, D < B) (hg : W.grownBy W' row) (hr : ∀ r, row = some r → B ≤ r ∧ ∃ o : Obj, W.heap[r]? = some o ∧ o.isCells = false) : Marks W' s Ds :=
  ⟨h.1, fun D hD => ⟨(h.2 D hD).1, (hg.block D (Array.getElem?_eq_some_iff.1 (h.2 D hD).2).1 (fun e => by have := (hr D e.symm).1; have := hlt D hD; omega)).trans (h.2 D hD).2⟩⟩

theorem kidI_own {K : Nat → List Int} {N s sw k B : Nat} {w : World} {Ds : List Nat} (hlt : ∀ D ∈ Ds, D < B) (hs : s ≤ B) : OwnFrom B (KidI K N s sw k w Ds) := by
  rintro pre X Y row ⟨b, h, h1, h2, h3, h4, h5, h6, h7, h8⟩ hg hr
  have hr' : ∀ r, row = some r → ∃ o : Obj, X.heap[r]? = some o ∧ o.isCells = false := fun r e => (hr r e).2
  refine ⟨b, h, h1, h2, h3, h4.kept hg hr', boxed_kept h5 hg hr', boxed_kept h6 hg hr', h7.grown hg ?_ (fun r e => by have := (hr r e).1; omega), marks_own h8 hlt hg hr⟩
  have := h4.res.lt; omega

theorem kidX_own {K : Nat → List Int} {N s sw k B : Nat} {w : World} {Ds : List Nat} (hlt : ∀ D ∈ Ds, D < B) (hs : s ≤ B) (c : Code) : OwnFrom B (KidX K N s sw k w Ds c) := by
  rintro pre X Y row ⟨h1, h2, h3, h7, h8⟩ hg hr
  have hr' : ∀ r, row = some r → ∃ o : Obj, X.heap[r]? = some o ∧ o.isCells = false := fun r e => (hr r e).2
  refine ⟨h1, h2, boxed_kept h3 hg hr', h7.grown hg ?_ (fun r e => by have := (hr r e).1; omega), marks_own h8 hlt hg hr⟩
  have := h3.lt; omega

end Go.Proofs.YtgmnihofkpjboaaGreatDoor
