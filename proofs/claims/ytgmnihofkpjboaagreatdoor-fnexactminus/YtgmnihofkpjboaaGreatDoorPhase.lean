/-
  A statement whose order is open, within a round of a range over a function: its first N operations only read, each into a slot of its own, and two operations follow when all of them have come up. In whatever order they come up, the slots hold the same.
-/
import Derived.WalkKit
import Derived.OrdersIn
import Derived.RangeFuncCalls
namespace Go.Proofs.YtgmnihofkpjboaaGreatDoor
open Go.RowKit
set_option linter.unusedSimpArgs false
set_option linter.unusedVariables false

theorem mem_ready {ops : Array Oper} {L : Array Bool} {i : Nat} (h : i ∈ Region.ready .any ops L) :
    i < ops.size ∧ L.getD i true = false ∧ ∀ o, ops[i]? = some o → ∀ e ∈ o.after, Region.binds .any e = true → L.getD e.on false = true := by
  unfold Region.ready at h
  rw [List.mem_filter, List.mem_range] at h
  obtain ⟨h1, h2⟩ := h
  rw [Bool.and_eq_true] at h2
  obtain ⟨h2, h3⟩ := h2
  refine ⟨h1, by simpa using h2, fun o ho e he hb => ?_⟩
  rw [ho] at h3
  simp only [Option.map_some, Option.getD_some, Array.all_eq_true_iff_forall_mem] at h3
  have := h3 e he
  rw [hb] at this
  simpa using this

theorem ready_mem {ops : Array Oper} {L : Array Bool} {i : Nat} {o : Oper} (h1 : L.getD i true = false) (ho : ops[i]? = some o) (h : ∀ e ∈ o.after, L.getD e.on false = true) : i ∈ Region.ready .any ops L := by
  unfold Region.ready
  rw [List.mem_filter, List.mem_range]
  refine ⟨(Array.getElem?_eq_some_iff.1 ho).1, ?_⟩
  rw [Bool.and_eq_true, ho]
  refine ⟨by simp [h1], ?_⟩
  simp only [Option.map_some, Option.getD_some, Array.all_eq_true_iff_forall_mem]
  intro e he
  simp [h e he]

def fill (s0 N : Nat) (val : Nat → Value) (L : Array Bool) (a : Act) : Act :=
  { a with tmps := a.tmps.mapIdx fun t v => if s0 ≤ t ∧ t < s0 + N ∧ L.getD (t - s0) false = true then val (t - s0) else v }

theorem fill_put {s0 N : Nat} {val : Nat → Value} {L : Array Bool} {a : Act} {i : Nat} (hi : i < N) (hL : i < L.size) :
    (fill s0 N val L a).put (some (s0 + i)) (val i) = fill s0 N val (L.setIfInBounds i true) a := by
  unfold fill Act.put
  simp only [Act.mk.injEq, and_true]
  apply Array.ext_getElem?
  intro t
  rw [Array.getElem?_setIfInBounds]
  by_cases e : s0 + i = t
  · subst e
    by_cases hb : s0 + i < a.tmps.size
    · simp [hb, hi, Array.getD, hL]
    · simp [hb]
  · rw [if_neg e]
    simp only [Array.getElem?_mapIdx]
    congr 1
    funext v
    by_cases h : s0 ≤ t ∧ t < s0 + N
    · have : (L.setIfInBounds i true).getD (t - s0) false = L.getD (t - s0) false := by
        simp only [Array.getD_eq_getD_getElem?, Array.getElem?_setIfInBounds]
        rw [if_neg (by omega)]
      simp only [this]
    · rw [if_neg (by omega), if_neg (by omega)]

theorem fill_in {s0 N : Nat} {val : Nat → Value} {L : Array Bool} {a : Act} {t : Nat} (h1 : s0 ≤ t) (h2 : t < s0 + N) (h3 : t < a.tmps.size) (hl : L.getD (t - s0) false = true) :
    (fill s0 N val L a).eval (.tmp t) = val (t - s0) := by
  simp only [fill, Act.eval, Array.getD_eq_getD_getElem?, Array.getElem?_mapIdx]
  rw [Array.getElem?_eq_getElem h3]
  simp only [Option.map_some, Option.getD_some]
  rw [if_pos ⟨h1, h2, by simpa [Array.getD_eq_getD_getElem?] using hl⟩]

theorem fill_out {s0 N : Nat} {val : Nat → Value} {L : Array Bool} {a : Act} {t : Nat} (h : t < s0) : (fill s0 N val L a).eval (.tmp t) = a.eval (.tmp t) := by
  simp only [fill, Act.eval, Array.getD_eq_getD_getElem?, Array.getElem?_mapIdx]
  congr 1
  cases a.tmps[t]? with
  | none => rfl
  | some v => simp only [Option.map_some]; rw [if_neg (by omega)]

theorem fill_none {s0 N : Nat} {val : Nat → Value} {L : Array Bool} {a : Act} (h : ∀ j, j < N → L.getD j false = false) : fill s0 N val L a = a := by
  unfold fill
  cases a with
  | mk tmps defers =>
    simp only [Act.mk.injEq, and_true]
    apply Array.ext_getElem?
    intro t
    rw [Array.getElem?_mapIdx]
    cases tmps[t]? with
    | none => rfl
    | some v =>
      simp only [Option.map_some]
      by_cases g : s0 ≤ t ∧ t < s0 + N
      · rw [if_neg (fun e => by rw [h _ (by omega)] at e; cases e.2.2)]
      · rw [if_neg (fun e => g ⟨e.1, e.2.1⟩)]

def left (N : Nat) (L : Array Bool) : Nat := ((List.range N).filter fun i => !L.getD i false).length

theorem left_lt {N i : Nat} {L : Array Bool} (hi : i < N) (hL : i < L.size) (h : L.getD i false = false) : left N (L.setIfInBounds i true) < left N L := by
  unfold left
  have e : (List.range N).filter (fun j => !(L.setIfInBounds i true).getD j false) = ((List.range N).filter fun j => !L.getD j false).filter (fun j => decide (j ≠ i)) := by
    rw [List.filter_filter]
    apply List.filter_congr
    intro j _
    simp only [Array.getD_eq_getD_getElem?, Array.getElem?_setIfInBounds]
    by_cases e : i = j
    · subst e; simp [hL]
    · rw [if_neg e]
      have : decide (j ≠ i) = true := by simp; omega
      rw [this, Bool.true_and]
  rw [e]
  apply List.length_filter_lt_length_iff_exists.2
  exact ⟨i, by rw [List.mem_filter]; exact ⟨List.mem_range.2 hi, by simp [h]⟩, by simp⟩

theorem getD_true_false {L : Array Bool} {i : Nat} (h : i < L.size) : L.getD i true = L.getD i false := by simp [Array.getD, h]

/-- The least of the first N that has not come up. -/
theorem least {N : Nat} {L : Array Bool} : ∀ m, m ≤ N → (∀ j, j < m → L.getD j false = true) ∨ ∃ i, i < m ∧ L.getD i false = false ∧ ∀ j, j < i → L.getD j false = true := by
  intro m
  induction m with
  | zero => intro _; left; intro j h; omega
  | succ m ih =>
    intro hm
    rcases ih (by omega) with h | ⟨i, h1, h2, h3⟩
    · cases hl : L.getD m false with
      | true => left; intro j hj; by_cases e : j = m
                · subst e; exact hl
                · exact h j (by omega)
      | false => right; exact ⟨m, by omega, hl, h⟩
    · right; exact ⟨i, by omega, h2, h3⟩

theorem phase {F : Fence} {n : Nat} {P : Program} {ops : Array Oper} {Q : Exit → Act → World → Prop} {s0 N : Nat} {val : Nat → Value} {a : Act} {W : World} (hsz : ops.size = N + 2)
    (hd : ∀ i, i < N → ∃ o, ops[i]? = some o ∧ o.dst = some (s0 + i) ∧ o.guard = none ∧ (∀ c, o.op ≠ .defer c) ∧ (∀ e ∈ o.after, e.on < i ∧ Region.binds .any e = true) ∧
      ∀ L : Array Bool, (∀ e ∈ o.after, L.getD e.on false = true) → (execOp (fill s0 N val L a).eval o).run P W = .ok (.value (val i)) W ∧ o.about P W (fill s0 N val L a).eval = none)
    (hN : ∃ o, ops[N]? = some o ∧ (∀ e ∈ o.after, e.on < N) ∧ ∀ j, j < N → ∃ e ∈ o.after, e.on = j ∧ Region.binds .any e = true)
    (hN1 : ∃ o, ops[N + 1]? = some o ∧ ∃ e ∈ o.after, e.on = N ∧ Region.binds .any e = true)
    (tail : ∀ fuel (L : Array Bool), L.size = N + 2 → (∀ j, j < N → L.getD j false = true) → L.getD N true = false → L.getD (N + 1) true = false → wpOpIn F n P ops Q N (wpAnyIn F n P .any ops Q (fuel + 1) (L.setIfInBounds N true)) (fill s0 N val L a) W) :
    ∀ fuel (L : Array Bool), L.size = N + 2 → L.getD N true = false → L.getD (N + 1) true = false → left N L + 2 ≤ fuel → wpAnyIn F n P .any ops Q fuel L (fill s0 N val L a) W := by
  intro fuel
  induction fuel with
  | zero => intro L _ _ _ h; omega
  | succ fuel ih =>
    intro L hL h0 h1 hf
    rw [wpAnyIn]
    constructor
    · intro hr
      exfalso
      rcases least (L := L) (N := N) N (Nat.le_refl _) with hall | ⟨i, hi, hl, hlt⟩
      · obtain ⟨o, ho, ha, _⟩ := hN
        have := ready_mem (L := L) h0 ho (fun e he => hall _ (ha e he))
        rw [hr] at this
        cases this
      · obtain ⟨o, ho, _, _, _, ha, _⟩ := hd i hi
        have := ready_mem (L := L) (by rw [getD_true_false (by omega)]; exact hl) ho (fun e he => hlt _ (ha e he).1)
        rw [hr] at this
        cases this
    · intro i hi
      obtain ⟨hsi, hli, hdeps⟩ := mem_ready hi
      by_cases hiN : i < N
      · obtain ⟨o, ho, hdst, hg, hdf, ha, hrun⟩ := hd i hiN
        have hall : ∀ e ∈ o.after, L.getD e.on false = true := fun e he => hdeps o ho e he (ha e he).2
        obtain ⟨hx, hab⟩ := hrun L hall
        unfold wpOpIn
        rw [ho]
        simp only
        rw [show Region.wanted o (yielded ops (fill s0 N val L a).tmps) = true by unfold Region.wanted; rw [hg]]
        simp only [if_true]
        unfold Oper.wpIn
        rw [Oper.semAt_eq _ _ _ hdf, hx, Oper.uponIn_value, hdst, fill_put hiN (by omega)]
        refine ⟨fun f hf => (by rw [hab] at hf; cases hf), ?_⟩
        have hl : L.getD i false = false := by rw [← getD_true_false (by omega)]; exact hli
        have hlt := left_lt hiN (by omega : i < L.size) hl
        refine ih (L.setIfInBounds i true) (by simpa using hL) ?_ ?_ (by omega)
        · simp only [Array.getD_eq_getD_getElem?, Array.getElem?_setIfInBounds]
          rw [if_neg (by omega)]
          simpa [Array.getD_eq_getD_getElem?] using h0
        · simp only [Array.getD_eq_getD_getElem?, Array.getElem?_setIfInBounds]
          rw [if_neg (by omega)]
          simpa [Array.getD_eq_getD_getElem?] using h1
      · by_cases hiE : i = N
        · subst hiE
          obtain ⟨o, ho, ha, hall⟩ := hN
          obtain ⟨m, rfl⟩ : ∃ m, fuel = m + 1 := ⟨fuel - 1, by omega⟩
          refine tail m L hL (fun j hj => ?_) h0 h1
          obtain ⟨e, he, rfl, hb⟩ := hall j hj
          exact hdeps o ho e he hb
        · exfalso
          obtain rfl : i = N + 1 := by omega
          obtain ⟨o, ho, e, he, he2, hb⟩ := hN1
          have := hdeps o ho e he hb
          rw [he2, ← getD_true_false (by omega), h0] at this
          cases this

/-- The whole statement: reads, an address, a store. -/
theorem phase_store {F : Fence} {n : Nat} {P : Program} {ops : Array Oper} {Q : Exit → Act → World → Prop} {s0 N : Nat} {val : Nat → Value} {vN : Value} {a : Act} {W W' : World} (hsz : ops.size = N + 2) (hta : s0 + N < a.tmps.size)
    (hd : ∀ i, i < N → ∃ o, ops[i]? = some o ∧ o.dst = some (s0 + i) ∧ o.guard = none ∧ (∀ c, o.op ≠ .defer c) ∧ (∀ e ∈ o.after, e.on < i ∧ Region.binds .any e = true) ∧
      ∀ ρ : Operand → Value, (∀ e ∈ o.after, ρ (.tmp (s0 + e.on)) = val e.on) → (∀ t, t < s0 → ρ (.tmp t) = a.eval (.tmp t)) → (∀ v, ρ (.const v) = v) → (execOp ρ o).run P W = .ok (.value (val i)) W ∧ o.about P W ρ = none)
    (hN : ∃ o, ops[N]? = some o ∧ o.dst = some (s0 + N) ∧ o.guard = none ∧ (∀ c, o.op ≠ .defer c) ∧ (∀ e ∈ o.after, e.on < N) ∧ (∀ j, j < N → ∃ e ∈ o.after, e.on = j ∧ Region.binds .any e = true) ∧
      ∀ ρ : Operand → Value, (∀ i, i < N → ρ (.tmp (s0 + i)) = val i) → (∀ t, t < s0 → ρ (.tmp t) = a.eval (.tmp t)) → (execOp ρ o).run P W = .ok (.value vN) W ∧ o.about P W ρ = none)
    (hN1 : ∃ o, ops[N + 1]? = some o ∧ o.dst = none ∧ o.guard = none ∧ (∀ c, o.op ≠ .defer c) ∧ (∀ e ∈ o.after, e.on ≤ N) ∧ (∃ e ∈ o.after, e.on = N ∧ Region.binds .any e = true) ∧
      ∀ ρ : Operand → Value, (∀ i, i < N → ρ (.tmp (s0 + i)) = val i) → ρ (.tmp (s0 + N)) = vN → (∀ t, t < s0 → ρ (.tmp t) = a.eval (.tmp t)) → (execOp ρ o).run P W = .ok .skip W' ∧ o.about P W ρ = none)
    (hQ : ∀ a', Q .normal a' W') : wpAnyIn F n P .any ops Q ops.size (Array.replicate ops.size false) a W := by
  have key := phase (F := F) (n := n) (P := P) (ops := ops) (Q := Q) (s0 := s0) (N := N) (val := val) (a := a) (W := W) hsz ?hd' ?hN' ?hN1' ?tail ops.size (Array.replicate ops.size false) (by simp [hsz]) (by simp [Array.getD, hsz]) (by simp [Array.getD, hsz]) ?cnt
  · rw [fill_none (fun j hj => by simp [Array.getD])] at key
    exact key
  case hd' =>
    intro i hi
    obtain ⟨o, h1, h2, h3, h4, h5, h6⟩ := hd i hi
    refine ⟨o, h1, h2, h3, h4, h5, fun L hL => h6 _ (fun e he => ?_) (fun t ht => fill_out ht) (fun v => rfl)⟩
    have := (h5 e he).1
    rw [fill_in (by omega) (by omega) (by omega) (by rw [show s0 + e.on - s0 = e.on by omega]; exact hL e he), show s0 + e.on - s0 = e.on by omega]
  case hN' =>
    obtain ⟨o, h1, _, _, _, h5, h6, _⟩ := hN
    exact ⟨o, h1, h5, h6⟩
  case hN1' =>
    obtain ⟨o, h1, _, _, _, _, h6, _⟩ := hN1
    exact ⟨o, h1, h6⟩
  case cnt =>
    unfold left
    have := List.length_filter_le (fun i => !(Array.replicate ops.size false).getD i false) (List.range N)
    rw [List.length_range] at this
    omega
  case tail =>
    intro fuel L hL hall h0 h1
    have hev : ∀ i, i < N → (fill s0 N val L a).eval (.tmp (s0 + i)) = val i := fun i hi => by
      rw [fill_in (by omega) (by omega) (by omega) (by rw [show s0 + i - s0 = i by omega]; exact hall i hi), show s0 + i - s0 = i by omega]
    have hlo : ∀ t, t < s0 → (fill s0 N val L a).eval (.tmp t) = a.eval (.tmp t) := fun t ht => fill_out ht
    obtain ⟨o, g1, g2, g3, g4, g5, g6, g7⟩ := hN
    obtain ⟨r1, r2⟩ := g7 _ hev hlo
    unfold wpOpIn
    rw [g1]
    simp only
    rw [show Region.wanted o (yielded ops (fill s0 N val L a).tmps) = true by unfold Region.wanted; rw [g3]]
    simp only [if_true]
    unfold Oper.wpIn
    rw [Oper.semAt_eq _ _ _ g4, r1, Oper.uponIn_value, g2]
    refine ⟨fun f hf => (by rw [r2] at hf; cases hf), ?_⟩
    have hfs : (fill s0 N val L a).tmps.size = a.tmps.size := by simp [fill]
    have hev' : ∀ i, i < N → ((fill s0 N val L a).put (some (s0 + N)) vN).eval (.tmp (s0 + i)) = val i := fun i hi => by
      rw [← hev i hi]
      simp only [Act.put, Act.eval, Array.getD_eq_getD_getElem?, Array.getElem?_setIfInBounds]
      rw [if_neg (by omega)]
    have hevN : ((fill s0 N val L a).put (some (s0 + N)) vN).eval (.tmp (s0 + N)) = vN := by
      simp only [Act.put, Act.eval, Array.getD_eq_getD_getElem?, Array.getElem?_setIfInBounds]
      rw [if_pos trivial, if_pos (by omega)]
      rfl
    have hlo' : ∀ t, t < s0 → ((fill s0 N val L a).put (some (s0 + N)) vN).eval (.tmp t) = a.eval (.tmp t) := fun t ht => by
      rw [← hlo t ht]
      simp only [Act.put, Act.eval, Array.getD_eq_getD_getElem?, Array.getElem?_setIfInBounds]
      rw [if_neg (by omega)]
    generalize (fill s0 N val L a).put (some (s0 + N)) vN = a2 at *
    obtain ⟨o', k1, k2, k3, k4, k5, k6, k7⟩ := hN1
    obtain ⟨q1, q2⟩ := k7 _ hev' hevN hlo'
    have hL2 : ∀ j, j ≤ N → (L.setIfInBounds N true).getD j false = true := fun j hj => by
      simp only [Array.getD_eq_getD_getElem?, Array.getElem?_setIfInBounds]
      by_cases e : N = j
      · rw [if_pos e, if_pos (by omega)]; rfl
      · rw [if_neg e]
        have := hall j (by omega)
        rw [Array.getD_eq_getD_getElem?] at this
        exact this
    have hL1 : (L.setIfInBounds N true).getD (N + 1) true = false := by
      simp only [Array.getD_eq_getD_getElem?, Array.getElem?_setIfInBounds]
      rw [if_neg (by omega)]
      rw [Array.getD_eq_getD_getElem?] at h1
      exact h1
    have hs2 : (L.setIfInBounds N true).size = N + 2 := by simpa using hL
    generalize L.setIfInBounds N true = L2 at *
    rw [wpAnyIn]
    refine ⟨fun hr => ?_, fun i hi => ?_⟩
    · exfalso
      have := ready_mem (L := L2) hL1 k1 (fun e he => hL2 _ (k5 e he))
      rw [hr] at this
      cases this
    · obtain ⟨m1, m2, _⟩ := mem_ready hi
      obtain rfl : i = N + 1 := by
        by_cases e : i ≤ N
        · have := hL2 i e
          rw [← getD_true_false (by omega), m2] at this
          cases this
        · omega
      unfold wpOpIn
      rw [k1]
      simp only
      rw [show Region.wanted o' (yielded ops a2.tmps) = true by unfold Region.wanted; rw [k3]]
      simp only [if_true]
      unfold Oper.wpIn
      rw [Oper.semAt_eq _ _ _ k4, q1, Oper.uponIn_skip]
      refine ⟨fun f hf => (by rw [q2] at hf; cases hf), ?_⟩
      refine wpAnyIn_done ?_ (hQ _) _
      apply List.eq_nil_iff_forall_not_mem.2
      intro i hi
      obtain ⟨m1, m2, _⟩ := mem_ready hi
      have : (L2.setIfInBounds (N + 1) true).getD i true = true := by
        simp only [Array.getD_eq_getD_getElem?, Array.getElem?_setIfInBounds]
        by_cases e : N + 1 = i
        · rw [if_pos e, if_pos (by omega)]; rfl
        · rw [if_neg e]
          have h3 := hL2 i (by omega)
          rw [← getD_true_false (by omega), Array.getD_eq_getD_getElem?] at h3
          exact h3
      rw [this] at m2
      cases m2
end Go.Proofs.YtgmnihofkpjboaaGreatDoor
