/-
  Plain: what is read as JSON has no more nodes than bytes, and each node fits.
-/
import Derived.Test.YtagcgnhpdmhegaaGreatDoorJrV
import Derived.Test.YtagcgnhpdmhegaaGreatDoorRdF
import Derived.Test.YtagcgnhpdmhegaaGreatDoorJrS
import Derived.Test.YtagcgnhpdmhegaaGreatDoorRdT
namespace Go.Proofs.YtagcgnhpdmhegaaGreatDoor
open Go.RowKit
set_option linter.unusedSimpArgs false
set_option linter.unusedVariables false

theorem itemsJ_ok {f : Nat} {L : List UInt8} {R : Nat → Option (VT × Nat)} (H : RdOk f L R) : ∀ {k p : Nat} {l : List VT} {q : Nat}, itemsJ L R k p = some (l, q) → p + l.length < q ∧ q ≤ L.length ∧ sumL (fun i => layT f (kidT l i) 0) l.length < q - p ∧ ∀ i, i < l.length → FitT f (kidT l i) := by
  intro k
  induction k with
  | zero => intro p l q h; cases h
  | succ k ih =>
    intro p l q h
    rw [itemsJ] at h
    cases e : R p with
    | none => simp [e] at h
    | some x =>
      obtain ⟨t, z⟩ := x
      simp only [e] at h
      obtain ⟨a1, a2, a3, a4, _⟩ := H _ _ _ e
      split at h
      · rename_i hend
        have hz := (isAt_yes.1 hend).1
        simp only [Option.some.injEq, Prod.mk.injEq] at h
        obtain ⟨rfl, rfl⟩ := h
        refine ⟨by simp; omega, by omega, ?_, fun i hi => ?_⟩
        · have hs : sumL (fun i => layT f (kidT [t] i) 0) (0 + 1) = (layT f t 0).length + sumL (fun i => layT f (kidT [] i) 0) 0 := sumL_cons _ _
          show sumL (fun i => layT f (kidT [t] i) 0) (0 + 1) < _
          rw [hs]; simp [sumL]; omega
        · obtain rfl : i = 0 := by simpa using hi
          exact a4
      · split at h
        · cases e2 : itemsJ L R k (z + 1) with
          | none => simp [e2] at h
          | some y =>
            obtain ⟨m, z2⟩ := y
            simp only [e2, Option.some.injEq, Prod.mk.injEq] at h
            obtain ⟨rfl, rfl⟩ := h
            obtain ⟨b1, b2, b3, b4⟩ := ih e2
            have hs : sumL (fun i => layT f (kidT (t :: m) i) 0) (m.length + 1) = (layT f t 0).length + sumL (fun i => layT f (kidT m i) 0) m.length := sumL_cons _ _
            refine ⟨by simp; omega, b2, by rw [List.length_cons, hs]; omega, fun i hi => ?_⟩
            cases i with
            | zero => exact a4
            | succ i => exact b4 i (by simpa using hi)
        · cases h
theorem keyR_ok {L : List UInt8} {p q : Nat} {s : ByteArray} (h : keyR L p = some (s, q)) : p < q ∧ q ≤ L.length ∧ s.size ≤ L.length := by
  unfold keyR at h
  split at h
  · cases e : txJ L (skipJ L p + 1) with
    | none => simp [e] at h
    | some x =>
      obtain ⟨l, z⟩ := x
      simp only [e] at h
      split at h
      · rename_i h58
        simp only [Option.some.injEq, Prod.mk.injEq] at h
        obtain ⟨rfl, rfl⟩ := h
        obtain ⟨x1, x2, x3, _⟩ := txJ_says _ _ _ _ (Nat.le_refl _) e
        have y1 := (isAt_yes.1 h58).1
        have y2 : p ≤ skipJ L p := runJ_ge _ _ _
        have y3 : z ≤ skipJ L z := runJ_ge _ _ _
        have hz : (txt l).size = l.length := txt_size l
        exact ⟨by omega, by omega, by omega⟩
      · cases h
  · cases h
theorem pairsJ_ok {f : Nat} {L : List UInt8} {R : Nat → Option (VT × Nat)} (H : RdOk f L R) : ∀ {k p : Nat} {ks : List ByteArray} {l : List VT} {q : Nat}, pairsJ L R k p = some (ks, l, q) → p + l.length < q ∧ q ≤ L.length ∧ sumL (fun i => layT f (kidT l i) 0) l.length < q - p ∧ (∀ i, i < l.length → FitT f (kidT l i)) ∧ ∀ i, i < l.length → (keyAt ks i).size ≤ L.length := by
  intro k
  induction k with
  | zero => intro p ks l q h; cases h
  | succ k ih =>
    intro p ks l q h
    rw [pairsJ] at h
    cases e0 : keyR L p with
    | none => simp [e0] at h
    | some x0 =>
      obtain ⟨s, q0⟩ := x0
      simp only [e0] at h
      obtain ⟨k1, k2, k3⟩ := keyR_ok e0
      cases e : R q0 with
      | none => simp [e] at h
      | some x =>
        obtain ⟨t, z⟩ := x
        simp only [e] at h
        obtain ⟨a1, a2, a3, a4, _⟩ := H _ _ _ e
        split at h
        · rename_i hend
          have hz := (isAt_yes.1 hend).1
          simp only [Option.some.injEq, Prod.mk.injEq] at h
          obtain ⟨rfl, rfl, rfl⟩ := h
          refine ⟨by simp; omega, by omega, ?_, fun i hi => ?_, fun i hi => ?_⟩
          · have hs : sumL (fun i => layT f (kidT [t] i) 0) (0 + 1) = (layT f t 0).length + sumL (fun i => layT f (kidT [] i) 0) 0 := sumL_cons _ _
            show sumL (fun i => layT f (kidT [t] i) 0) (0 + 1) < _
            rw [hs]; simp [sumL]; omega
          · obtain rfl : i = 0 := by simpa using hi
            exact a4
          · obtain rfl : i = 0 := by simpa using hi
            exact k3
        · split at h
          · cases e2 : pairsJ L R k (z + 1) with
            | none => simp [e2] at h
            | some y =>
              obtain ⟨km, m, z2⟩ := y
              simp only [e2, Option.some.injEq, Prod.mk.injEq] at h
              obtain ⟨rfl, rfl, rfl⟩ := h
              obtain ⟨b1, b2, b3, b4, b5⟩ := ih e2
              have hs : sumL (fun i => layT f (kidT (t :: m) i) 0) (m.length + 1) = (layT f t 0).length + sumL (fun i => layT f (kidT m i) 0) m.length := sumL_cons _ _
              refine ⟨by simp; omega, b2, by rw [List.length_cons, hs]; omega, fun i hi => ?_, fun i hi => ?_⟩
              · cases i with
                | zero => exact a4
                | succ i => exact b4 i (by simpa using hi)
              · cases i with
                | zero => exact k3
                | succ i => exact b5 i (by simpa using hi)
          · cases h
/-- What stands behind a sign, and the sign. -/
def OkJ (f : Nat) (L : List UInt8) (p : Nat) (t : VT) (q : Nat) : Prop := p < q ∧ q ≤ L.length ∧ (layT f t 0).length ≤ q - p ∧ FitT f t ∧ ∀ z, textOf t = some z → z.size ≤ L.length
theorem listJ_ok {f : Nat} {L : List UInt8} {R : Nat → Option (VT × Nat)} (H : RdOk f L R) (hL : L.length ≤ 4000) {p : Nat} {t : VT} {q : Nat} (h : listJ L R p = some (t, q)) : OkJ (f + 1) L p t q := by
  unfold listJ at h
  split at h
  · rename_i he
    have h1 := (isAt_yes.1 he).1
    have h2 : p ≤ skipJ L p := runJ_ge _ _ _
    simp only [Option.some.injEq, Prod.mk.injEq] at h
    obtain ⟨rfl, rfl⟩ := h
    refine ⟨by omega, by omega, by rw [listT_size]; simp [sumL]; omega, ⟨by decide, by decide, by decide, by simp, fun i hi => absurd hi (by simp), by simp, fun j hj => absurd hj (by simp)⟩, fun z hz => by simp [textOf, listT] at hz⟩
  · cases e : itemsJ L R (L.length + 1) p with
    | none => simp [e] at h
    | some x =>
      obtain ⟨l, z⟩ := x
      simp only [e, Option.some.injEq, Prod.mk.injEq] at h
      obtain ⟨rfl, rfl⟩ := h
      obtain ⟨b1, b2, b3, b4⟩ := itemsJ_ok H e
      have hl := (itemsJ_full (fun p t q h => (H p t q h).2.2.2.1.full) e).1
      refine ⟨by omega, b2, by rw [listT_size]; omega, ⟨by decide, by decide, by decide, by simp, fun i hi => absurd hi (by simp), by omega, fun j hj => b4 j hj⟩, fun z hz => by simp [textOf, listT] at hz⟩
theorem mapJ_ok {f : Nat} {L : List UInt8} {R : Nat → Option (VT × Nat)} (H : RdOk f L R) (hL : L.length ≤ 4000) {p : Nat} {t : VT} {q : Nat} (h : mapJ L R p = some (t, q)) : OkJ (f + 1) L p t q := by
  unfold mapJ at h
  split at h
  · rename_i he
    have h1 := (isAt_yes.1 he).1
    have h2 : p ≤ skipJ L p := runJ_ge _ _ _
    simp only [Option.some.injEq, Prod.mk.injEq] at h
    obtain ⟨rfl, rfl⟩ := h
    have h0 : mapT [] [] = .mk 6 0 ByteArray.empty [] [] := by
      have h0 : srt [] = [] := List.eq_nil_of_length_eq_zero (srt_len [])
      unfold mapT; rw [h0]; rfl
    rw [h0]
    refine ⟨by omega, by omega, ?_, (leaf_ok (f := f) (k := 6) (n := 0) (by decide) (by decide)).2.1, fun z hz => by simp [textOf] at hz⟩
    rw [(leaf_ok (f := f) (k := 6) (n := 0) (by decide) (by decide)).1]
    omega
  · cases e : pairsJ L R (L.length + 1) p with
    | none => simp [e] at h
    | some x =>
      obtain ⟨ks, l, z⟩ := x
      simp only [e, Option.some.injEq, Prod.mk.injEq] at h
      obtain ⟨rfl, rfl⟩ := h
      obtain ⟨b1, b2, b3, b4, b5⟩ := pairsJ_ok H e
      obtain ⟨hl1, hl2, _⟩ := pairsJ_full (fun p t q h => (H p t q h).2.2.2.1.full) e
      have hsl := srt_len ks
      refine ⟨by omega, b2, by rw [mapT_size, hl1]; omega, ⟨by decide, by decide, by decide, by rw [List.length_map, hsl]; omega, fun i hi => ?_, by rw [List.length_map, hsl]; omega, fun j hj => ?_⟩, fun z hz => by simp [textOf, mapT] at hz⟩
      · rw [List.length_map, hsl] at hi
        have e9 : keyAt ((srt ks).map (keyAt ks)) i = keyAt ks ((srt ks).getD i 0) := by
          conv => lhs; unfold keyAt
          rw [List.getD_eq_getElem?_getD, List.getElem?_map, List.getElem?_eq_getElem (by omega), List.getD_eq_getElem?_getD (l := srt ks), List.getElem?_eq_getElem (show i < (srt ks).length by omega)]
          rfl
        rw [e9]
        have := b5 ((srt ks).getD i 0) (by have := srt_lt hi; omega)
        omega
      · rw [List.length_map, hsl] at hj
        rw [kid_srt hj]
        exact b4 _ (by have := srt_lt hj; omega)
theorem numJ_past {L : List UInt8} {p : Nat} (h : L.length ≤ p) : numJ L p = none := by
  have e : numAt L p = p := by
    unfold numAt
    rw [if_neg (fun e => by have := (isAt_yes.1 e).1; omega)]
  unfold numJ
  rw [e, if_pos (.inl (runJ_past h))]
theorem readJ_ok {f : Nat} {L : List UInt8} {R : Nat → Option (VT × Nat)} (H : RdOk f L R) (hL : L.length ≤ 4000) {p : Nat} {t : VT} {q : Nat} (h : readJ L R p = some (t, q)) : OkJ (f + 1) L p t q := by
  have leaf : ∀ {k n : Int} {q' : Nat}, p < q' → q' ≤ L.length → (1 ≤ k ∧ k ≤ 6 ∧ k ≠ 4) → (-9223372036854775808 ≤ n ∧ n ≤ 9223372036854775807) → some ((VT.mk k n ByteArray.empty [] [] : VT), q') = some (t, q) → OkJ (f + 1) L p t q := fun {k n q'} h1 h2 hk hn h => by
    simp only [Option.some.injEq, Prod.mk.injEq] at h
    obtain ⟨rfl, rfl⟩ := h
    obtain ⟨l1, l2, l3⟩ := leaf_ok (f := f) hk hn
    exact ⟨h1, h2, by omega, l2, fun z hz => by rw [l3] at hz; cases hz⟩
  unfold readJ at h
  split at h
  · rename_i e
    have := wordAt_le e (by decide)
    exact leaf (by omega) (by simpa [nullW] using this) (by decide) (by decide) h
  split at h
  · rename_i e
    have := wordAt_le e (by decide)
    exact leaf (by omega) (by simpa [trueW] using this) (by decide) (by decide) h
  split at h
  · rename_i e
    have := wordAt_le e (by decide)
    exact leaf (by omega) (by simpa [falseW] using this) (by decide) (by decide) h
  split at h
  · cases e : txJ L (p + 1) with
    | none => simp [e] at h
    | some x =>
      obtain ⟨l, z⟩ := x
      simp only [e, Option.some.injEq, Prod.mk.injEq] at h
      obtain ⟨rfl, rfl⟩ := h
      obtain ⟨x1, x2, x3, _⟩ := txJ_says _ _ _ _ (Nat.le_refl _) e
      have hz : (txt l).size = l.length := txt_size l
      refine ⟨by omega, x2, by show 1 ≤ _; omega, ⟨by decide, by decide, by omega, by simp, fun i hi => absurd hi (by simp), by simp, fun j hj => absurd hj (by simp)⟩, fun z e => ?_⟩
      simp [textOf, wordT] at e
      subst e
      omega
  split at h
  · obtain ⟨a1, a2, a3, a4⟩ := listJ_ok H hL h
    exact ⟨by omega, a2, by omega, a4⟩
  split at h
  · obtain ⟨a1, a2, a3, a4⟩ := mapJ_ok H hL h
    exact ⟨by omega, a2, by omega, a4⟩
  · cases e : numJ L p with
    | none => simp [e] at h
    | some x =>
      obtain ⟨v, z⟩ := x
      simp only [e] at h
      obtain ⟨h1, h2, h3, h4⟩ := numJ_lt e
      by_cases hp : p ≤ L.length
      · exact leaf h1 (h2 hp) (by decide) (by omega) h
      · exfalso
        have := numJ_past (L := L) (p := p) (by omega)
        rw [this] at e
        cases e
theorem rdJ_ok (L : List UInt8) (hL : L.length ≤ 4000) : ∀ f, RdOk f L (rdJ L f) := by
  intro f
  induction f with
  | zero => intro p t q h; simp [rdJ] at h
  | succ f ih =>
    intro p t q h
    rw [rdJ] at h
    cases e : readJ L (rdJ L f) (skipJ L p) with
    | none => simp [e] at h
    | some x =>
      obtain ⟨t', z⟩ := x
      simp only [e, Option.some.injEq, Prod.mk.injEq] at h
      obtain ⟨rfl, rfl⟩ := h
      obtain ⟨a1, a2, a3, a4, a5⟩ := readJ_ok ih hL e
      have y1 : p ≤ skipJ L p := runJ_ge _ _ _
      have y2 : z ≤ skipJ L z := runJ_ge _ _ _
      exact ⟨by omega, runJ_le a2, by omega, a4, a5⟩
end Go.Proofs.YtagcgnhpdmhegaaGreatDoor

/-
  What turns giving up into false: unlessGivenUp at a reading that hands back a value.
-/
namespace Go.Proofs.YtagcgnhpdmhegaaGreatDoor
open Go.RowKit
set_option linter.unusedSimpArgs false
set_option linter.unusedVariables false

theorem catchV_gave (q : Addr) (x : Bool) (w : World) (hc : w.cell? q = some (.bool x)) (hz : w.frozen? q = false) :
    CallsD Tryz.prog 81 #[.pointer (some q)] (.panicking [{ v := .iface 102 (.agg #[]), recovered := false }]) w fun e u' w' =>
      e = .returned (.tuple #[]) ∧ u' = .panicking [{ v := .iface 102 (.agg #[]), recovered := true }] ∧ w' = w.setCell q (.bool false) := by
  refine callsD_of_wpS Tryz.func81 rfl fun c₀ cs hu => ?_
  apply wpS_seq
  apply wpS_region
  simp [wpOpsS, go_sem, recoverD, hu, Tryz.ntmps81, Exit.thenS]
  refine wpS_cond (t := true) (by simp [Act.eval, Array.replicate]) ?_
  simp only [if_true]
  apply wpS_region
  simp [wpOpsS, go_sem, hc, hz, bodyPostS, results, Tryz.results81]

theorem catchV_idle (q : Addr) (w : World) :
    CallsD Tryz.prog 81 #[.pointer (some q)] .returning w fun e u' w' => e = .returned (.tuple #[]) ∧ u' = .returning ∧ w' = w := by
  refine callsD_of_wpS Tryz.func81 rfl fun c₀ cs hu => ?_
  apply wpS_seq
  apply wpS_region
  simp [wpOpsS, go_sem, recoverD, hu, Tryz.ntmps81, Exit.thenS]
  refine wpS_cond (t := false) (by simp [Act.eval, Array.replicate]) ?_
  simp only [Bool.false_eq_true, if_false]
  refine wpS_of_wp (wp_skip ?_)
  cases c₀
  simp_all [bodyPostS, results, Tryz.results81]

set_option maxRecDepth 100000 in
set_option maxHeartbeats 1600000 in
theorem unlessV_yes (G : FuncId) (x : Value) (w : World) (Z : Value → World → Prop) (hcf : ∀ w, (callFunc G #[x]).run Tryz.prog w = .ok (.enter G #[x]) w)
    (hc : Calls Tryz.prog G #[x] (w.alloc (.cells #[.bool false] 4)) fun e w' => ∃ v, e = .returned v ∧ Z v w')
    (hZ : ∀ v w', Z v w' → w'.cell? ⟨w.heap.size, 0, none⟩ = some (.bool false) ∧ w'.frozen? ⟨w.heap.size, 0, none⟩ = false) :
    Calls Tryz.prog 49 #[.func (.func G) #[x] #[]] w fun e w' => ∃ v, e = .returned (.tuple #[v, .bool true]) ∧ ∃ w1, Z v w1 ∧ w' = w1.setCell ⟨w.heap.size, 0, none⟩ (.bool true) := by
  have hmf : ∀ (fn : Fn) (first cap : Array Value) (w : World), (Instr.makeFunc fn first cap).run Tryz.prog w = .ok (.func fn first cap) w := fun _ _ _ _ => rfl
  go_enter_defers Tryz.func49, Tryz.ntmps49
  go_wp2_with fail
  refine hc.mono ?_
  rintro e w1 ⟨v, rfl, hz⟩
  obtain ⟨c1, f1⟩ := hZ v w1 hz
  go_wp2_with fail
  refine leaves_cons (f := 81) (args := #[.pointer (some ⟨w.heap.size, 0, none⟩)]) (by simp) (by simp [go_sem]) ?_
  refine (catchV_idle ⟨w.heap.size, 0, none⟩ _).mono ?_
  rintro e u' w'' ⟨rfl, rfl, rfl⟩
  have c2 : (w1.setCell ⟨w.heap.size, 0, none⟩ (.bool true)).cell? ⟨w.heap.size, 0, none⟩ = some (.bool true) := World.cell?_setCell_same _ _ _ c1
  simp [Leaves, settle, results, Tryz.results49, go_sem, c2]
  exact ⟨w1, hz, rfl⟩

set_option maxRecDepth 100000 in
set_option maxHeartbeats 1600000 in
theorem unlessV_no (G : FuncId) (x : Value) (w : World) (Z : World → Prop) (hcf : ∀ w, (callFunc G #[x]).run Tryz.prog w = .ok (.enter G #[x]) w)
    (hc : Calls Tryz.prog G #[x] (w.alloc (.cells #[.bool false] 4)) fun e w' => e = gup ∧ Z w')
    (hZ : ∀ w', Z w' → w'.cell? ⟨w.heap.size, 0, none⟩ = some (.bool false) ∧ w'.frozen? ⟨w.heap.size, 0, none⟩ = false) :
    Calls Tryz.prog 49 #[.func (.func G) #[x] #[]] w fun e w' => e = .returned (.tuple #[.nilIface, .bool false]) ∧ ∃ w1, Z w1 ∧ w' = w1.setCell ⟨w.heap.size, 0, none⟩ (.bool false) := by
  have hmf : ∀ (fn : Fn) (first cap : Array Value) (w : World), (Instr.makeFunc fn first cap).run Tryz.prog w = .ok (.func fn first cap) w := fun _ _ _ _ => rfl
  go_enter_defers Tryz.func49, Tryz.ntmps49
  go_wp2_with fail
  refine hc.mono ?_
  rintro e w1 ⟨rfl, hz⟩
  obtain ⟨c1, f1⟩ := hZ w1 hz
  unfold gup
  go_wp2_with fail
  refine leaves_cons (f := 81) (args := #[.pointer (some ⟨w.heap.size, 0, none⟩)]) (by simp) (by simp [go_sem]) ?_
  refine (catchV_gave ⟨w.heap.size, 0, none⟩ false _ c1 f1).mono ?_
  rintro e u' w'' ⟨rfl, rfl, rfl⟩
  have c2 : (w1.setCell ⟨w.heap.size, 0, none⟩ (.bool false)).cell? ⟨w.heap.size, 0, none⟩ = some (.bool false) := World.cell?_setCell_same _ _ _ c1
  simp [Leaves, settle, results, Tryz.results49, go_sem, c2]
  exact ⟨w1, hz, rfl⟩
end Go.Proofs.YtagcgnhpdmhegaaGreatDoor

/-
  The program's readFront, over whatever reads a value.
-/
namespace Go.Proofs.YtagcgnhpdmhegaaGreatDoor
open Go.RowKit
set_option linter.unusedSimpArgs false
set_option linter.unusedVariables false

/-- What is read of a text, and how much of it. -/
def frontV (L : List UInt8) (r : Option (VT × Nat)) : Option (List VN × Nat) := if 4000 < L.length then none else okOf (L.length + 1) r
def nsOf (r : Option (List VN × Nat)) : List VN := match r with
  | none => []
  | some (ns, _) => ns
def usedOf (r : Option (List VN × Nat)) : Nat := match r with
  | none => 0
  | some (_, q) => q

end Go.Proofs.YtagcgnhpdmhegaaGreatDoor

/-
  The program's ReadJson.
-/
namespace Go.Proofs.YtagcgnhpdmhegaaGreatDoor
open Go.RowKit
set_option linter.unusedSimpArgs false
set_option linter.unusedVariables false

/-- The value that the whole text says. -/
def allJ (L : List UInt8) : Option (VT × Nat) := match rdJ L (L.length + 1) 0 with
  | none => none
  | some (t, q) => if q < L.length then none else some (t, q)
theorem allJ_no {L : List UInt8} (h : rdJ L (L.length + 1) 0 = none) : allJ L = none := by unfold allJ; rw [h]
theorem allJ_short {L : List UInt8} {t : VT} {q : Nat} (h : rdJ L (L.length + 1) 0 = some (t, q)) (hq : q < L.length) : allJ L = none := by unfold allJ; rw [h]; dsimp only; rw [if_pos hq]
theorem allJ_yes {L : List UInt8} {t : VT} {q : Nat} (h : rdJ L (L.length + 1) 0 = some (t, q)) (hq : ¬ q < L.length) : allJ L = some (t, q) := by unfold allJ; rw [h]; dsimp only; rw [if_neg hq]
theorem allJ_of {L : List UInt8} {t : VT} {q : Nat} (h : allJ L = some (t, q)) : rdJ L (L.length + 1) 0 = some (t, q) := by
  unfold allJ at h
  cases e : rdJ L (L.length + 1) 0 with
  | none => simp [e] at h
  | some x =>
    obtain ⟨t', q'⟩ := x
    simp only [e] at h
    split at h
    · cases h
    · exact h

set_option maxRecDepth 100000 in
set_option maxHeartbeats 1600000 in
theorem unlessC_yes (G : FuncId) (a b : Value) (w : World) (Z : Value → World → Prop) (hcf : ∀ w, (callFunc G #[a, b]).run Tryz.prog w = .ok (.enter G #[a, b]) w)
    (hc : Calls Tryz.prog G #[a, b] (w.alloc (.cells #[.bool false] 4)) fun e w' => ∃ v, e = .returned v ∧ Z v w')
    (hZ : ∀ v w', Z v w' → w'.cell? ⟨w.heap.size, 0, none⟩ = some (.bool false) ∧ w'.frozen? ⟨w.heap.size, 0, none⟩ = false) :
    Calls Tryz.prog 49 #[.func (.func G) #[] #[a, b]] w fun e w' => ∃ v, e = .returned (.tuple #[v, .bool true]) ∧ ∃ w1, Z v w1 ∧ w' = w1.setCell ⟨w.heap.size, 0, none⟩ (.bool true) := by
  have hmf : ∀ (fn : Fn) (first cap : Array Value) (w : World), (Instr.makeFunc fn first cap).run Tryz.prog w = .ok (.func fn first cap) w := fun _ _ _ _ => rfl
  go_enter_defers Tryz.func49, Tryz.ntmps49
  go_wp2_with fail
  refine hc.mono ?_
  rintro e w1 ⟨v, rfl, hz⟩
  obtain ⟨c1, f1⟩ := hZ v w1 hz
  go_wp2_with fail
  refine leaves_cons (f := 81) (args := #[.pointer (some ⟨w.heap.size, 0, none⟩)]) (by simp) (by simp [go_sem]) ?_
  refine (catchV_idle ⟨w.heap.size, 0, none⟩ _).mono ?_
  rintro e u' w'' ⟨rfl, rfl, rfl⟩
  have c2 : (w1.setCell ⟨w.heap.size, 0, none⟩ (.bool true)).cell? ⟨w.heap.size, 0, none⟩ = some (.bool true) := World.cell?_setCell_same _ _ _ c1
  simp [Leaves, settle, results, Tryz.results49, go_sem, c2]
  exact ⟨w1, hz, rfl⟩

set_option maxRecDepth 100000 in
set_option maxHeartbeats 1600000 in
theorem unlessC_no (G : FuncId) (a b : Value) (w : World) (Z : World → Prop) (hcf : ∀ w, (callFunc G #[a, b]).run Tryz.prog w = .ok (.enter G #[a, b]) w)
    (hc : Calls Tryz.prog G #[a, b] (w.alloc (.cells #[.bool false] 4)) fun e w' => e = gup ∧ Z w')
    (hZ : ∀ w', Z w' → w'.cell? ⟨w.heap.size, 0, none⟩ = some (.bool false) ∧ w'.frozen? ⟨w.heap.size, 0, none⟩ = false) :
    Calls Tryz.prog 49 #[.func (.func G) #[] #[a, b]] w fun e w' => e = .returned (.tuple #[.nilIface, .bool false]) ∧ ∃ w1, Z w1 ∧ w' = w1.setCell ⟨w.heap.size, 0, none⟩ (.bool false) := by
  have hmf : ∀ (fn : Fn) (first cap : Array Value) (w : World), (Instr.makeFunc fn first cap).run Tryz.prog w = .ok (.func fn first cap) w := fun _ _ _ _ => rfl
  go_enter_defers Tryz.func49, Tryz.ntmps49
  go_wp2_with fail
  refine hc.mono ?_
  rintro e w1 ⟨rfl, hz⟩
  obtain ⟨c1, f1⟩ := hZ w1 hz
  unfold gup
  go_wp2_with fail
  refine leaves_cons (f := 81) (args := #[.pointer (some ⟨w.heap.size, 0, none⟩)]) (by simp) (by simp [go_sem]) ?_
  refine (catchV_gave ⟨w.heap.size, 0, none⟩ false _ c1 f1).mono ?_
  rintro e u' w'' ⟨rfl, rfl, rfl⟩
  have c2 : (w1.setCell ⟨w.heap.size, 0, none⟩ (.bool false)).cell? ⟨w.heap.size, 0, none⟩ = some (.bool false) := World.cell?_setCell_same _ _ _ c1
  simp [Leaves, settle, results, Tryz.results49, go_sem, c2]
  exact ⟨w1, hz, rfl⟩

set_option maxRecDepth 100000 in
set_option maxHeartbeats 3200000 in
theorem closure_json {rb sb : Nat} {s : ByteArray} {w : World} (h : SrAt w rb s 0) (hc : w.cell? ⟨sb, 0, none⟩ = some (.string s)) (hl : sb < w.heap.size) (hne : sb ≠ rb) (hs : s.size ≤ 4000) :
    Calls Tryz.prog 50 #[.pointer (some ⟨rb, 0, none⟩), .pointer (some ⟨sb, 0, none⟩)] w fun e w' => ((∃ t q x, allJ s.data.toList = some (t, q) ∧ e = .returned x ∧ TreeP (NewB w w') w' (s.size + 1) t x) ∨ (allJ s.data.toList = none ∧ e = gup)) ∧ But rb w w' := by
  have HLN := hideB (len_is s)
  have HC := hideIt (around_any hs (s.size + 1) 0 w h (by omega))
  have HSC : Hid (∀ w', But rb w w' → w'.cell? ⟨sb, 0, none⟩ = some (.string s)) := fun w' hb => (cellOf (hb.block sb hl hne)).trans hc
  clear h hc
  go_enter Tryz.func50, Tryz.ntmps50
  go_wp2_with fail
  refine HC.out.mono ?_
  rintro e w1 ⟨⟨t, q, x, hr, rfl, htr, hs1, _⟩ | ⟨hr, rfl⟩, hb1⟩
  · obtain ⟨ty, xx, rfl⟩ := htr.iface
    have HR : Hid (rdJ s.data.toList (s.data.toList.length + 1) 0 = some (t, q)) := by rw [Hid, HLN.out]; exact hr
    have HT := hideIt htr
    have HB1 := hideIt hb1
    have k1 := hs1.br.place
    have k2 := HSC.out w1 hb1
    clear hr htr hs1 hb1
    by_cases hq : q < s.size
    · have hq' : (q : Int) < (s.size : Int) := by omega
      have HN : Hid (allJ s.data.toList = none) := allJ_short HR.out (by rw [HLN.out]; exact hq)
      go_wp2_with fail
      exact ⟨rfl, .inr ⟨HN.out, rfl⟩, HB1.out⟩
    · have hq' : ¬ (q : Int) < (s.size : Int) := by omega
      have HY := hideIt (allJ_yes HR.out (by rw [HLN.out]; exact hq))
      go_wp2_with fail
      go_ret
      exact ⟨.inl ⟨t, q, _, HY.out, rfl, HT.out⟩, HB1.out⟩
  · have HN : Hid (allJ s.data.toList = none) := allJ_no (by rw [HLN.out]; exact hr)
    have HB1 := hideIt hb1
    clear hr hb1
    unfold gup
    go_wp2_with fail
    exact ⟨rfl, .inr ⟨HN.out, rfl⟩, HB1.out⟩
theorem call_cjson (a b : Value) (w : World) : (callFunc 50 #[a, b]).run Tryz.prog w = .ok (.enter 50 #[a, b]) w := by kernel_rfl

set_option maxRecDepth 100000 in
set_option maxHeartbeats 1600000 in
theorem newSign_any (s b : ByteArray) (w : World) : Calls Tryz.prog 48 #[.string s, .string b] w fun e w' => e = .returned (.agg #[.string s, .int .i64 0, .string b]) ∧ Below w.heap.size w w' := by
  go_enter Tryz.func48, Tryz.ntmps48
  go_wp2_with fail
  refine bodyPost_ret (v := .agg #[.string s, .int .i64 0, .string b]) (by simp [results, Tryz.results48, go_sem]) rfl ?_
  exact ⟨rfl, (Below.refl _ _).alloc (Nat.le_refl _) _⟩

set_option maxRecDepth 100000 in
set_option maxHeartbeats 1600000 in
theorem readJsonValue_any (s : ByteArray) (hs : s.size ≤ 4000) (w : World) :
    Calls Tryz.prog 25 #[.string s] w fun e w' => ((∃ t q x, allJ s.data.toList = some (t, q) ∧ e = .returned (.tuple #[x, .bool true]) ∧ TreeP (NewB w w') w' (s.size + 1) t x) ∨ (allJ s.data.toList = none ∧ e = .returned (.tuple #[.nilIface, .bool false]))) ∧ Below w.heap.size w w' := by
  have hmf : ∀ (fn : Fn) (first cap : Array Value) (w : World), (Instr.makeFunc fn first cap).run Tryz.prog w = .ok (.func fn first cap) w := fun _ _ _ _ => rfl
  have HBA : Hid (Below w.heap.size w (w.alloc (.cells #[.string s] 9))) := (Below.refl _ _).alloc (Nat.le_refl _) _
  have HNS := hideB (newSign_any s ⟨#[9, 10, 13, 32]⟩ (w.alloc (.cells #[.string s] 9)))
  go_enter Tryz.func25, Tryz.ntmps25
  go_wp2_with fail
  refine HNS.out.mono ?_
  rintro e w2 ⟨rfl, hb2⟩
  have HB2 := hideB hb2
  clear hb2
  obtain ⟨w3, hw3⟩ : ∃ w3, w2.alloc (.cells #[.string s, .int .i64 0, .string ⟨#[9, 10, 13, 32]⟩] 99) = w3 := ⟨_, rfl⟩
  have hz1 : (w.alloc (.cells #[.string s] 9)).heap.size = w.heap.size + 1 := by simp
  have hz2 : w.heap.size + 1 ≤ w2.heap.size := by rw [← hz1]; exact HB2.out.size
  have hz3 : w3.heap.size = w2.heap.size + 1 := by rw [← hw3]; simp
  have HB3 : Hid (Below w2.heap.size w2 w3) := by rw [Hid, ← hw3]; exact (Below.refl _ _).alloc (Nat.le_refl _) _
  have HBW : Hid (Below w.heap.size w w3) := (HBA.out.trans (HB2.out.mono (by rw [hz1]; omega))).trans (HB3.out.mono (by omega))
  have HCS : Hid (w3.cell? ⟨w.heap.size, 0, none⟩ = some (.string s)) := by
    have h1 : w2.heap[w.heap.size]? = some (.cells #[.string s] 9) := (HB2.out.block w.heap.size (by rw [hz1]; omega)).trans (heap_alloc_new w _)
    have h2 : w3.heap[w.heap.size]? = some (.cells #[.string s] 9) := (HB3.out.block w.heap.size (by omega)).trans h1
    rw [Hid, Lib.cell_of_heap h2]
    rfl
  have HSR : Hid (SrAt w3 w2.heap.size s 0) := by rw [Hid, ← hw3]; exact ⟨⟨by simp, by simp, by simp, by simp, Nat.zero_le _⟩, by simp⟩
  have HB4 : Hid (Below w3.heap.size w3 (w3.alloc (.cells #[.bool false] 4))) := (Below.refl _ _).alloc (Nat.le_refl _) _
  have hz4 : (w3.alloc (.cells #[.bool false] 4)).heap.size = w3.heap.size + 1 := by simp
  have HC := hideIt (closure_json (HSR.out.below HB4.out) ((cellOf (HB4.out.block w.heap.size (by omega))).trans HCS.out) (by rw [hz4]; omega) (show w.heap.size ≠ w2.heap.size by omega) hs)
  have HKEEP : Hid (∀ w', But w2.heap.size (w3.alloc (.cells #[.bool false] 4)) w' → w'.cell? ⟨w3.heap.size, 0, none⟩ = some (.bool false) ∧ w'.frozen? ⟨w3.heap.size, 0, none⟩ = false) := fun w' hb => by
    have hh := (hb.block w3.heap.size (by rw [hz4]; omega) (by omega)).trans (heap_alloc_new w3 (.cells #[.bool false] 4))
    exact ⟨by rw [Lib.cell_of_heap hh]; rfl, Lib.frozen_of_heap hh 0⟩
  have HFIN : Hid (∀ w9 b, But w2.heap.size (w3.alloc (.cells #[.bool false] 4)) w9 → Below w.heap.size w (w9.setCell ⟨w3.heap.size, 0, none⟩ (.bool b))) := fun w9 b hb => by
    have h1 : Below w.heap.size w w9 := (HBW.out.trans (HB4.out.mono (by omega))).trans ((hb.below (by omega)).mono (by omega))
    exact ⟨h1.os, h1.tape, h1.output, by simpa using h1.size, fun c hc => (Below.heap_setCell _ _ _ _ (by show c ≠ w3.heap.size; omega)).trans (h1.block c hc)⟩
  cases ha : allJ s.data.toList with
  | none =>
    rw [ha] at HC
    have hcn : Calls Tryz.prog 50 #[.pointer (some ⟨w2.heap.size, 0, none⟩), .pointer (some ⟨w.heap.size, 0, none⟩)] (w3.alloc (.cells #[.bool false] 4)) fun e w' => e = gup ∧ But w2.heap.size (w3.alloc (.cells #[.bool false] 4)) w' := HC.out.mono (by
      rintro e w' ⟨⟨t, q, x, h1, _⟩ | ⟨_, h2⟩, h3⟩
      · cases h1
      · exact ⟨h2, h3⟩)
    have HU := hideIt (unlessC_no 50 _ _ w3 _ (call_cjson _ _) hcn HKEEP.out)
    have HAJ := hideIt ha
    clear hcn HC ha
    go_wp2_with fail
    refine HU.out.mono ?_
    rintro e w1 ⟨rfl, w9, hb9, rfl⟩
    have HB1 := hideIt (HFIN.out w9 false hb9)
    clear hb9
    generalize w9.setCell ⟨w3.heap.size, 0, none⟩ (.bool false) = w1 at HB1 ⊢
    go_wp2_with fail
    refine bodyPost_ret (v := .tuple #[.nilIface, .bool false]) (by simp [results, Tryz.results25, go_sem]) rfl ?_
    exact ⟨.inr ⟨HAJ.out, rfl⟩, HB1.out⟩
  | some tq =>
    obtain ⟨t, q⟩ := tq
    rw [ha] at HC
    have hcy : Calls Tryz.prog 50 #[.pointer (some ⟨w2.heap.size, 0, none⟩), .pointer (some ⟨w.heap.size, 0, none⟩)] (w3.alloc (.cells #[.bool false] 4)) fun e w' => ∃ x, e = .returned x ∧ TreeP (NewB (w3.alloc (.cells #[.bool false] 4)) w') w' (s.size + 1) t x ∧ But w2.heap.size (w3.alloc (.cells #[.bool false] 4)) w' := HC.out.mono (by
      rintro e w' ⟨⟨t', q', x, h1, h2, h3⟩ | ⟨h1, _⟩, h5⟩
      · simp only [Option.some.injEq, Prod.mk.injEq] at h1
        obtain ⟨rfl, rfl⟩ := h1
        exact ⟨x, h2, h3, h5⟩
      · cases h1)
    have HU := hideIt (unlessC_yes 50 _ _ w3 (fun x w' => TreeP (NewB (w3.alloc (.cells #[.bool false] 4)) w') w' (s.size + 1) t x ∧ But w2.heap.size (w3.alloc (.cells #[.bool false] 4)) w') (call_cjson _ _) hcy (fun x w' hz => HKEEP.out w' hz.2))
    have HAJ := hideIt ha
    clear hcy HC ha
    go_wp2_with fail
    refine HU.out.mono ?_
    rintro e w1 ⟨x, rfl, w9, ⟨htr, hb9⟩, rfl⟩
    have HB1 := hideIt (HFIN.out w9 true hb9)
    have HT1 : Hid (TreeP (NewB w (w9.setCell ⟨w3.heap.size, 0, none⟩ (.bool true))) (w9.setCell ⟨w3.heap.size, 0, none⟩ (.bool true)) (s.size + 1) t x) :=
      htr.keep (fun b hb' => Below.heap_setCell _ _ _ _ (by show b ≠ w3.heap.size; have := hb'.1; omega)) (fun b hb' => ⟨by have := hb'.1; omega, by simpa using hb'.2⟩)
    clear htr hb9
    generalize w9.setCell ⟨w3.heap.size, 0, none⟩ (.bool true) = w1 at HB1 HT1 ⊢
    obtain ⟨ty, xx, rfl⟩ := HT1.out.iface
    go_wp2_with fail
    refine bodyPost_ret (v := .tuple #[.iface ty xx, .bool true]) (by simp [results, Tryz.results25, go_sem]) rfl ?_
    exact ⟨.inl ⟨t, q, _, HAJ.out, rfl, HT1.out⟩, HB1.out⟩
/-- A function from a text to nodes, and whether it says any. -/
def Reads (F : FuncId) (s : ByteArray) (V : Option (List VN × Nat)) : Prop :=
  ∀ w, Calls Tryz.prog F #[.string s] w fun e w' => ∃ r base KV IV, e = .returned (.tuple #[r, .bool V.isSome]) ∧ w.heap.size ≤ base ∧ base ≤ w'.heap.size ∧ Nest base w' r (nsOf V) KV IV ∧ Below w.heap.size w w'
def jsonF (s : ByteArray) : Option (List VN × Nat) := frontV s.data.toList (allJ s.data.toList)

set_option maxRecDepth 100000 in
set_option maxHeartbeats 3200000 in
theorem implReadJson_any (s : ByteArray) (hs : s.size ≤ 9223372036854775807) : Reads 11 s (jsonF s) := by
  intro w
  have hlen := len_is s
  by_cases hbig : 4000 < s.size
  · have hbig' : (4000 : Int) < (s.size : Int) := by omega
    have HV : Hid (jsonF s = none) := by rw [Hid]; unfold jsonF frontV; rw [if_pos (by omega)]
    rw [HV.out]
    go_enter Tryz.func11, Tryz.ntmps11
    go_wp2_with fail
    refine bodyPost_ret (v := .tuple #[.slice none 0 0, .bool false]) (by simp [results, Tryz.results11, go_sem]) rfl ?_
    exact ⟨.slice none 0 0, w.heap.size, fun _ => undef, fun _ => undef, rfl, Nat.le_refl _, Nat.le_refl _, Nest.nil _ _ _ _, Below.refl _ _⟩
  have hbig' : ¬ (4000 : Int) < (s.size : Int) := by omega
  have HFV : Hid (jsonF s = okOf (s.size + 1) (allJ s.data.toList)) := by rw [Hid]; unfold jsonF frontV; rw [if_neg (by omega), hlen]
  rw [HFV.out]
  have HC := hideIt (readJsonValue_any s (by omega) w)
  have HLEN := hideIt hlen
  clear hlen
  cases hr : allJ s.data.toList with
  | none =>
    have HO : Hid (okOf (s.size + 1) (none : Option (VT × Nat)) = none) := rfl
    rw [HO.out]
    rw [hr] at HC
    clear hr
    go_enter Tryz.func11, Tryz.ntmps11
    go_wp2_with fail
    refine HC.out.mono ?_
    rintro e w1 ⟨⟨t, q, x, h1, _⟩ | ⟨_, rfl⟩, hb1⟩
    · cases h1
    have HB1 := hideIt hb1
    clear hb1
    go_wp2_with fail
    refine bodyPost_ret (v := .tuple #[.slice none 0 0, .bool false]) (by simp [results, Tryz.results11, go_sem]) rfl ?_
    exact ⟨.slice none 0 0, w.heap.size, fun _ => undef, fun _ => undef, rfl, Nat.le_refl _, HB1.out.size, Nest.nil _ _ _ _, HB1.out⟩
  | some tq =>
    obtain ⟨t, q⟩ := tq
    obtain ⟨_, hq2, hq3, hq4, _⟩ := rdJ_ok s.data.toList (by rw [HLEN.out]; omega) _ 0 t q (allJ_of hr)
    rw [HLEN.out] at hq2 hq3 hq4
    have hnn : (layT (s.size + 1) t 0).length ≤ 4000 := by omega
    have HFT := hideIt (fits_lay hq4 0 (by omega))
    rw [hr] at HC
    obtain ⟨ns, hns⟩ : ∃ ns, layT (s.size + 1) t 0 = ns := ⟨_, rfl⟩
    obtain ⟨V, hV⟩ : ∃ V, okOf (s.size + 1) (some (t, q)) = V := ⟨_, rfl⟩
    have HO : Hid (V = if okB ns = true then some (ns, q) else none) := by rw [Hid, ← hV, ← hns]; rfl
    rw [hV]
    rw [hns] at hnn HFT
    have HNS := hideIt hns
    clear hq2 hq3 hq4 hns hr hV
    go_enter Tryz.func11, Tryz.ntmps11
    go_wp2_with fail
    refine HC.out.mono ?_
    rintro e w1 ⟨⟨t', q', x, h1, rfl, htr⟩ | ⟨h1, _⟩, hb1⟩
    rotate_left
    · cases h1
    simp only [Option.some.injEq, Prod.mk.injEq] at h1
    obtain ⟨rfl, rfl⟩ := h1
    obtain ⟨ty, xx, rfl⟩ := htr.iface
    have HB1 := hideIt hb1
    have z1 := hb1.size
    have HT1 : Hid (TreeAt w1.heap.size w1 (s.size + 1) t (.iface ty xx)) := htr.at (fun b hb' => hb'.2)
    have HRN := hideIt (rightNodes_any (s.size + 1) t _ ns w1 HT1.out HNS.out (by omega) HFT.out)
    clear htr hb1
    go_wp2_with fail
    refine HRN.out.mono ?_
    rintro e w2 ⟨r, base, KV, IV, rfl, hb1, hb2, hn2, hbl2⟩
    have HB2 := hideIt (HB1.out.trans (hbl2.mono z1))
    have HN2 := hideIt hn2
    have HBB : Hid (w.heap.size ≤ base ∧ base ≤ w2.heap.size) := ⟨Nat.le_trans z1 hb1, hb2⟩
    obtain ⟨ar, cr, er⟩ := own_slice hn2.row
    obtain ⟨M, hM⟩ : ∃ M, (rightNs ns).length = M := ⟨_, rfl⟩
    rw [hM] at er
    subst er
    have HR : Hid (rightNs ns = nsOf V ∧ okB ns = V.isSome) := by
      rw [Hid, HO.out]
      unfold rightNs
      cases okB ns <;> exact ⟨rfl, rfl⟩
    clear hn2 hbl2 hM hb1 hb2
    obtain ⟨b, hb⟩ : ∃ b, okB ns = b := ⟨_, rfl⟩
    have HBV : Hid (b = V.isSome) := by rw [Hid, ← hb]; exact HR.out.2
    rw [hb]
    clear hb
    go_wp2_with fail
    refine bodyPost_ret (v := .tuple #[.slice ar M cr, .bool b]) (by simp [results, Tryz.results11, go_sem]) rfl ?_
    exact ⟨.slice ar M cr, base, KV, IV, by rw [HBV.out], HBB.out.1, HBB.out.2, by rw [← HR.out.1]; exact HN2.out, HB2.out⟩
end Go.Proofs.YtagcgnhpdmhegaaGreatDoor
