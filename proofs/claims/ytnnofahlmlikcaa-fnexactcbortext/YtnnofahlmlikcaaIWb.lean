/-
  The program's writeBytes: a number's bytes, by a range over a function.
-/
import Derived.Test.YtnnofahlmlikcaaIHigh
import Derived.Test.YtnnofahlmlikcaaFBld
namespace Go.Proofs.Ytnnofahlmlikcaa
open Go.RowKit Go.Shelf
set_option linter.unusedSimpArgs false
set_option linter.unusedVariables false

attribute [local go_sem] Oper.semAt_some

theorem FB.grown {T : TypeId} {B b : Nat} {rest : List Value} {l : List UInt8} {X Y : World} {row : Option Nat} (h : FB T B b rest l X) (hg : X.grownBy Y row) (hr : ∀ r, row = some r → ∃ o : Obj, X.heap[r]? = some o ∧ o.isCells = false) : FB T B b rest l Y := by
  obtain ⟨hB, p, v, hp, hb, hrow, hne⟩ := h
  refine ⟨hB, p, v, hp, (grownBy_keeps_cells hg hr hb rfl).trans hb, ⟨hrow.1, ?_⟩, hne⟩
  rcases hrow.2 with h0 | ⟨g, cap, cur, hv, h1, h2, h3⟩
  · exact .inl h0
  · exact .inr ⟨g, cap, cur, hv, h1, (grownBy_keeps_cells hg hr h2 rfl).trans h2, h3⟩
theorem FB.lt {T : TypeId} {B b : Nat} {rest : List Value} {l : List UInt8} {w : World} (h : FB T B b rest l w) : b < w.heap.size := by
  obtain ⟨hB, p, v, hp, hb, _⟩ := h
  exact lt_heap hb
theorem Beside.others {T : TypeId} {B b : Nat} {rest : List Value} {l : List UInt8} {w w' : World} (h : Beside b w w') (hf : FB T B b rest l w) : KeepsOthers w w' := by
  obtain ⟨hB, p, v, hp, hb, _⟩ := hf
  refine ⟨h.1, fun k o hk ho => ?_⟩
  rw [h.2 k (lt_heap hk) (fun e => by subst e; rw [hb] at hk; cases hk; cases ho) (fun cs z e => by rw [hk] at e; cases e; cases ho)]
  exact hk
theorem Beside.box {b c : Nat} {w w' : World} {t : TypeId} {v : Value} (h : Beside b w w') (hc : Boxed w c t v) (hne : c ≠ b) (ht : t ≠ 5) : Boxed w' c t v := by
  have hh : w.heap[c]? = some (.cells #[v] t (0, 0)) := hc
  have := h.2 c (lt_heap hh) hne (fun cs z e => by rw [hh] at e; injection e with e; injection e with _ e2; exact ht e2)
  exact this.trans hh
theorem Beside.far {b : Nat} {w X Y : World} {row : Option Nat} (h : Beside b w X) (hg : X.grownBy Y row) (hr : ∀ r, row = some r → w.heap.size ≤ r) : Beside b w Y :=
  ⟨Nat.le_trans h.1 hg.size, fun c h1 h2 h3 => (hg.block c (Nat.lt_of_lt_of_le h1 h.1) (fun e => by have := hr c e.symm; omega)).trans (h.2 c h1 h2 h3)⟩
theorem FB.drew {T : TypeId} {B b : Nat} {rest : List Value} {l : List UInt8} {X : World} (h : FB T B b rest l X) : FB T B b rest l X.drew := h
theorem FB.alloc {T : TypeId} {B b : Nat} {rest : List Value} {l : List UInt8} {X : World} (h : FB T B b rest l X) (o : Obj) : FB T B b rest l (X.alloc o) := h.grown (World.grownBy_alloc X o none) (fun r e => by cases e)

set_option maxRecDepth 100000 in
set_option maxHeartbeats 4000000 in
theorem writeBytes_any {B b : Nat} {l : List UInt8} {w : World} (hT : FT 50 0) (h : FB 50 B b [] l w) (n : Int) (m : Nat) (hm : m ≤ 8) (h0n : 0 ≤ n) (h1n : n ≤ 18446744073709551615) (hlen : l.length + m ≤ 1000000000) (hBw : B ≤ w.heap.size) :
    Calls Try.prog 60 #[.pointer (some ⟨b, 0, none⟩), .int .u64 n, .int .i64 m] w fun e w' => e = .returned (.tuple #[]) ∧ FB 50 B b [] (l ++ bigB n m) w' ∧ Below B w w' ∧ Beside b w w' := by
  refine (callsIn_wide (n := 6)).1 ?_
  refine callsIn_of_wp_marks Try.func60 rfl trivial ?_ rfl
  simp only [Try.ntmps60, List.size_toArray, List.length_cons, List.length_nil, Nat.reduceAdd, Nat.reduceSub, Array.replicate_succ, Array.replicate_zero, List.push_toArray, List.append_toArray, List.nil_append, List.cons_append]
  gi_wp2_with (refine ⟨trivial, ?_⟩; gi_at_call 67; refine (high_in Fence.wide _ trivial rfl _ _ _).mono ?_; rintro e w' ⟨rfl, rfl⟩)
  have hlt := h.lt
  have F0 : FB 50 B b [] (l ++ []) (((w.alloc (.cells #[.pointer (some ⟨b, 0, none⟩)] 86)).alloc (.cells #[.int .u64 n] 97)).alloc (.cells #[.int .i64 m] 3)) := by rw [List.append_nil]; exact ((h.alloc _).alloc _).alloc _
  have x1 : Boxed (((w.alloc (.cells #[.pointer (some ⟨b, 0, none⟩)] 86)).alloc (.cells #[.int .u64 n] 97)).alloc (.cells #[.int .i64 m] 3)) w.heap.size 86 (.pointer (some ⟨b, 0, none⟩)) := ((Boxed.new w _ _).alloc _).alloc _
  have x2 : Boxed (((w.alloc (.cells #[.pointer (some ⟨b, 0, none⟩)] 86)).alloc (.cells #[.int .u64 n] 97)).alloc (.cells #[.int .i64 m] 3)) (w.heap.size + 1) 97 (.int .u64 n) := by
    have := (Boxed.new (w.alloc (.cells #[.pointer (some ⟨b, 0, none⟩)] 86)) 97 (.int .u64 n)).alloc (.cells #[.int .i64 m] 3)
    rw [World.size_alloc] at this
    exact this
  have x3 : Boxed (((w.alloc (.cells #[.pointer (some ⟨b, 0, none⟩)] 86)).alloc (.cells #[.int .u64 n] 97)).alloc (.cells #[.int .i64 m] 3)) (w.heap.size + 1 + 1) 3 (.int .i64 m) := by
    have := Boxed.new ((w.alloc (.cells #[.pointer (some ⟨b, 0, none⟩)] 86)).alloc (.cells #[.int .u64 n] 97)) 3 (.int .i64 m)
    rw [World.size_alloc, World.size_alloc] at this
    exact this
  have B0 : Below B w (((w.alloc (.cells #[.pointer (some ⟨b, 0, none⟩)] 86)).alloc (.cells #[.int .u64 n] 97)).alloc (.cells #[.int .i64 m] 3)) := (((Below.refl _ w).alloc hBw _).alloc (by simp; omega) _).alloc (by simp; omega) _
  have K0 : Beside b w (((w.alloc (.cells #[.pointer (some ⟨b, 0, none⟩)] 86)).alloc (.cells #[.int .u64 n] 97)).alloc (.cells #[.int .i64 m] 3)) := ((Beside.alloc _ _ _).trans (Beside.alloc _ _ _)).trans (Beside.alloc _ _ _)
  have sE : (((w.alloc (.cells #[.pointer (some ⟨b, 0, none⟩)] 86)).alloc (.cells #[.int .u64 n] 97)).alloc (.cells #[.int .i64 m] 3)).heap.size = w.heap.size + 1 + 1 + 1 := by simp
  generalize (((w.alloc (.cells #[.pointer (some ⟨b, 0, none⟩)] 86)).alloc (.cells #[.int .u64 n] 97)).alloc (.cells #[.int .i64 m] 3)) = W2 at *
  refine wpIn_rangeFunc_ownG (F := Fence.wide) (n := 6) rfl (by decide) (gf := 71) (lb := #[.pointer (some ⟨w.heap.size + 1 + 1, 0, none⟩), .pointer (some ⟨w.heap.size + 1, 0, none⟩)]) rfl trivial (enters_of Try.func71 (by kernel_rfl) rfl)
    (high_stops Fence.wide (6 - 1) trivial rfl (by decide) (w.heap.size + 1 + 1) (w.heap.size + 1) n m hm h0n h1n W2 (by omega) (by omega) x3.cell x2.cell) KpH.trans ?hKb (Below.refl _ _) (fun _ => rfl)
    (fun pre W => (FB 50 B b [] (l ++ pre) W ∧ Boxed W w.heap.size 86 (.pointer (some ⟨b, 0, none⟩)) ∧ Boxed W (w.heap.size + 1) 97 (.int .u64 n) ∧ Boxed W (w.heap.size + 1 + 1) 3 (.int .i64 m)) ∧ (Below B w W ∧ Beside b w W))
    (fun _ _ _ => False) ?hI (fun _ _ _ _ _ hs _ _ => hs) ⟨⟨F0, x1, x2, x3⟩, B0, K0⟩
    (fun x => { tmps := #[.pointer (some ⟨b, 0, none⟩), .int .u64 n, .int .i64 m, .pointer (some ⟨w.heap.size, 0, none⟩), undef, undef, .int .u8 (x.toNat : Int), .int .u64 n, .int .i64 m, .func (.func 71) #[] #[.pointer (some ⟨w.heap.size + 1 + 1, 0, none⟩), .pointer (some ⟨w.heap.size + 1, 0, none⟩)], .int .u8 (x.toNat : Int), undef, undef, undef, undef, undef], defers := [] }) ?assign ?body ?done ?stop
  case hKb =>
    intro X k o o' hk ho _ _
    constructor
    · unfold World.cell?
      rw [show (X.putObj k o').heap[(⟨w.heap.size + 1 + 1, 0, none⟩ : Addr).block]? = X.heap[(⟨w.heap.size + 1 + 1, 0, none⟩ : Addr).block]? from World.putObj_heap_other (by simp; omega)]
    · unfold World.cell?
      rw [show (X.putObj k o').heap[(⟨w.heap.size + 1, 0, none⟩ : Addr).block]? = X.heap[(⟨w.heap.size + 1, 0, none⟩ : Addr).block]? from World.putObj_heap_other (by simp; omega)]
  case hI =>
    refine OwnFrom.and (Own.from ?_ _) (OwnFrom.and (ownFrom_below hBw (by omega)) (fun _ X Y row hs hg hr => hs.far hg (fun r e => by have := (hr r e).1; omega)))
    rintro s X Y row ⟨h1, h2, h3, h4⟩ hg hr
    exact ⟨h1.grown hg hr, boxed_own _ _ (fun _ => _) s X Y row h2 hg hr, boxed_own _ _ (fun _ => _) s X Y row h3 hg hr, boxed_own _ _ (fun _ => _) s X Y row h4 hg hr⟩
  case assign =>
    intro k x X K' hK'
    unfold encB
    gi_wp2
    exact hK'
  case body =>
    rintro k pre x X ⟨⟨h1, h2, h3, h4⟩, h5, h6⟩ hpl
    have c2 := h2.cell
    have zX := h5.size
    gi_wp2_with (refine ⟨trivial, ?_⟩; gi_at_call 32; refine (CallsIn.inRound k (callsIn_wide.2 (fb_byte hT h1 x (by simp; omega) (by omega)))).mono ?_; rintro e w3 ⟨rfl, f3, b3, k3⟩)
    have y2 := k3.box h2 (by omega) (by decide)
    have y3 := k3.box h3 (by omega) (by decide)
    have y4 := k3.box h4 (by omega) (by decide)
    exact ⟨(k3.others h1).from _, ⟨y4.cell.trans h4.cell.symm, y3.cell.trans h3.cell.symm⟩, ⟨by rw [← List.append_assoc]; exact f3, y2, y3, y4⟩, h5.trans b3, h6.trans k3⟩
  case done =>
    rintro D ys X hD rfl ⟨⟨h1, h2, h3, h4⟩, h5, h6⟩ hK
    gi_wp2
    refine ⟨by simp, .inl ⟨_, _, rfl, run_takeDeferred hK, ?_⟩⟩
    exact ⟨_, results_none rfl _ _ _, rfl, h1.grown (grownBy_putObj' X D (.deferred none)) (fun r e => by cases e; exact ⟨_, hK, rfl⟩), h5.grown (grownBy_putObj' X D (.deferred none)) (Nat.le_trans hBw h5.size) (fun r e => by cases e; omega), h6.far (grownBy_putObj' X D (.deferred none)) (fun r e => by cases e; omega)⟩
  case stop =>
    rintro D c pre X _ _ h _
    exact h.elim
end Go.Proofs.Ytnnofahlmlikcaa
