/-
  What the arguments read as: slices of nodes of the laws' own type.
-/
import Derived.Test.YtpakfgonemiebaaFlat
import Derived.Test.YtpakfgonemiebaaProg
import Derived.Deep.Slices
import Derived.Deep.Strs
import Derived.KernelRfl
import Derived.OpenShut
import Derived.Test.YtpakfgonemiebaaPsZ
import Derived.Test.YtpakfgonemiebaaRows
import Derived.Test.YtpakfgonemiebaaLawLaid
import Derived.ProofKit
import Derived.ShutString
import Derived.ChangeOld
import Derived.Below
namespace Go.Proofs.Ytpakfgonemiebaa
open Go.RowKit Go.Deep Go.ChangeShapes Go.WideShapes
set_option linter.unusedSimpArgs false
set_option linter.unusedVariables false

theorem wf64 {n : Int} (h : (Lit.int .i64 n).wf = true) : -9223372036854775808 ≤ n ∧ n ≤ 9223372036854775807 := by
  simp [Lit.wf, IntKind.min, IntKind.max, IntKind.signed, IntKind.bits] at h
  omega

theorem cells1i : Try.prog.cellsOf 2 = 1 := by kernel_rfl
theorem cells1s : Try.prog.cellsOf 9 = 1 := by kernel_rfl
theorem cells1ks : Try.prog.cellsOf 75 = 1 := by kernel_rfl
theorem cells1ki : Try.prog.cellsOf 76 = 1 := by kernel_rfl
theorem cells5 : Try.prog.cellsOf 88 = 5 := by kernel_rfl

theorem lt_cell {w : World} {b o : Nat} {v : Value} (h : w.cell? ⟨b, o, none⟩ = some v) : b < w.heap.size := by
  unfold World.cell? at h
  cases hb : w.heap[b]? with
  | none => simp [hb] at h
  | some x => exact (Array.getElem?_eq_some_iff.1 hb).1

section
variable {H : Type} {enc : TypeId × Value → H} {W : World} {base : Nat} {spare : Nat → Bool} {held : Bool}

theorem raw_ints {fuel : Nat} {v : Value} {x : DataW H × List MemPlace} (h : DataW.trod enc Try.prog W base spare held fuel 76 [v] = some x) : ∃ l, RawInts W.heap.size W v l := by
  rcases open_ints Try.underlying76 Try.underlying2 cells1i h with ⟨hcs, _⟩ | ⟨a, len, cap, zs, hcs, _, hl, hm, hz, _, hcell, hwz⟩
  · refine ⟨[], by simp, fun i hi => absurd hi (by simp), none, 0, by simpa using hcs, fun hl => absurd hl (by simp)⟩
  · have hlen : len ≤ zs.length := by rw [hz]; split <;> omega
    have hlt : (zs.take len).length = len := by rw [List.length_take]; omega
    have hat : ∀ i, i < len → intAt (zs.take len) i = zs.getD i 0 := fun i hi => by simp [intAt, hi]
    have hm' : len ≤ 9223372036854775807 := by unfold maxLen at hm; omega
    refine ⟨zs.take len, by omega, fun i hi => ?_, some a, cap, by rw [hlt]; simpa using hcs, fun hl0 => ?_⟩
    · rw [hat i (by omega)]
      refine wf64 (hwz _ ?_)
      rw [List.getD_eq_getElem?_getD, List.getElem?_eq_getElem (by omega)]
      exact List.getElem_mem _
    · obtain ⟨b, o, spot⟩ := a
      have hc0 := hcell 0 (by omega)
      have hspot : spot = none := by simpa [Addr.add] using World.cell?_spot hc0
      subst hspot
      have hc' : ∀ i, i < len → W.cell? ⟨b, o + i, none⟩ = some (.int .i64 (zs.getD i 0)) := fun i hi => by
        have := hcell i (by omega)
        by_cases e : i = 0
        · subst e; simpa [Addr.add] using this
        · simpa [Addr.add, e] using this
      refine ⟨b, o, rfl, lt_cell (hc' 0 (by omega)), fun i hi => ?_⟩
      rw [hat i (by omega)]
      exact hc' i (by omega)

theorem raw_strs {fuel : Nat} {v : Value} {x : DataW H × List MemPlace} (h : DataW.trod enc Try.prog W base spare held fuel 75 [v] = some x) : ∃ l, RawStrs W.heap.size W v l := by
  rcases open_strs Try.underlying75 Try.underlying9 cells1s h with ⟨hcs, _⟩ | ⟨a, len, cap, m, Sx, hcs, _, hl, hm, hmm, _, hcell⟩
  · refine ⟨[], by simp, fun i hi => absurd hi (by simp), none, 0, by simpa using hcs, fun hl => absurd hl (by simp)⟩
  · have hlen : len ≤ m := by rw [hmm]; split <;> omega
    have hlt : ((List.range len).map Sx).length = len := by simp
    have hat : ∀ i, i < len → keyAt ((List.range len).map Sx) i = Sx i := fun i hi => by simp [keyAt, hi]
    have hm' : len ≤ 9223372036854775807 := by unfold maxLen at hm; omega
    refine ⟨(List.range len).map Sx, by omega, fun i hi => ?_, some a, cap, by rw [hlt]; simpa using hcs, fun hl0 => ?_⟩
    · rw [hat i (by omega)]
      have := (hcell i (by omega)).2
      unfold maxLen at this
      omega
    · obtain ⟨b, o, spot⟩ := a
      have hc0 := (hcell 0 (by omega)).1
      have hspot : spot = none := by simpa [Addr.add] using World.cell?_spot hc0
      subst hspot
      have hc' : ∀ i, i < len → W.cell? ⟨b, o + i, none⟩ = some (.string (Sx i)) := fun i hi => by
        have := (hcell i (by omega)).1
        by_cases e : i = 0
        · subst e; simpa [Addr.add] using this
        · simpa [Addr.add, e] using this
      refine ⟨b, o, rfl, lt_cell (hc' 0 (by omega)), fun i hi => ?_⟩
      rw [hat i (by omega)]
      exact hc' i (by omega)

set_option maxRecDepth 100000 in
theorem raw_node {fuel : Nat} {cs : List Value} {x : DataW H × List MemPlace} (h : DataW.trod enc Try.prog W base spare held fuel 88 cs = some x) :
    ∃ (y : VN) (ka ki : Value), cs = [.int .i64 y.kind, .int .i64 y.n, .string y.s, ka, ki] ∧ RawIn W.heap.size W y ka ki := by
  obtain ⟨xs, n, _, _, hl, hlen, hf⟩ := DataW.trod_struct Try.underlying88 h
  rw [cells5] at hl
  match cs, hl with
  | [v0, v1, v2, v3, v4], _ =>
    have f0 := hf 0 _ rfl
    have f1 := hf 1 _ rfl
    have f2 := hf 2 _ rfl
    have f3 := hf 3 _ rfl
    have f4 := hf 4 _ rfl
    match xs, hlen with
    | [y0, y1, y2, y3, y4], _ =>
      simp [cells1i, cells1s, cells1ks, cells1ki] at f0 f1 f2 f3 f4
      obtain ⟨k, e0, _, w0⟩ := DataW.trod_int Try.underlying2 f0
      obtain ⟨n', e1, _, w1⟩ := DataW.trod_int Try.underlying2 f1
      obtain ⟨s, e2, _, w2⟩ := DataW.trod_string Try.underlying9 f2
      obtain ⟨ks, r3⟩ := raw_strs f3
      obtain ⟨is, r4⟩ := raw_ints f4
      simp only [List.cons.injEq, and_true] at e0 e1 e2
      subst e0 e1 e2
      unfold maxLen at w2
      exact ⟨⟨k, n', s, ks, is⟩, v3, v4, rfl, r3, r4, by simp only; omega, (wf64 w0).1, (wf64 w0).2, (wf64 w1).1, (wf64 w1).2⟩

theorem raw_nodes {fuel : Nat} {v : Value} {x : DataW H × List MemPlace} (h : DataW.trod enc Try.prog W base spare held fuel 43 [v] = some x) : ∃ vs, RawNodes W.heap.size W v vs := by
  rcases open_slice Try.underlying43 h with ⟨hcs, _⟩ | ⟨a, len, cap, m, n, D, Pl, hcs, _, hl, hm, hmm, _, hx⟩
  · refine ⟨[], by simp, none, 0, by simpa using hcs, fun hl => absurd hl (by simp)⟩
  · have hlen : len ≤ m := by rw [hmm]; split <;> omega
    have hm' : len ≤ 9223372036854775807 := by unfold maxLen at hm; omega
    rw [cells5] at hx
    obtain ⟨f, hfx⟩ := @choose_lt (VN × Value × Value) ⟨(VN.zero, undef, undef)⟩ m (fun i q => RawIn W.heap.size W q.1 q.2.1 q.2.2 ∧ ∀ j, j < 5 → W.cell? ((a.add (i * 5)).add j) = [Value.int .i64 q.1.kind, .int .i64 q.1.n, .string q.1.s, q.2.1, q.2.2][j]?) (fun i hi => by
      obtain ⟨cs', h1, h2⟩ := hx i hi
      obtain ⟨y, ka, ki, e, hy⟩ := raw_node h2
      subst e
      exact ⟨(y, ka, ki), hy, (World.cells?_some h1).2.2⟩)
    have hat : ∀ i, i < len → nodeAt ((List.range len).map fun i => (f i).1) i = (f i).1 := fun i hi => by simp [nodeAt, hi]
    refine ⟨(List.range len).map fun i => (f i).1, by simp; omega, some a, cap, by simpa using hcs, fun hl0 => ?_⟩
    simp only [List.length_map, List.length_range] at hl0
    obtain ⟨b, o, spot⟩ := a
    have hspot : spot = none := by
      have h0 := (hfx 0 (by omega)).2 0 (by omega)
      have h0' : W.cell? ⟨b, o, spot⟩ = some (.int .i64 (f 0).1.kind) := by simpa [Addr.add] using h0
      exact World.cell?_spot h0'
    subst hspot
    have hadd : ∀ i j, (Addr.add (Addr.add ⟨b, o, none⟩ (i * 5)) j) = ⟨b, o + i * 5 + j, none⟩ := fun i j => by
      rw [add_add]
      by_cases e : i * 5 + j = 0
      · unfold Addr.add
        rw [if_pos e]
        congr 1
        omega
      · unfold Addr.add
        rw [if_neg e]
        congr 1
        show o + (i * 5 + j) = o + i * 5 + j
        omega
    have hc' : ∀ i, i < len → ∀ j, j < 5 → W.cell? ⟨b, o + i * 5 + j, none⟩ = [Value.int .i64 (f i).1.kind, .int .i64 (f i).1.n, .string (f i).1.s, (f i).2.1, (f i).2.2][j]? := fun i hi j hj => by
      rw [← hadd]; exact (hfx i (by omega)).2 j hj
    refine ⟨b, o, rfl, lt_cell (b := b) (o := o + 0 * 5 + 0) (hc' 0 (by omega) 0 (by omega)), fun i hi => ?_⟩
    simp only [List.length_map, List.length_range] at hi
    rw [hat i hi]
    exact ⟨(f i).2.1, (f i).2.2, hc' i hi 0 (by omega), hc' i hi 1 (by omega), hc' i hi 2 (by omega), hc' i hi 3 (by omega), hc' i hi 4 (by omega), (hfx i (by omega)).1⟩
end
end Go.Proofs.Ytpakfgonemiebaa

/-
  What a path reads as that came in: a slice of steps of the laws' own type.
-/
namespace Go.Proofs.Ytpakfgonemiebaa
open Go.RowKit Go.Deep Go.ChangeShapes Go.WideShapes
set_option linter.unusedSimpArgs false
set_option linter.unusedVariables false

theorem wf64p {n : Int} (h : (Lit.int .i64 n).wf = true) : -9223372036854775808 ≤ n ∧ n ≤ 9223372036854775807 := by
  simp [Lit.wf, IntKind.min, IntKind.max, IntKind.signed, IntKind.bits] at h
  omega

theorem cells1bp : Try.prog.cellsOf 4 = 1 := by kernel_rfl
theorem cells1ip : Try.prog.cellsOf 2 = 1 := by kernel_rfl
theorem cells1sp : Try.prog.cellsOf 9 = 1 := by kernel_rfl
theorem cells3p : Try.prog.cellsOf 90 = 3 := by kernel_rfl

theorem lt_cellp {w : World} {b o : Nat} {v : Value} (h : w.cell? ⟨b, o, none⟩ = some v) : b < w.heap.size := by
  unfold World.cell? at h
  cases hb : w.heap[b]? with
  | none => simp [hb] at h
  | some x => exact (Array.getElem?_eq_some_iff.1 hb).1

section
variable {H : Type} {enc : TypeId × Value → H} {W : World} {base : Nat} {spare : Nat → Bool} {held : Bool}

set_option maxRecDepth 100000 in
theorem raw_step {fuel : Nat} {cs : List Value} {x : DataW H × List MemPlace} (h : DataW.trod enc Try.prog W base spare held fuel 90 cs = some x) :
    ∃ (y : PS), cs = [.bool y.named, .string y.key, .int .i64 y.pl] ∧ y.key.size ≤ 9223372036854775807 ∧ -9223372036854775808 ≤ y.pl ∧ y.pl ≤ 9223372036854775807 := by
  obtain ⟨xs, n, _, _, hl, hlen, hf⟩ := DataW.trod_struct Try.underlying90 h
  rw [cells3p] at hl
  match cs, hl with
  | [v0, v1, v2], _ =>
    have f0 := hf 0 _ rfl
    have f1 := hf 1 _ rfl
    have f2 := hf 2 _ rfl
    match xs, hlen with
    | [y0, y1, y2], _ =>
      simp [cells1ip, cells1sp, cells1bp] at f0 f1 f2
      obtain ⟨k, e0, _⟩ := DataW.trod_bool Try.underlying4 f0
      obtain ⟨s, e1, _, w1⟩ := DataW.trod_string Try.underlying9 f1
      obtain ⟨n', e2, _, w2⟩ := DataW.trod_int Try.underlying2 f2
      simp only [List.cons.injEq, and_true] at e0 e1 e2
      subst e0 e1 e2
      unfold maxLen at w1
      exact ⟨⟨k, s, n'⟩, rfl, by simp only; omega, (wf64p w2).1, (wf64p w2).2⟩

theorem raw_steps {fuel : Nat} {v : Value} {x : DataW H × List MemPlace} (h : DataW.trod enc Try.prog W base spare held fuel 44 [v] = some x) : ∃ ps, RawSteps W.heap.size W v ps := by
  rcases open_slice Try.underlying44 h with ⟨hcs, _⟩ | ⟨a, len, cap, m, n, D, Pl, hcs, _, hl, hm, hmm, _, hx⟩
  · refine ⟨[], by simp, fun i hi => absurd hi (by simp), none, 0, by simpa using hcs, fun hl => absurd hl (by simp)⟩
  · have hlen : len ≤ m := by rw [hmm]; split <;> omega
    have hm' : len ≤ 9223372036854775807 := by unfold maxLen at hm; omega
    rw [cells3p] at hx
    obtain ⟨f, hfx⟩ := @choose_lt PS ⟨PS.zero⟩ m (fun i q => (q.key.size ≤ 9223372036854775807 ∧ -9223372036854775808 ≤ q.pl ∧ q.pl ≤ 9223372036854775807) ∧ ∀ j, j < 3 → W.cell? ((a.add (i * 3)).add j) = [Value.bool q.named, .string q.key, .int .i64 q.pl][j]?) (fun i hi => by
      obtain ⟨cs', h1, h2⟩ := hx i hi
      obtain ⟨y, e, hy⟩ := raw_step h2
      subst e
      exact ⟨y, hy, (World.cells?_some h1).2.2⟩)
    have hat : ∀ i, i < len → stepAt ((List.range len).map f) i = f i := fun i hi => by simp [stepAt, hi]
    refine ⟨(List.range len).map f, by simp; omega, fun i hi => ?_, some a, cap, by simpa using hcs, fun hl0 => ?_⟩
    · simp only [List.length_map, List.length_range] at hi
      rw [hat i hi]
      exact (hfx i (by omega)).1
    simp only [List.length_map, List.length_range] at hl0
    obtain ⟨b, o, spot⟩ := a
    have hspot : spot = none := by
      have h0 := (hfx 0 (by omega)).2 0 (by omega)
      have h0' : W.cell? ⟨b, o, spot⟩ = some (.bool (f 0).named) := by simpa [Addr.add] using h0
      exact World.cell?_spot h0'
    subst hspot
    have hadd : ∀ i j, (Addr.add (Addr.add ⟨b, o, none⟩ (i * 3)) j) = ⟨b, o + i * 3 + j, none⟩ := fun i j => by
      rw [add_add]
      by_cases e : i * 3 + j = 0
      · unfold Addr.add
        rw [if_pos e]
        congr 1
        omega
      · unfold Addr.add
        rw [if_neg e]
        congr 1
        show o + (i * 3 + j) = o + i * 3 + j
        omega
    have hc' : ∀ i, i < len → ∀ j, j < 3 → W.cell? ⟨b, o + i * 3 + j, none⟩ = [Value.bool (f i).named, .string (f i).key, .int .i64 (f i).pl][j]? := fun i hi j hj => by
      rw [← hadd]; exact (hfx i (by omega)).2 j hj
    refine ⟨b, o, rfl, lt_cellp (b := b) (o := o + 0 * 3 + 0) (hc' 0 (by omega) 0 (by omega)), fun i hi => ?_⟩
    simp only [List.length_map, List.length_range] at hi
    rw [hat i hi]
    exact ⟨hc' i hi 0 (by omega), hc' i hi 1 (by omega), hc' i hi 2 (by omega)⟩
end
end Go.Proofs.Ytpakfgonemiebaa

/-
  PROVED: for every two lists of nodes and every list of steps the law FnExactLaid returns true: the program's Laid answers as the specification's, writes into no argument, and its answer has memory of its own. No condition beyond the row's own.
-/
namespace Go.Proofs.Ytpakfgonemiebaa
open Go.ChangeShapes Go.WideShapes Go.ChangeAt Go.RowKit
set_option linter.unusedVariables false

theorem laidL_own : ownKnob Try.prog.godebug = none := by kernel_rfl
theorem laidL_laidOut : laidOutB Try.prog = true := by kernel_rfl

set_option maxRecDepth 100000 in
theorem laidL_lifted (os : Os) (started : os.Started) (H : Type) (enc : TypeId × Value → H) :
    ReturnsInHanded {} Try.checked os 6 .any (Rows.fnExactLaidSpec.pre6 enc Try.prog Try.f6 Rows.fnExactLaidRow.domain false) (Rows.fnExactLaidSpec.post enc Try.prog Try.f6 false true false false) := by
  refine returnsInHanded_of_change (C := Try.checked) laidL_own started (by kernel_rfl) Try.func6
    (ChangeSpec.witness6 (enc := enc) (C := Try.checked) false ⟨#[], #[.slice none 0 0, .slice none 0 0, .slice none 0 0], []⟩ 8 (by kernel_rfl) (by kernel_rfl) (by kernel_rfl) (by kernel_rfl)) ?_
  intro W base args ds gs before hval0 hW hcnd _
  have hval : ∀ (j : Nat) t v, Try.f6.params[j]? = some t → args[j]? = some v → Value.okWide Try.prog W .any base t v := hval0
  have hW' := hW
  obtain ⟨p, q, hA0, hV, rfl, hfz, hnd⟩ := hW
  have hA : DataW.TrodAll enc Try.prog W 0 (fun _ => true) true Try.f6.params.toList args.toList ds p := hA0
  rw [Try.params6] at hA hval
  obtain ⟨v0, vs0, d0, ds0, p0, q0, hargs, rfl, rfl, h0, r0⟩ := trodAll_cons hA
  obtain ⟨v1, vs1, d1, ds1, p1, q1, hargs1, rfl, rfl, h1, r1⟩ := trodAll_cons r0
  obtain ⟨v2, vs2, d2, ds2, p2, q2, hargs2, rfl, rfl, h2, r2⟩ := trodAll_cons r1
  obtain ⟨rfl, rfl, rfl⟩ := trodAll_nil r2
  obtain rfl : args = #[v0, v1, v2] := by cases args; simp_all
  obtain ⟨rfl, rfl⟩ := trodVars_none hV
  obtain ⟨a0, len0, cap0, rfl⟩ := okWide_slice Try.underlying43 (hval 0 43 v0 rfl rfl)
  obtain ⟨a1, len1, cap1, rfl⟩ := okWide_slice Try.underlying44 (hval 1 44 v1 rfl rfl)
  obtain ⟨a2, len2, cap2, rfl⟩ := okWide_slice Try.underlying43 (hval 2 43 v2 rfl rfl)
  have k0 := h0
  have k1 := h1
  have k2 := h2
  have lt0 : ∀ x ∈ p0, x.block < W.heap.size := by obtain ⟨m, hm⟩ := k0; exact DataW.trod_lt m _ _ _ hm
  have lt1 : ∀ x ∈ p1, x.block < W.heap.size := by obtain ⟨m, hm⟩ := k1; exact DataW.trod_lt m _ _ _ hm
  have lt2 : ∀ x ∈ p2, x.block < W.heap.size := by obtain ⟨m, hm⟩ := k2; exact DataW.trod_lt m _ _ _ hm
  obtain ⟨us, w0⟩ : ∃ us, RawNodes W.heap.size W (.slice a0 len0 cap0) us := by
    obtain ⟨fuel, hf⟩ := h0
    exact raw_nodes (by simpa [Value.cells] using hf)
  obtain ⟨ps, w1⟩ : ∃ ps, RawSteps W.heap.size W (.slice a1 len1 cap1) ps := by
    obtain ⟨fuel, hf⟩ := h1
    exact raw_steps (by simpa [Value.cells] using hf)
  obtain ⟨zs, w2⟩ : ∃ zs, RawNodes W.heap.size W (.slice a2 len2 cap2) zs := by
    obtain ⟨fuel, hf⟩ := h2
    exact raw_nodes (by simpa [Value.cells] using hf)
  clear hA0 hval0
  refine (lawLaid_walk (.slice a0 len0 cap0) (.slice a1 len1 cap1) (.slice a2 len2 cap2) us ps zs W w0 w1 w2).mono fun e W' ⟨he, bel⟩ => ?_
  subst he
  exact ⟨_, rfl, _, _, _, [], _, [], hW', trodAll_mk1 (shut_bool Try.underlying4 _), (trodAll_cons_mk (Below.trod laidL_laidOut (by kernel_rfl) (of_decide_eq_true (by kernel_rfl)) k0 bel lt0) (trodAll_cons_mk (Below.trod laidL_laidOut (by kernel_rfl) (of_decide_eq_true (by kernel_rfl)) k1 bel lt1) (trodAll_cons_mk (Below.trod laidL_laidOut (by kernel_rfl) (of_decide_eq_true (by kernel_rfl)) k2 bel lt2) trodAll_mk0))), rfl, bel.frame _, fun h => by cases h⟩

theorem fnExactLaid_holds : Rows.FnExactLaidSaid :=
  OpenClaim.holds_of_wide 6 Try.f6 rfl rfl rfl rfl rfl rfl rfl ⟨rfl, rfl, rfl, rfl, rfl⟩ rfl rfl rfl rfl rfl (by kernel_rfl) Try.func6 (by kernel_rfl)
    (of_decide_eq_true (by kernel_rfl)) (by unfold Func.isWrapper; first | (rw [if_pos (by decide +kernel)]; kernel_rfl) | (rw [if_neg (by decide +kernel)]; exact ⟨rfl, rfl⟩))
    (fun os started H enc _ => laidL_lifted os started H enc)
#print axioms fnExactLaid_holds
end Go.Proofs.Ytpakfgonemiebaa
