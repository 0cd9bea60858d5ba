/-
  Nodes of filters that came in: of whatever length; what the law's size check says of them; what an argument reads as.
-/
import Derived.Test.YtbclgogolimbgaaFP
import Derived.Test.YtbclgogolimbgaaSz
import Derived.Test.YtbclgogolimbgaaOpen
namespace Go.Proofs.Ytbclgogolimbgaa
open Go.RowKit Go.Deep Go.ChangeShapes Go.WideShapes
set_option linter.unusedSimpArgs false
set_option linter.unusedVariables false
set_option linter.unusedSectionVars false

structure RawFIn (B : Nat) (w : World) (x : FN) (kc kn ki : Value) : Prop where
  cst : RawNodes B w kc x.cst
  names : RawStrs B w kn x.names
  kids : RawInts B w ki x.kids
  size : x.name.size ≤ 9223372036854775807
  klo : -9223372036854775808 ≤ x.kind
  khi : x.kind ≤ 9223372036854775807
  nlo : -9223372036854775808 ≤ x.place
  nhi : x.place ≤ 9223372036854775807

structure RawFAt (B : Nat) (w : World) (b o : Nat) (x : FN) (kc kn ki : Value) : Prop where
  c0 : w.cell? ⟨b, o, none⟩ = some (.int .i64 x.kind)
  c1 : w.cell? ⟨b, o + 1, none⟩ = some (.string x.name)
  c2 : w.cell? ⟨b, o + 2, none⟩ = some (.int .i64 x.place)
  c3 : w.cell? ⟨b, o + 3, none⟩ = some kc
  c4 : w.cell? ⟨b, o + 4, none⟩ = some kn
  c5 : w.cell? ⟨b, o + 5, none⟩ = some ki
  inn : RawFIn B w x kc kn ki

def RawFNodes (B : Nat) (w : World) (v : Value) (fs : List FN) : Prop :=
  fs.length ≤ 9223372036854775807 ∧ ∃ a cap, v = .slice a fs.length cap ∧ (0 < fs.length → ∃ b o, a = some ⟨b, o, none⟩ ∧ b < B ∧ ∀ i, i < fs.length → ∃ kc kn ki, RawFAt B w b (o + i * 6) (fnAt fs i) kc kn ki)

structure SmallF (x : FN) : Prop where
  s : x.name.size ≤ 1048576
  cn : x.cst.length ≤ 1048576
  cs : ∀ i, i < x.cst.length → Small (nodeAt x.cst i)
  nn : x.names.length ≤ 1048576
  ns : ∀ i, i < x.names.length → (keyAt x.names i).size ≤ 1048576
  ki : x.kids.length ≤ 1048576

theorem RawFIn.fit {B : Nat} {w : World} {x : FN} {kc kn ki : Value} (h : RawFIn B w x kc kn ki) (hs : SmallF x) : FNodeIn B w x kc kn ki :=
  ⟨h.cst.fit hs.cn hs.cs, h.names.fit hs.nn hs.ns, h.kids.fit hs.ki, by have := hs.s; omega, h.klo, h.khi, h.nlo, h.nhi⟩

theorem RawFNodes.fit {B : Nat} {w : World} {v : Value} {fs : List FN} (h : RawFNodes B w v fs) (hn : fs.length ≤ 1048576) (hs : ∀ i, i < fs.length → SmallF (fnAt fs i)) : FNodesAt B w v fs := by
  obtain ⟨_, a, cap, e, h3⟩ := h
  refine ⟨by omega, a, cap, e, fun hl => ?_⟩
  obtain ⟨b, o, ea, hb, hc⟩ := h3 hl
  refine ⟨b, o, ea, hb, fun i hi => ?_⟩
  obtain ⟨kc, kn, ki, hn'⟩ := hc i hi
  exact ⟨kc, kn, ki, hn'.c0, hn'.c1, hn'.c2, hn'.c3, hn'.c4, hn'.c5, hn'.inn.fit (hs i hi)⟩

theorem RawFIn.below {B : Nat} {w w' : World} {x : FN} {kc kn ki : Value} (h : RawFIn B w x kc kn ki) (hb : Below B w w') : RawFIn B w' x kc kn ki :=
  { h with cst := h.cst.below hb, names := h.names.below hb, kids := h.kids.below hb }
theorem RawFAt.below {B : Nat} {w w' : World} {b o : Nat} {x : FN} {kc kn ki : Value} (h : RawFAt B w b o x kc kn ki) (hb : Below B w w') (hB : b < B) : RawFAt B w' b o x kc kn ki :=
  ⟨(below_cell hb hB).trans h.c0, (below_cell hb hB).trans h.c1, (below_cell hb hB).trans h.c2, (below_cell hb hB).trans h.c3, (below_cell hb hB).trans h.c4, (below_cell hb hB).trans h.c5, h.inn.below hb⟩

set_option maxHeartbeats 1600000 in
theorem szFNode_any (B : Nat) (x : FN) (kc kn ki : Value) (r : Int) (w : World) (h : RawFIn B w x kc kn ki) (hB : B ≤ w.heap.size) (h1 : 0 ≤ r) (h2 : r ≤ 1048576) :
    Calls Try.prog 65 #[.agg #[.int .i64 x.kind, .string x.name, .int .i64 x.place, kc, kn, ki], .int .i64 r] w fun e w' => (∃ q, e = .returned (.int .i64 q) ∧ q ≤ 1048576 ∧ (0 ≤ q → SmallF x)) ∧ Below w.heap.size w w' := by
  have hsz := h.size
  have H := hideIt h
  obtain ⟨_, a0, c0, e0, _⟩ := h.cst
  obtain ⟨_, _, a1, c1, e1, _⟩ := h.names
  obtain ⟨_, _, a2, c2, e2, _⟩ := h.kids
  subst e0 e1 e2
  clear h
  obtain ⟨W1, hW1⟩ : ∃ W1, W1 = w.alloc (.cells #[.int .i64 x.kind, .string x.name, .int .i64 x.place, .slice a0 x.cst.length c0, .slice a1 x.names.length c1, .slice a2 x.kids.length c2] 101) := ⟨_, rfl⟩
  have d1 : W1.cell? ⟨w.heap.size, 1, none⟩ = some (.string x.name) := by rw [hW1]; simp
  have d3 : W1.cell? ⟨w.heap.size, 3, none⟩ = some (.slice a0 x.cst.length c0) := by rw [hW1]; simp
  have d4 : W1.cell? ⟨w.heap.size, 4, none⟩ = some (.slice a1 x.names.length c1) := by rw [hW1]; simp
  have d5 : W1.cell? ⟨w.heap.size, 5, none⟩ = some (.slice a2 x.kids.length c2) := by rw [hW1]; simp
  have HZ : Hid (W1.heap.size = w.heap.size + 1) := by rw [Hid, hW1]; simp
  have HBW : Hid (Below w.heap.size w W1) := by rw [Hid, hW1]; exact (Below.refl _ _).alloc (Nat.le_refl _) _
  have HW1 := hideIt hW1
  clear hW1
  by_cases hn : r < (x.name.size : Int)
  · have hn' : r - (x.name.size : Int) < 0 := by omega
    go_enter Try.func65, Try.ntmps65
    go_wp2_with fail
    rw [← HW1.out]
    go_ret
    exact ⟨⟨_, rfl, by omega, fun h => by omega⟩, HBW.out⟩
  have hn' : ¬ r - (x.name.size : Int) < 0 := by omega
  go_enter Try.func65, Try.ntmps65
  go_wp2_with fail
  rw [← HW1.out]
  refine (szVNodeS_any B _ x.cst _ W1 (H.out.cst.below (HBW.out.mono hB)) (by rw [HZ.out]; omega) (by omega) (by omega)).mono ?_
  rintro e w2 ⟨⟨q, rfl, hq, hk⟩, hb2⟩
  have HK := hideIt hk
  have j4 := (below_cell hb2 (show w.heap.size < W1.heap.size by rw [HZ.out]; omega)).trans d4
  have j5 := (below_cell hb2 (show w.heap.size < W1.heap.size by rw [HZ.out]; omega)).trans d5
  have HB2 : Hid (Below w.heap.size w w2) := HBW.out.trans (hb2.mono (by rw [HZ.out]; omega))
  clear hk hb2 d1 d3 d4 d5
  by_cases hq0 : q < 0
  · go_wp2_with fail
    go_ret
    exact ⟨⟨_, rfl, by omega, fun h => by omega⟩, HB2.out⟩
  go_wp2_with fail
  refine (szStringS_any B _ _ _ _ (H.out.names.below (HB2.out.mono hB)) (by omega) (by omega)).mono ?_
  rintro e w3 ⟨⟨q', rfl, hq', hk'⟩, hw3⟩
  subst hw3
  have HK' := hideIt hk'
  clear hk'
  by_cases hq1 : q' < 0
  · go_wp2_with fail
    go_ret
    exact ⟨⟨_, rfl, by omega, fun h => by omega⟩, HB2.out⟩
  go_wp2_with fail
  refine (szInt64S_any B _ _ _ _ (H.out.kids.below (HB2.out.mono hB)) (by omega) (by omega)).mono ?_
  rintro e w3 ⟨⟨q2, rfl, hq2, hk2⟩, hw3⟩
  subst hw3
  have HK2 := hideIt hk2
  clear hk2
  by_cases hq3 : q2 < 0
  · go_wp2_with fail
    go_ret
    exact ⟨⟨_, rfl, by omega, fun h => by omega⟩, HB2.out⟩
  go_wp2_with fail
  go_ret
  exact ⟨⟨_, rfl, by omega, fun h => ⟨by omega, (HK.out (by omega)).1, (HK.out (by omega)).2, (HK'.out (by omega)).1, (HK'.out (by omega)).2, HK2.out (by omega)⟩⟩, HB2.out⟩

set_option maxHeartbeats 1600000 in
theorem szFNodeS_any (B : Nat) (v : Value) (fs : List FN) (r : Int) (w : World) (h : RawFNodes B w v fs) (hB : B ≤ w.heap.size) (h1 : 0 ≤ r) (h2 : r ≤ 1048576) :
    Calls Try.prog 31 #[v, .int .i64 r] w fun e w' => (∃ q, e = .returned (.int .i64 q) ∧ q ≤ 1048576 ∧ (0 ≤ q → fs.length ≤ 1048576 ∧ ∀ i, i < fs.length → SmallF (fnAt fs i))) ∧ Below w.heap.size w w' := by
  obtain ⟨hlen, a, cap, rfl, hcell⟩ := h
  have HC := hideIt hcell
  clear hcell
  go_enter Try.func31, Try.ntmps31
  go_wp2_with fail
  · go_ret
    exact ⟨⟨_, rfl, by omega, fun h => by omega⟩, Below.refl _ _⟩
  · go_loopw [1, 5] (fun t i wr => ∃ (k : Nat) (q : Int), k ≤ fs.length ∧ i = .int .i64 k ∧ t = .int .i64 q ∧ 0 ≤ q ∧ q ≤ 1048576 ∧ Hid (∀ j, j < k → SmallF (fnAt fs j)) ∧ Below w.heap.size w wr) (fun _ i _ => fs.length - (intOf i).toNat)
    case atStart => exact ⟨0, _, Nat.zero_le _, rfl, rfl, by omega, by omega, fun j hj => by omega, Below.refl _ _⟩
    case round =>
      obtain ⟨k, q, hk, rfl, rfl, hq0, hq1, HS, hbel⟩ := hrel
      by_cases hlt : k < fs.length
      · obtain ⟨b, o, rfl, hbB, hc⟩ := HC.out (by omega)
        obtain ⟨kc, kn, ki, hn⟩ := hc k hlt
        have hn' := hn.below (hbel.mono hB) hbB
        have c0 := hn'.c0
        have c1 := hn'.c1
        have c2 := hn'.c2
        have c3 := hn'.c3
        have c4 := hn'.c4
        have c5 := hn'.c5
        have hin := hideIt hn'.inn
        have hsize := hbel.size
        clear hc hn hn'
        go_wp2_with fail
        refine (szFNode_any B (fnAt fs k) kc kn ki _ _ hin.out (by omega) (by omega) (by omega)).mono ?_
        rintro e w' ⟨⟨q', rfl, hq', hsm⟩, hb'⟩
        have hb2 : Below w.heap.size w w' := hbel.trans (hb'.mono hsize)
        have HM := hideIt hsm
        clear hsm
        go_wp2_with fail
        · go_ret
          exact ⟨⟨_, rfl, by omega, fun h => by omega⟩, hb2⟩
        · go_roundw
          case rel =>
            refine ⟨k + 1, _, by omega, by go_num, rfl, by omega, by omega, fun j hj => ?_, hb2⟩
            by_cases e : j = k
            · subst e; exact HM.out (by omega)
            · exact HS.out j (by omega)
          case measure => simp [intOf]; omega
      · obtain rfl : k = fs.length := by omega
        go_wp2_with fail
        go_ret
        exact ⟨⟨_, rfl, by omega, fun _ => ⟨by omega, HS.out⟩⟩, hbel⟩

theorem cells1kv : Try.prog.cellsOf 40 = 1 := by kernel_rfl
theorem cells6 : Try.prog.cellsOf 101 = 6 := by kernel_rfl

section
variable {H : Type} {enc : TypeId × Value → H} {W : World} {base : Nat} {spare : Nat → Bool} {held : Bool}

set_option maxRecDepth 100000 in
theorem raw_fnode {fuel : Nat} {cs : List Value} {x : DataW H × List MemPlace} (h : DataW.trod enc Try.prog W base spare held fuel 101 cs = some x) :
    ∃ (y : FN) (kc kn ki : Value), cs = [.int .i64 y.kind, .string y.name, .int .i64 y.place, kc, kn, ki] ∧ RawFIn W.heap.size W y kc kn ki := by
  obtain ⟨xs, n, _, _, hl, hlen, hf⟩ := DataW.trod_struct Try.underlying101 h
  rw [cells6] at hl
  match cs, hl with
  | [v0, v1, v2, v3, v4, v5], _ =>
    have f0 := hf 0 _ rfl
    have f1 := hf 1 _ rfl
    have f2 := hf 2 _ rfl
    have f3 := hf 3 _ rfl
    have f4 := hf 4 _ rfl
    have f5 := hf 5 _ rfl
    match xs, hlen with
    | [y0, y1, y2, y3, y4, y5], _ =>
      simp [cells1i, cells1s, cells1ks, cells1ki, cells1kv] at f0 f1 f2 f3 f4 f5
      obtain ⟨k, e0, _, w0⟩ := DataW.trod_int Try.underlying2 f0
      obtain ⟨s, e1, _, w1⟩ := DataW.trod_string Try.underlying9 f1
      obtain ⟨p, e2, _, w2⟩ := DataW.trod_int Try.underlying2 f2
      obtain ⟨vs, r3⟩ := raw_nodes f3
      obtain ⟨ks, r4⟩ := raw_strs f4
      obtain ⟨is, r5⟩ := raw_ints f5
      simp only [List.cons.injEq, and_true] at e0 e1 e2
      subst e0 e1 e2
      unfold maxLen at w1
      exact ⟨⟨k, s, p, vs, ks, is⟩, v3, v4, v5, rfl, r3, r4, r5, by simp only; omega, (wf64 w0).1, (wf64 w0).2, (wf64 w2).1, (wf64 w2).2⟩

theorem raw_fnodes {fuel : Nat} {v : Value} {x : DataW H × List MemPlace} (h : DataW.trod enc Try.prog W base spare held fuel 50 [v] = some x) : ∃ fs, RawFNodes W.heap.size W v fs := by
  rcases open_slice Try.underlying50 h with ⟨hcs, _⟩ | ⟨a, len, cap, m, n, D, Pl, hcs, _, hl, hm, hmm, _, hx⟩
  · refine ⟨[], by simp, none, 0, by simpa using hcs, fun hl => absurd hl (by simp)⟩
  · have hlen : len ≤ m := by rw [hmm]; split <;> omega
    have hm' : len ≤ 9223372036854775807 := by unfold maxLen at hm; omega
    rw [cells6] at hx
    obtain ⟨f, hfx⟩ := @choose_lt (FN × Value × Value × Value) ⟨(FN.zero, undef, undef, undef)⟩ m (fun i q => RawFIn W.heap.size W q.1 q.2.1 q.2.2.1 q.2.2.2 ∧ ∀ j, j < 6 → W.cell? ((a.add (i * 6)).add j) = [Value.int .i64 q.1.kind, .string q.1.name, .int .i64 q.1.place, q.2.1, q.2.2.1, q.2.2.2][j]?) (fun i hi => by
      obtain ⟨cs', h1, h2⟩ := hx i hi
      obtain ⟨y, kc, kn, ki, e, hy⟩ := raw_fnode h2
      subst e
      exact ⟨(y, kc, kn, ki), hy, (World.cells?_some h1).2.2⟩)
    have hat : ∀ i, i < len → fnAt ((List.range len).map fun i => (f i).1) i = (f i).1 := fun i hi => by simp [fnAt, hi]
    refine ⟨(List.range len).map fun i => (f i).1, by simp; omega, some a, cap, by simpa using hcs, fun hl0 => ?_⟩
    simp only [List.length_map, List.length_range] at hl0
    obtain ⟨b, o, spot⟩ := a
    have hspot : spot = none := by
      have h0 := (hfx 0 (by omega)).2 0 (by omega)
      have h0' : W.cell? ⟨b, o, spot⟩ = some (.int .i64 (f 0).1.kind) := by simpa [Addr.add] using h0
      exact World.cell?_spot h0'
    subst hspot
    have hadd : ∀ i j, (Addr.add (Addr.add ⟨b, o, none⟩ (i * 6)) j) = ⟨b, o + i * 6 + j, none⟩ := fun i j => by
      rw [add_add]
      by_cases e : i * 6 + j = 0
      · unfold Addr.add
        rw [if_pos e]
        congr 1
        omega
      · unfold Addr.add
        rw [if_neg e]
        congr 1
        show o + (i * 6 + j) = o + i * 6 + j
        omega
    have hc' : ∀ i, i < len → ∀ j, j < 6 → W.cell? ⟨b, o + i * 6 + j, none⟩ = [Value.int .i64 (f i).1.kind, .string (f i).1.name, .int .i64 (f i).1.place, (f i).2.1, (f i).2.2.1, (f i).2.2.2][j]? := fun i hi j hj => by
      rw [← hadd]; exact (hfx i (by omega)).2 j hj
    refine ⟨b, o, rfl, lt_cell (b := b) (o := o + 0 * 6 + 0) (hc' 0 (by omega) 0 (by omega)), fun i hi => ?_⟩
    simp only [List.length_map, List.length_range] at hi
    rw [hat i hi]
    exact ⟨(f i).2.1, (f i).2.2.1, (f i).2.2.2, hc' i hi 0 (by omega), hc' i hi 1 (by omega), hc' i hi 2 (by omega), hc' i hi 3 (by omega), hc' i hi 4 (by omega), hc' i hi 5 (by omega), (hfx i (by omega)).1⟩
end
end Go.Proofs.Ytbclgogolimbgaa
