/-
  The four functions that take sizes from a budget: each returns a number and only makes new memory; where the number is not below 0, nothing is greater than the budget was.
-/
import Derived.Test.YtehihemfepbmfaaGreatDoorRaw
import Derived.Test.YtehihemfepbmfaaGreatDoorProg
import Derived.Deep.Slices
import Derived.Deep.Strs
import Derived.KernelRfl
import Derived.OpenShut
namespace Go.Proofs.YtehihemfepbmfaaGreatDoor
open Go.RowKit
set_option linter.unusedSimpArgs false
set_option linter.unusedVariables false

set_option maxHeartbeats 400000 in
theorem szInt64S_any (B : Nat) (v : Value) (l : List Int) (r : Int) (w : World) (h : RawInts B w v l) (h1 : 0 ≤ r) (h2 : r ≤ 1048576) :
    Calls Tryz.prog 84 #[v, .int .i64 r] w fun e w' => (∃ q, e = .returned (.int .i64 q) ∧ q ≤ 1048576 ∧ (0 ≤ q → l.length ≤ 1048576)) ∧ w' = w := by
  obtain ⟨hlen, _, a, cap, rfl, _⟩ := h
  go_enter Tryz.func84, Tryz.ntmps84
  go_wp2
  · go_ret
    exact ⟨⟨_, rfl, by omega, fun h => by omega⟩, rfl⟩
  · go_ret
    exact ⟨⟨_, rfl, by omega, fun h => by omega⟩, rfl⟩

set_option maxHeartbeats 400000 in
theorem szStringS_any (B : Nat) (v : Value) (l : List ByteArray) (r : Int) (w : World) (h : RawStrs B w v l) (h1 : 0 ≤ r) (h2 : r ≤ 1048576) :
    Calls Tryz.prog 83 #[v, .int .i64 r] w fun e w' => (∃ q, e = .returned (.int .i64 q) ∧ q ≤ 1048576 ∧ (0 ≤ q → l.length ≤ 1048576 ∧ ∀ i, i < l.length → (keyAt l i).size ≤ 1048576)) ∧ w' = w := by
  obtain ⟨hlen, hsz, a, cap, rfl, hcell⟩ := h
  go_enter Tryz.func83, Tryz.ntmps83
  go_wp2
  · go_ret
    exact ⟨⟨_, rfl, by omega, fun h => by omega⟩, rfl⟩
  · go_loop [1, 5] (fun t i => ∃ (k : Nat) (q : Int), k ≤ l.length ∧ i = .int .i64 k ∧ t = .int .i64 q ∧ 0 ≤ q ∧ q ≤ 1048576 ∧ Hid (∀ j, j < k → (keyAt l j).size ≤ 1048576)) (fun _ i => l.length - (intOf i).toNat)
    case atStart => exact ⟨0, _, Nat.zero_le _, rfl, rfl, by omega, by omega, fun j hj => by omega⟩
    case round =>
      obtain ⟨k, q, hk, rfl, rfl, hq0, hq1, HS⟩ := hrel
      by_cases hlt : k < l.length
      · obtain ⟨b, o, rfl, _, hc⟩ := hcell (by omega)
        have hck := hc k hlt
        have hs := hsz k hlt
        clear hc hcell hsz
        go_wp2
        · go_ret
          exact ⟨⟨_, rfl, by omega, fun h => by omega⟩, rfl⟩
        · go_round
          case rel =>
            refine ⟨k + 1, _, by omega, by go_num, rfl, by omega, by omega, fun j hj => ?_⟩
            by_cases e : j = k
            · subst e; omega
            · exact HS.out j (by omega)
          case measure => simp [intOf]; omega
      · obtain rfl : k = l.length := by omega
        go_wp2
        go_ret
        exact ⟨⟨_, rfl, by omega, fun _ => ⟨by omega, HS.out⟩⟩, rfl⟩

set_option maxHeartbeats 800000 in
theorem szVNode_any (B : Nat) (x : VN) (ka ki : Value) (r : Int) (w : World) (h : RawIn B w x ka ki) (hB : B ≤ w.heap.size) (h1 : 0 ≤ r) (h2 : r ≤ 1048576) :
    Calls Tryz.prog 123 #[.agg #[.int .i64 x.kind, .int .i64 x.n, .string x.s, ka, ki], .int .i64 r] w fun e w' => (∃ q, e = .returned (.int .i64 q) ∧ q ≤ 1048576 ∧ (0 ≤ q → Small x)) ∧ Below w.heap.size w w' := by
  have hsz := h.size
  obtain ⟨_, _, a1, c1, e1, _⟩ := h.keys
  obtain ⟨_, _, a2, c2, e2, _⟩ := h.kids
  have hbel : ∀ (o : Obj), Below w.heap.size w (w.alloc o) := fun o => (Below.refl _ _).alloc (Nat.le_refl _) o
  have H := hideIt h
  subst e1 e2
  clear h
  go_enter Tryz.func123, Tryz.ntmps123
  go_wp2_with fail
  · go_ret
    exact ⟨⟨_, rfl, by omega, fun h => by omega⟩, hbel _⟩
  · refine (szStringS_any B _ _ _ _ (H.out.keys.below ((hbel _).mono hB)) (by omega) (by omega)).mono ?_
    rintro e w' ⟨⟨q, rfl, hq, hk⟩, rfl⟩
    have HK := hideIt hk
    have hle : (x.s.size : Int) ≤ 1048576 := by omega
    clear hk
    go_wp2_with fail
    · go_ret
      exact ⟨⟨_, rfl, by omega, fun h => by omega⟩, hbel _⟩
    · refine (szInt64S_any B _ _ _ _ (H.out.kids.below ((hbel _).mono hB)) (by omega) (by omega)).mono ?_
      rintro e w' ⟨⟨q', rfl, hq', hk'⟩, rfl⟩
      have HK' := hideIt hk'
      clear hk'
      have h0 : 0 ≤ q := by omega
      go_wp2_with fail
      · go_ret
        exact ⟨⟨_, rfl, by omega, fun h => by omega⟩, hbel _⟩
      · go_ret
        exact ⟨⟨_, rfl, by omega, fun h => ⟨by omega, (HK.out h0).1, (HK.out h0).2, HK'.out h⟩⟩, hbel _⟩

set_option maxHeartbeats 800000 in
theorem szVNodeS_any (B : Nat) (v : Value) (vs : List VN) (r : Int) (w : World) (h : RawNodes B w v vs) (hB : B ≤ w.heap.size) (h1 : 0 ≤ r) (h2 : r ≤ 1048576) :
    Calls Tryz.prog 82 #[v, .int .i64 r] w fun e w' => (∃ q, e = .returned (.int .i64 q) ∧ q ≤ 1048576 ∧ (0 ≤ q → vs.length ≤ 1048576 ∧ ∀ i, i < vs.length → Small (nodeAt vs i))) ∧ Below w.heap.size w w' := by
  obtain ⟨hlen, a, cap, rfl, hcell⟩ := h
  go_enter Tryz.func82, Tryz.ntmps82
  go_wp2_with fail
  · go_ret
    exact ⟨⟨_, rfl, by omega, fun h => by omega⟩, Below.refl _ _⟩
  · go_loopw [1, 5] (fun t i wr => ∃ (k : Nat) (q : Int), k ≤ vs.length ∧ i = .int .i64 k ∧ t = .int .i64 q ∧ 0 ≤ q ∧ q ≤ 1048576 ∧ Hid (∀ j, j < k → Small (nodeAt vs j)) ∧ Below w.heap.size w wr) (fun _ i _ => vs.length - (intOf i).toNat)
    case atStart => exact ⟨0, _, Nat.zero_le _, rfl, rfl, by omega, by omega, fun j hj => by omega, Below.refl _ _⟩
    case round =>
      obtain ⟨k, q, hk, rfl, rfl, hq0, hq1, HS, hbel⟩ := hrel
      by_cases hlt : k < vs.length
      · obtain ⟨b, o, rfl, hbB, hc⟩ := hcell (by omega)
        obtain ⟨ka, ki, hn⟩ := hc k hlt
        have hn' := hn.below (hbel.mono hB) hbB
        have c0 := hn'.c0
        have c1 := hn'.c1
        have c2 := hn'.c2
        have c3 := hn'.c3
        have c4 := hn'.c4
        have hin := hideIt hn'.inn
        have hsize := hbel.size
        clear hc hcell hn hn'
        go_wp2_with fail
        refine (szVNode_any B (nodeAt vs k) ka ki _ _ hin.out (by omega) (by omega) (by omega)).mono ?_
        rintro e w' ⟨⟨q', rfl, hq', hsm⟩, hb'⟩
        have hb2 : Below w.heap.size w w' := hbel.trans (hb'.mono hsize)
        have HM := hideIt hsm
        clear hsm
        go_wp2_with fail
        · go_ret
          exact ⟨⟨_, rfl, by omega, fun h => by omega⟩, hb2⟩
        · go_roundw
          case rel =>
            refine ⟨k + 1, _, by omega, by go_num, rfl, by omega, by omega, fun j hj => ?_, hb2⟩
            by_cases e : j = k
            · subst e; exact HM.out (by omega)
            · exact HS.out j (by omega)
          case measure => simp [intOf]; omega
      · obtain rfl : k = vs.length := by omega
        go_wp2_with fail
        go_ret
        exact ⟨⟨_, rfl, by omega, fun _ => ⟨by omega, HS.out⟩⟩, hbel⟩
end Go.Proofs.YtehihemfepbmfaaGreatDoor

/-
  What the arguments read as: slices of nodes of the laws' own type.
-/
namespace Go.Proofs.YtehihemfepbmfaaGreatDoor
open Go.RowKit Go.Deep Go.ChangeShapes Go.WideShapes
set_option linter.unusedSimpArgs false
set_option linter.unusedVariables false

theorem wf64 {n : Int} (h : (Lit.int .i64 n).wf = true) : -9223372036854775808 ≤ n ∧ n ≤ 9223372036854775807 := by
  simp [Lit.wf, IntKind.min, IntKind.max, IntKind.signed, IntKind.bits] at h
  omega

theorem cells1i : Tryz.prog.cellsOf 2 = 1 := by kernel_rfl
theorem cells1s : Tryz.prog.cellsOf 9 = 1 := by kernel_rfl
theorem cells1ks : Tryz.prog.cellsOf 48 = 1 := by kernel_rfl
theorem cells1ki : Tryz.prog.cellsOf 49 = 1 := by kernel_rfl
theorem cells5 : Tryz.prog.cellsOf 155 = 5 := by kernel_rfl

theorem lt_cell {w : World} {b o : Nat} {v : Value} (h : w.cell? ⟨b, o, none⟩ = some v) : b < w.heap.size := by
  unfold World.cell? at h
  cases hb : w.heap[b]? with
  | none => simp [hb] at h
  | some x => exact (Array.getElem?_eq_some_iff.1 hb).1

section
variable {H : Type} {enc : TypeId × Value → H} {W : World} {base : Nat} {spare : Nat → Bool} {held : Bool}

theorem raw_ints {fuel : Nat} {v : Value} {x : DataW H × List MemPlace} (h : DataW.trod enc Tryz.prog W base spare held fuel 49 [v] = some x) : ∃ l, RawInts W.heap.size W v l := by
  rcases open_ints Tryz.underlying49 Tryz.underlying2 cells1i h with ⟨hcs, _⟩ | ⟨a, len, cap, zs, hcs, _, hl, hm, hz, _, hcell, hwz⟩
  · refine ⟨[], by simp, fun i hi => absurd hi (by simp), none, 0, by simpa using hcs, fun hl => absurd hl (by simp)⟩
  · have hlen : len ≤ zs.length := by rw [hz]; split <;> omega
    have hlt : (zs.take len).length = len := by rw [List.length_take]; omega
    have hat : ∀ i, i < len → intAt (zs.take len) i = zs.getD i 0 := fun i hi => by simp [intAt, hi]
    have hm' : len ≤ 9223372036854775807 := by unfold maxLen at hm; omega
    refine ⟨zs.take len, by omega, fun i hi => ?_, some a, cap, by rw [hlt]; simpa using hcs, fun hl0 => ?_⟩
    · rw [hat i (by omega)]
      refine wf64 (hwz _ ?_)
      rw [List.getD_eq_getElem?_getD, List.getElem?_eq_getElem (by omega)]
      exact List.getElem_mem _
    · obtain ⟨b, o, spot⟩ := a
      have hc0 := hcell 0 (by omega)
      have hspot : spot = none := by simpa [Addr.add] using World.cell?_spot hc0
      subst hspot
      have hc' : ∀ i, i < len → W.cell? ⟨b, o + i, none⟩ = some (.int .i64 (zs.getD i 0)) := fun i hi => by
        have := hcell i (by omega)
        by_cases e : i = 0
        · subst e; simpa [Addr.add] using this
        · simpa [Addr.add, e] using this
      refine ⟨b, o, rfl, lt_cell (hc' 0 (by omega)), fun i hi => ?_⟩
      rw [hat i (by omega)]
      exact hc' i (by omega)

theorem raw_strs {fuel : Nat} {v : Value} {x : DataW H × List MemPlace} (h : DataW.trod enc Tryz.prog W base spare held fuel 48 [v] = some x) : ∃ l, RawStrs W.heap.size W v l := by
  rcases open_strs Tryz.underlying48 Tryz.underlying9 cells1s h with ⟨hcs, _⟩ | ⟨a, len, cap, m, Sx, hcs, _, hl, hm, hmm, _, hcell⟩
  · refine ⟨[], by simp, fun i hi => absurd hi (by simp), none, 0, by simpa using hcs, fun hl => absurd hl (by simp)⟩
  · have hlen : len ≤ m := by rw [hmm]; split <;> omega
    have hlt : ((List.range len).map Sx).length = len := by simp
    have hat : ∀ i, i < len → keyAt ((List.range len).map Sx) i = Sx i := fun i hi => by simp [keyAt, hi]
    have hm' : len ≤ 9223372036854775807 := by unfold maxLen at hm; omega
    refine ⟨(List.range len).map Sx, by omega, fun i hi => ?_, some a, cap, by rw [hlt]; simpa using hcs, fun hl0 => ?_⟩
    · rw [hat i (by omega)]
      have := (hcell i (by omega)).2
      unfold maxLen at this
      omega
    · obtain ⟨b, o, spot⟩ := a
      have hc0 := (hcell 0 (by omega)).1
      have hspot : spot = none := by simpa [Addr.add] using World.cell?_spot hc0
      subst hspot
      have hc' : ∀ i, i < len → W.cell? ⟨b, o + i, none⟩ = some (.string (Sx i)) := fun i hi => by
        have := (hcell i (by omega)).1
        by_cases e : i = 0
        · subst e; simpa [Addr.add] using this
        · simpa [Addr.add, e] using this
      refine ⟨b, o, rfl, lt_cell (hc' 0 (by omega)), fun i hi => ?_⟩
      rw [hat i (by omega)]
      exact hc' i (by omega)

set_option maxRecDepth 100000 in
theorem raw_node {fuel : Nat} {cs : List Value} {x : DataW H × List MemPlace} (h : DataW.trod enc Tryz.prog W base spare held fuel 155 cs = some x) :
    ∃ (y : VN) (ka ki : Value), cs = [.int .i64 y.kind, .int .i64 y.n, .string y.s, ka, ki] ∧ RawIn W.heap.size W y ka ki := by
  obtain ⟨xs, n, _, _, hl, hlen, hf⟩ := DataW.trod_struct Tryz.underlying155 h
  rw [cells5] at hl
  match cs, hl with
  | [v0, v1, v2, v3, v4], _ =>
    have f0 := hf 0 _ rfl
    have f1 := hf 1 _ rfl
    have f2 := hf 2 _ rfl
    have f3 := hf 3 _ rfl
    have f4 := hf 4 _ rfl
    match xs, hlen with
    | [y0, y1, y2, y3, y4], _ =>
      simp [cells1i, cells1s, cells1ks, cells1ki] at f0 f1 f2 f3 f4
      obtain ⟨k, e0, _, w0⟩ := DataW.trod_int Tryz.underlying2 f0
      obtain ⟨n', e1, _, w1⟩ := DataW.trod_int Tryz.underlying2 f1
      obtain ⟨s, e2, _, w2⟩ := DataW.trod_string Tryz.underlying9 f2
      obtain ⟨ks, r3⟩ := raw_strs f3
      obtain ⟨is, r4⟩ := raw_ints f4
      simp only [List.cons.injEq, and_true] at e0 e1 e2
      subst e0 e1 e2
      unfold maxLen at w2
      exact ⟨⟨k, n', s, ks, is⟩, v3, v4, rfl, r3, r4, by simp only; omega, (wf64 w0).1, (wf64 w0).2, (wf64 w1).1, (wf64 w1).2⟩

theorem raw_nodes {fuel : Nat} {v : Value} {x : DataW H × List MemPlace} (h : DataW.trod enc Tryz.prog W base spare held fuel 80 [v] = some x) : ∃ vs, RawNodes W.heap.size W v vs := by
  rcases open_slice Tryz.underlying80 h with ⟨hcs, _⟩ | ⟨a, len, cap, m, n, D, Pl, hcs, _, hl, hm, hmm, _, hx⟩
  · refine ⟨[], by simp, none, 0, by simpa using hcs, fun hl => absurd hl (by simp)⟩
  · have hlen : len ≤ m := by rw [hmm]; split <;> omega
    have hm' : len ≤ 9223372036854775807 := by unfold maxLen at hm; omega
    rw [cells5] at hx
    obtain ⟨f, hfx⟩ := @choose_lt (VN × Value × Value) ⟨(VN.zero, undef, undef)⟩ m (fun i q => RawIn W.heap.size W q.1 q.2.1 q.2.2 ∧ ∀ j, j < 5 → W.cell? ((a.add (i * 5)).add j) = [Value.int .i64 q.1.kind, .int .i64 q.1.n, .string q.1.s, q.2.1, q.2.2][j]?) (fun i hi => by
      obtain ⟨cs', h1, h2⟩ := hx i hi
      obtain ⟨y, ka, ki, e, hy⟩ := raw_node h2
      subst e
      exact ⟨(y, ka, ki), hy, (World.cells?_some h1).2.2⟩)
    have hat : ∀ i, i < len → nodeAt ((List.range len).map fun i => (f i).1) i = (f i).1 := fun i hi => by simp [nodeAt, hi]
    refine ⟨(List.range len).map fun i => (f i).1, by simp; omega, some a, cap, by simpa using hcs, fun hl0 => ?_⟩
    simp only [List.length_map, List.length_range] at hl0
    obtain ⟨b, o, spot⟩ := a
    have hspot : spot = none := by
      have h0 := (hfx 0 (by omega)).2 0 (by omega)
      have h0' : W.cell? ⟨b, o, spot⟩ = some (.int .i64 (f 0).1.kind) := by simpa [Addr.add] using h0
      exact World.cell?_spot h0'
    subst hspot
    have hadd : ∀ i j, (Addr.add (Addr.add ⟨b, o, none⟩ (i * 5)) j) = ⟨b, o + i * 5 + j, none⟩ := fun i j => by
      rw [add_add]
      by_cases e : i * 5 + j = 0
      · unfold Addr.add
        rw [if_pos e]
        congr 1
        omega
      · unfold Addr.add
        rw [if_neg e]
        congr 1
        show o + (i * 5 + j) = o + i * 5 + j
        omega
    have hc' : ∀ i, i < len → ∀ j, j < 5 → W.cell? ⟨b, o + i * 5 + j, none⟩ = [Value.int .i64 (f i).1.kind, .int .i64 (f i).1.n, .string (f i).1.s, (f i).2.1, (f i).2.2][j]? := fun i hi j hj => by
      rw [← hadd]; exact (hfx i (by omega)).2 j hj
    refine ⟨b, o, rfl, lt_cell (b := b) (o := o + 0 * 5 + 0) (hc' 0 (by omega) 0 (by omega)), fun i hi => ?_⟩
    simp only [List.length_map, List.length_range] at hi
    rw [hat i hi]
    exact ⟨(f i).2.1, (f i).2.2, hc' i hi 0 (by omega), hc' i hi 1 (by omega), hc' i hi 2 (by omega), hc' i hi 3 (by omega), hc' i hi 4 (by omega), (hfx i (by omega)).1⟩
end
end Go.Proofs.YtehihemfepbmfaaGreatDoor
