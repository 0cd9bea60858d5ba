/-
  The functions that take sizes from a budget, once more: what is left and what was there say together how much it was; rows of rows of nodes, too.
-/
import Derived.Test.YtpfnkpkcjefelaaSz
import Derived.Test.YtpfnkpkcjefelaaMarkN
namespace Go.Proofs.Ytpfnkpkcjefelaa
open Go.RowKit
set_option linter.unusedSimpArgs false
set_option linter.unusedVariables false

set_option maxHeartbeats 400000 in
theorem szInt64S_w (B : Nat) (v : Value) (l : List Int) (r : Int) (w : World) (h : RawInts B w v l) (h1 : 0 ≤ r) (h2 : r ≤ 1048576) :
    Calls Try.prog 105 #[v, .int .i64 r] w fun e w' => (∃ q, e = .returned (.int .i64 q) ∧ q ≤ 1048576 ∧ (0 ≤ q → q + l.length ≤ r)) ∧ w' = w := by
  obtain ⟨hlen, _, a, cap, rfl, _⟩ := h
  go_enter Try.func105, Try.ntmps105
  go_wp2
  · go_ret
    exact ⟨⟨_, rfl, by omega, fun h => by omega⟩, rfl⟩
  · go_ret
    exact ⟨⟨_, rfl, by omega, fun h => by omega⟩, rfl⟩

set_option maxHeartbeats 400000 in
theorem szStringS_w (B : Nat) (v : Value) (l : List ByteArray) (r : Int) (w : World) (h : RawStrs B w v l) (h1 : 0 ≤ r) (h2 : r ≤ 1048576) :
    Calls Try.prog 42 #[v, .int .i64 r] w fun e w' => (∃ q, e = .returned (.int .i64 q) ∧ q ≤ 1048576 ∧ (0 ≤ q → q + l.length ≤ r ∧ ∀ i, i < l.length → (keyAt l i).size ≤ 1048576)) ∧ w' = w := by
  obtain ⟨hlen, hsz, a, cap, rfl, hcell⟩ := h
  go_enter Try.func42, Try.ntmps42
  go_wp2
  · go_ret
    exact ⟨⟨_, rfl, by omega, fun h => by omega⟩, rfl⟩
  · go_loop [1, 5] (fun t i => ∃ (k : Nat) (q : Int), k ≤ l.length ∧ i = .int .i64 k ∧ t = .int .i64 q ∧ 0 ≤ q ∧ q + l.length ≤ r ∧ Hid (∀ j, j < k → (keyAt l j).size ≤ 1048576)) (fun _ i => l.length - (intOf i).toNat)
    case atStart => exact ⟨0, _, Nat.zero_le _, rfl, rfl, by omega, by omega, fun j hj => by omega⟩
    case round =>
      obtain ⟨k, q, hk, rfl, rfl, hq0, hq1, HS⟩ := hrel
      by_cases hlt : k < l.length
      · obtain ⟨b, o, rfl, _, hc⟩ := hcell (by omega)
        have hck := hc k hlt
        have hs := hsz k hlt
        clear hc hcell hsz
        go_wp2
        · go_ret
          exact ⟨⟨_, rfl, by omega, fun h => by omega⟩, rfl⟩
        · go_round
          case rel =>
            refine ⟨k + 1, _, by omega, by go_num, rfl, by omega, by omega, fun j hj => ?_⟩
            by_cases e : j = k
            · subst e; omega
            · exact HS.out j (by omega)
          case measure => simp [intOf]; omega
      · obtain rfl : k = l.length := by omega
        go_wp2
        go_ret
        exact ⟨⟨_, rfl, by omega, fun _ => ⟨by omega, HS.out⟩⟩, rfl⟩

set_option maxHeartbeats 800000 in
theorem szVNode_w (B : Nat) (x : VN) (ka ki : Value) (r : Int) (w : World) (h : RawIn B w x ka ki) (hB : B ≤ w.heap.size) (h1 : 0 ≤ r) (h2 : r ≤ 1048576) :
    Calls Try.prog 77 #[.agg #[.int .i64 x.kind, .int .i64 x.n, .string x.s, ka, ki], .int .i64 r] w fun e w' => (∃ q, e = .returned (.int .i64 q) ∧ q ≤ 1048576 ∧ (0 ≤ q → Small x ∧ q + x.keys.length + x.kids.length ≤ r)) ∧ Below w.heap.size w w' := by
  have hsz := h.size
  obtain ⟨_, _, a1, c1, e1, _⟩ := h.keys
  obtain ⟨_, _, a2, c2, e2, _⟩ := h.kids
  have hbel : ∀ (o : Obj), Below w.heap.size w (w.alloc o) := fun o => (Below.refl _ _).alloc (Nat.le_refl _) o
  have H := hideIt h
  subst e1 e2
  clear h
  go_enter Try.func77, Try.ntmps77
  go_wp2_with fail
  · go_ret
    exact ⟨⟨_, rfl, by omega, fun h => by omega⟩, hbel _⟩
  · refine (szStringS_w B _ _ _ _ (H.out.keys.below ((hbel _).mono hB)) (by omega) (by omega)).mono ?_
    rintro e w' ⟨⟨q, rfl, hq, hk⟩, rfl⟩
    have HK := hideIt hk
    have hle : (x.s.size : Int) ≤ 1048576 := by omega
    clear hk
    go_wp2_with fail
    · go_ret
      exact ⟨⟨_, rfl, by omega, fun h => by omega⟩, hbel _⟩
    · have h0 : 0 ≤ q := by omega
      have hq2 := (HK.out h0).1
      refine (szInt64S_w B _ _ _ _ (H.out.kids.below ((hbel _).mono hB)) (by omega) (by omega)).mono ?_
      rintro e w' ⟨⟨q', rfl, hq', hk'⟩, rfl⟩
      have HK' := hideIt hk'
      clear hk'
      go_wp2_with fail
      · go_ret
        exact ⟨⟨_, rfl, by omega, fun h => by omega⟩, hbel _⟩
      · go_ret
        refine ⟨⟨_, rfl, by omega, fun h => ?_⟩, hbel _⟩
        have h3 := HK'.out h
        exact ⟨⟨by omega, by omega, (HK.out h0).2, by omega⟩, by omega⟩

def knW (vs : List VN) (i : Nat) : Nat := (nodeAt vs i).keys.length
def inW (vs : List VN) (i : Nat) : Nat := (nodeAt vs i).kids.length

/-- How many marks a row of nodes has. -/
def wt (vs : List VN) : Nat := off (knW vs) (inW vs) 0 vs.length

set_option maxHeartbeats 800000 in
theorem szVNodeS_w (B : Nat) (v : Value) (vs : List VN) (r : Int) (w : World) (h : RawNodes B w v vs) (hB : B ≤ w.heap.size) (h1 : 0 ≤ r) (h2 : r ≤ 1048576) :
    Calls Try.prog 33 #[v, .int .i64 r] w fun e w' => (∃ q, e = .returned (.int .i64 q) ∧ q ≤ 1048576 ∧ (0 ≤ q → vs.length ≤ 1048576 ∧ (∀ i, i < vs.length → Small (nodeAt vs i)) ∧ wt vs + 3 * q ≤ 3 * r)) ∧ Below w.heap.size w w' := by
  have HW : Hid (wt vs = off (knW vs) (inW vs) 0 vs.length) := rfl
  obtain ⟨hlen, a, cap, rfl, hcell⟩ := h
  go_enter Try.func33, Try.ntmps33
  go_wp2_with fail
  · go_ret
    exact ⟨⟨_, rfl, by omega, fun h => by omega⟩, Below.refl _ _⟩
  · go_loopw [1, 5] (fun t i wr => ∃ (k : Nat) (q : Int), k ≤ vs.length ∧ i = .int .i64 k ∧ t = .int .i64 q ∧ 0 ≤ q ∧ q ≤ r ∧ Hid (∀ j, j < k → Small (nodeAt vs j)) ∧ Hid ((off (knW vs) (inW vs) 0 k : Int) + 3 * q + 3 * (vs.length - k) ≤ 3 * r) ∧ Below w.heap.size w wr) (fun _ i _ => vs.length - (intOf i).toNat)
    case atStart => exact ⟨0, _, Nat.zero_le _, rfl, rfl, by omega, by omega, fun j hj => by omega, by simp [Hid, off]; omega, Below.refl _ _⟩
    case round =>
      obtain ⟨k, q, hk, rfl, rfl, hq0, hq1, HS, HO, hbel⟩ := hrel
      by_cases hlt : k < vs.length
      · obtain ⟨b, o, rfl, hbB, hc⟩ := hcell (by omega)
        obtain ⟨ka, ki, hn⟩ := hc k hlt
        have hn' := hn.below (hbel.mono hB) hbB
        have c0 := hn'.c0
        have c1 := hn'.c1
        have c2 := hn'.c2
        have c3 := hn'.c3
        have c4 := hn'.c4
        have hin := hideIt hn'.inn
        have hsize := hbel.size
        clear hc hcell hn hn'
        go_wp2_with fail
        refine (szVNode_w B (nodeAt vs k) ka ki _ _ hin.out (by omega) (by omega) (by omega)).mono ?_
        rintro e w' ⟨⟨q', rfl, hq', hsm⟩, hb'⟩
        have hb2 : Below w.heap.size w w' := hbel.trans (hb'.mono hsize)
        have HM := hideIt hsm
        clear hsm
        go_wp2_with fail
        · go_ret
          exact ⟨⟨_, rfl, by omega, fun h => by omega⟩, hb2⟩
        · have hm2 := hideIt (HM.out (by omega)).2
          have hle : q' ≤ q := by have := hm2.out; omega
          have HO2 : Hid ((off (knW vs) (inW vs) 0 (k + 1) : Int) + 3 * q' + 3 * (vs.length - (k + 1 : Nat)) ≤ 3 * r) := by
            have a1 := HO.out
            have a2 := hm2.out
            show ((off (knW vs) (inW vs) 0 k + 3 + (nodeAt vs k).keys.length + (nodeAt vs k).kids.length : Nat) : Int) + 3 * q' + 3 * (vs.length - (k + 1 : Nat)) ≤ 3 * r
            omega
          go_roundw
          case rel =>
            refine ⟨k + 1, _, by omega, by go_num, rfl, by omega, by omega, fun j hj => ?_, HO2.out, hb2⟩
            by_cases e : j = k
            · subst e; exact (HM.out (by omega)).1
            · exact HS.out j (by omega)
          case measure => simp [intOf]; omega
      · obtain rfl : k = vs.length := by omega
        go_wp2_with fail
        go_ret
        refine ⟨⟨_, rfl, by omega, fun _ => ⟨by omega, HS.out, ?_⟩⟩, hbel⟩
        have := HO.out
        rw [HW.out]
        omega

/-! ### Rows of rows that came in -/
def RawRows (B : Nat) (w : World) (v : Value) (m : Nat) (L : Nat → List VN) : Prop :=
  m ≤ 9223372036854775807 ∧ ∃ a cap, v = .slice a m cap ∧ (0 < m → ∃ b o, a = some ⟨b, o, none⟩ ∧ b < B ∧ ∀ i, i < m → ∃ r, w.cell? ⟨b, o + i, none⟩ = some r ∧ RawNodes B w r (L i))

/-- All marks of the first k rows. -/
def wts (L : Nat → List VN) : Nat → Nat
  | 0 => 0
  | k + 1 => wts L k + wt (L k)

theorem RawRows.below {B : Nat} {w w' : World} {v : Value} {m : Nat} {L : Nat → List VN} (h : RawRows B w v m L) (hb : Below B w w') : RawRows B w' v m L := by
  obtain ⟨h1, a, c, e, h2⟩ := h
  refine ⟨h1, a, c, e, fun hp => ?_⟩
  obtain ⟨b, o, ea, hbB, h3⟩ := h2 hp
  refine ⟨b, o, ea, hbB, fun i hi => ?_⟩
  obtain ⟨r, e2, hn⟩ := h3 i hi
  exact ⟨r, (below_cell hb hbB).trans e2, hn.below hb⟩

set_option maxHeartbeats 800000 in
theorem szVNodeSS_w (B : Nat) (v : Value) (m : Nat) (L : Nat → List VN) (r : Int) (w : World) (h : RawRows B w v m L) (hB : B ≤ w.heap.size) (h1 : 0 ≤ r) (h2 : r ≤ 1048576) :
    Calls Try.prog 38 #[v, .int .i64 r] w fun e w' => (∃ q, e = .returned (.int .i64 q) ∧ q ≤ 1048576 ∧ (0 ≤ q → m ≤ 1048576 ∧ (∀ i, i < m → (L i).length ≤ 1048576 ∧ ∀ j, j < (L i).length → Small (nodeAt (L i) j)) ∧ (wts L m : Int) + 3 * q ≤ 3 * r)) ∧ Below w.heap.size w w' := by
  obtain ⟨hlen, a, cap, rfl, hcell⟩ := h
  have HW : ∀ k, Hid (wts L (k + 1) = wts L k + wt (L k)) := fun _ => rfl
  have H0 : Hid (wts L 0 = 0) := rfl
  go_enter Try.func38, Try.ntmps38
  go_wp2_with fail
  · go_ret
    exact ⟨⟨_, rfl, by omega, fun h => by omega⟩, Below.refl _ _⟩
  · go_loopw [1, 5] (fun t i wr => ∃ (k : Nat) (q : Int), k ≤ m ∧ i = .int .i64 k ∧ t = .int .i64 q ∧ 0 ≤ q ∧ q ≤ r ∧ Hid (∀ i, i < k → (L i).length ≤ 1048576 ∧ ∀ j, j < (L i).length → Small (nodeAt (L i) j)) ∧ Hid ((wts L k : Int) + 3 * q ≤ 3 * r) ∧ Below w.heap.size w wr) (fun _ i _ => m - (intOf i).toNat)
    case atStart => exact ⟨0, _, Nat.zero_le _, rfl, rfl, by omega, by omega, fun j hj => by omega, by rw [Hid, H0.out]; omega, Below.refl _ _⟩
    case round =>
      obtain ⟨k, q, hk, rfl, rfl, hq0, hq1, HS, HO, hbel⟩ := hrel
      by_cases hlt : k < m
      · obtain ⟨b, o, rfl, hbB, hc⟩ := hcell (by omega)
        obtain ⟨u, hcu, hn⟩ := hc k hlt
        have hn' := hideIt (hn.below (hbel.mono hB))
        have c0 := (below_cell (hbel.mono hB) hbB).trans hcu
        have hsize := hbel.size
        obtain ⟨_, au, cu, rfl, _⟩ := hn
        clear hc hcell hcu
        go_wp2_with fail
        refine (szVNodeS_w B _ (L k) _ _ hn'.out (by omega) (by omega) (by omega)).mono ?_
        rintro e w' ⟨⟨q', rfl, hq', hsm⟩, hb'⟩
        have hb2 : Below w.heap.size w w' := hbel.trans (hb'.mono hsize)
        have HM := hideIt hsm
        clear hsm
        go_wp2_with fail
        · go_ret
          exact ⟨⟨_, rfl, by omega, fun h => by omega⟩, hb2⟩
        · have hm2 := hideIt (HM.out (by omega)).2.2
          have hle : q' ≤ q := by have := hm2.out; omega
          have HO2 : Hid ((wts L (k + 1) : Int) + 3 * q' ≤ 3 * r) := by
            have a1 := HO.out
            have a2 := hm2.out
            rw [Hid, (HW k).out]
            omega
          go_roundw
          case rel =>
            refine ⟨k + 1, _, by omega, by go_num, rfl, by omega, by omega, fun j hj => ?_, HO2.out, hb2⟩
            by_cases e : j = k
            · subst e; exact ⟨(HM.out (by omega)).1, (HM.out (by omega)).2.1⟩
            · exact HS.out j (by omega)
          case measure => simp [intOf]; omega
      · obtain rfl : k = m := by omega
        go_wp2_with fail
        go_ret
        exact ⟨⟨_, rfl, by omega, fun _ => ⟨by omega, HS.out, HO.out⟩⟩, hbel⟩
end Go.Proofs.Ytpfnkpkcjefelaa
