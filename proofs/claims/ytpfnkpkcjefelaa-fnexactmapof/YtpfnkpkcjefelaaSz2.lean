/-
  The laws' marks of nodes: each field of each node and each part of its keys and kids gets its own number, and holds it.
-/
import Derived.Test.YtpfnkpkcjefelaaMark
import Derived.Test.YtpfnkpkcjefelaaSz
namespace Go.Proofs.Ytpfnkpkcjefelaa
open Go.RowKit
set_option linter.unusedSimpArgs false
set_option linter.unusedVariables false

def off (KN IN : Nat → Nat) (k : Nat) : Nat → Nat
  | 0 => k
  | i + 1 => off KN IN k i + 3 + KN i + IN i

theorem off_le (KN IN : Nat → Nat) (k : Nat) : ∀ i, (∀ j, j < i → KN j ≤ 1048576 ∧ IN j ≤ 1048576) → off KN IN k i ≤ k + i * 2097155 := by
  intro i
  induction i with
  | zero => intro _; simp [off]
  | succ i ih =>
    intro h
    have := ih (fun j hj => h j (by omega))
    have := h i (by omega)
    rw [off]
    omega
theorem off_ge (KN IN : Nat → Nat) (k : Nat) : ∀ i, k ≤ off KN IN k i := by
  intro i
  induction i with
  | zero => exact Nat.le_refl _
  | succ i ih => rw [off]; omega

/-- Nodes whose memory is their own: rows apart, all of them to be written. -/
structure Marky (lo : Nat) (w : World) (b n : Nat) (KN IN KB KI : Nat → Nat) : Prop where
  low : lo ≤ b
  lt : b < w.heap.size
  few : n ≤ 1048576
  row : WRow w b (n * 5)
  kn : ∀ i, i < n → KN i ≤ 1048576 ∧ IN i ≤ 1048576
  c3 : ∀ i, i < n → ∃ a c, w.cell? ⟨b, i * 5 + 3, none⟩ = some (.slice a (KN i) c) ∧ (0 < KN i → a = some ⟨KB i, 0, none⟩ ∧ lo ≤ KB i ∧ KB i < w.heap.size ∧ WRow w (KB i) (KN i))
  c4 : ∀ i, i < n → ∃ a c, w.cell? ⟨b, i * 5 + 4, none⟩ = some (.slice a (IN i) c) ∧ (0 < IN i → a = some ⟨KI i, 0, none⟩ ∧ lo ≤ KI i ∧ KI i < w.heap.size ∧ WRow w (KI i) (IN i))
  db : ∀ i, i < n → (0 < KN i → KB i ≠ b) ∧ (0 < IN i → KI i ≠ b)
  dkk : ∀ i j, i < n → j < n → i ≠ j → 0 < KN i → 0 < KN j → KB i ≠ KB j
  dki : ∀ i j, i < n → j < n → 0 < KN i → 0 < IN j → KB i ≠ KI j
  dii : ∀ i j, i < n → j < n → i ≠ j → 0 < IN i → 0 < IN j → KI i ≠ KI j

/-- Node i holds its marks, from o on. -/
structure HNode (w : World) (b i kn ni kb ki o : Nat) : Prop where
  lt : b < w.heap.size
  c0 : w.cell? ⟨b, i * 5, none⟩ = some (.int .i64 (o : Nat))
  c1 : w.cell? ⟨b, i * 5 + 1, none⟩ = some (.int .i64 (o + 1 : Nat))
  c2 : w.cell? ⟨b, i * 5 + 2, none⟩ = some (.string (markOf (o + 2)))
  c3 : ∃ a c, w.cell? ⟨b, i * 5 + 3, none⟩ = some (.slice a kn c) ∧ (0 < kn → a = some ⟨kb, 0, none⟩ ∧ kb < w.heap.size ∧ ∀ j, j < kn → w.cell? ⟨kb, j, none⟩ = some (.string (markOf (o + 3 + j))))
  c4 : ∃ a c, w.cell? ⟨b, i * 5 + 4, none⟩ = some (.slice a ni c) ∧ (0 < ni → a = some ⟨ki, 0, none⟩ ∧ ki < w.heap.size ∧ ∀ j, j < ni → w.cell? ⟨ki, j, none⟩ = some (.int .i64 (o + 3 + kn + j : Nat)))

theorem HNode.keep {w w' : World} {b i kn ni kb ki o : Nat} (h : HNode w b i kn ni kb ki o) (hs : w.heap.size ≤ w'.heap.size) (hb : ∀ j, j < 5 → w'.cell? ⟨b, i * 5 + j, none⟩ = w.cell? ⟨b, i * 5 + j, none⟩)
    (hk : 0 < kn → ∀ j, w'.cell? ⟨kb, j, none⟩ = w.cell? ⟨kb, j, none⟩) (hi : 0 < ni → ∀ j, w'.cell? ⟨ki, j, none⟩ = w.cell? ⟨ki, j, none⟩) : HNode w' b i kn ni kb ki o := by
  refine ⟨by have := h.lt; omega, (hb 0 (by omega)).trans h.c0, (hb 1 (by omega)).trans h.c1, (hb 2 (by omega)).trans h.c2, ?_, ?_⟩
  · obtain ⟨a, c, e, hx⟩ := h.c3
    refine ⟨a, c, (hb 3 (by omega)).trans e, fun hp => ?_⟩
    obtain ⟨e1, e2, e3⟩ := hx hp
    exact ⟨e1, by omega, fun j hj => (hk hp j).trans (e3 j hj)⟩
  · obtain ⟨a, c, e, hx⟩ := h.c4
    refine ⟨a, c, (hb 4 (by omega)).trans e, fun hp => ?_⟩
    obtain ⟨e1, e2, e3⟩ := hx hp
    exact ⟨e1, by omega, fun j hj => (hi hp j).trans (e3 j hj)⟩

theorem HNode.below {w w' : World} {b i kn ni kb ki o : Nat} (h : HNode w b i kn ni kb ki o) (hb : Below w.heap.size w w') : HNode w' b i kn ni kb ki o := by
  obtain ⟨_, _, _, h3⟩ := h.c3
  obtain ⟨_, _, _, h4⟩ := h.c4
  exact h.keep hb.size (fun j _ => below_cell hb h.lt) (fun hp j => below_cell hb (h3 hp).2.1) (fun hp j => below_cell hb (h4 hp).2.1)

set_option maxRecDepth 100000 in
set_option maxHeartbeats 3200000 in
theorem heldVNodeS_any (b n cap k : Nat) (a : Option Addr) (KN IN KB KI : Nat → Nat) (w : World) (ha : 0 < n → a = some ⟨b, 0, none⟩) (hn : n ≤ 1048576) (hkn : ∀ i, i < n → KN i ≤ 1048576 ∧ IN i ≤ 1048576) (hk0 : 1 ≤ k) (hk : k ≤ 10000000000000)
    (h : ∀ i, i < n → HNode w b i (KN i) (IN i) (KB i) (KI i) (off KN IN k i)) :
    Calls Try.prog 37 #[.slice a n cap, .int .i64 k] w fun e w' => e = .returned (.int .i64 (off KN IN k n : Nat)) ∧ Below w.heap.size w w' := by
  have HA := hideIt ha
  have HK := hideIt hkn
  have HH := hideIt h
  clear ha hkn h
  go_enter Try.func37, Try.ntmps37
  go_wp2_with fail
  go_loopw [1, 5] (fun q i wr => ∃ c : Nat, c ≤ n ∧ q = .int .i64 (off KN IN k c : Nat) ∧ i = .int .i64 c ∧ Below w.heap.size w wr) (fun _ i _ => n - (intOf i).toNat)
  case atStart => exact ⟨0, Nat.zero_le _, rfl, rfl, Below.refl _ _⟩
  case round =>
    obtain ⟨c, hc, rfl, rfl, hbl⟩ := hrel
    have zs := hbl.size
    by_cases hlt : c < n
    · obtain rfl := HA.out (by omega)
      have hN := (HH.out c hlt).below hbl
      have c0 := hN.c0
      have c1 := hN.c1
      have c2 := hN.c2
      obtain ⟨a3, p3, c3, h3⟩ := hN.c3
      obtain ⟨a4, p4, c4, h4⟩ := hN.c4
      have hbs := hN.lt
      have ob := off_le KN IN k c (fun j hj => HK.out j (by omega))
      have og := off_ge KN IN k c
      have H3 := hideIt h3
      have H4 := hideIt h4
      have kk := HK.out c hlt
      have HO : Hid (off KN IN k (c + 1) = off KN IN k c + 3 + KN c + IN c) := rfl
      clear h3 h4 hN
      generalize off KN IN k c = o at *
      go_wp2_with fail
      go_region_with (go_at_call 80; (try rw [show ((o : Int) + 1 + 1) = ((o + 2 : Nat) : Int) by omega]); refine (markText_any (o + 2) _ ?_ ?_).mono ?_; exact (by omega); exact (by omega); rintro e w5 ⟨rfl, hb5⟩; have d2 := (below_cell (o := c * 5 + 2) hb5 (by simpa using hbs)).trans c2)
      all_goals
        have z5 := hb5.size
        have z5' : wr.heap.size ≤ w5.heap.size := by simpa using z5
        have HB5 := hideIt (hbl.drew.trans (hb5.mono (by simpa using zs)))
        have d3 := (below_cell (o := c * 5 + 3) hb5 (by simpa using hbs)).trans c3
        have d4 := (below_cell (o := c * 5 + 4) hb5 (by simpa using hbs)).trans c4
        have HK5 : Hid (0 < KN c → a3 = some ⟨KB c, 0, none⟩ ∧ KB c < w5.heap.size ∧ ∀ j, j < KN c → w5.cell? ⟨KB c, j, none⟩ = some (.string (markOf (o + 3 + j)))) := by
          intro hp
          obtain ⟨e1, e2, e3⟩ := H3.out hp
          exact ⟨e1, by omega, fun j hj => (below_cell hb5 (by simpa using e2)).trans (e3 j hj)⟩
        have HI5 : Hid (0 < IN c → a4 = some ⟨KI c, 0, none⟩ ∧ KI c < w5.heap.size ∧ ∀ j, j < IN c → w5.cell? ⟨KI c, j, none⟩ = some (.int .i64 (o + 3 + KN c + j : Nat))) := by
          intro hp
          obtain ⟨e1, e2, e3⟩ := H4.out hp
          exact ⟨e1, by omega, fun j hj => (below_cell hb5 (by simpa using e2)).trans (e3 j hj)⟩
        clear hb5 z5 c0 c1 c2 c3 c4 d2
        go_wp2_with fail
        rw [show ((o : Int) + 2 + 1) = ((o + 3 : Nat) : Int) by omega]
        refine (heldStringS_any 0 a3 (KN c) p3 (o + 3) _ (fun hp => ⟨KB c, HK5.out hp⟩) kk.1 (by omega) (by omega)).mono ?_
        rintro e w6 ⟨rfl, hb6⟩
        have z6 := hb6.size
        have HB6 := hideIt (HB5.out.trans (hb6.mono (by omega)))
        have f4 := (below_cell (o := c * 5 + 4) hb6 (by omega)).trans d4
        have HI6 : Hid (0 < IN c → ∃ b, a4 = some ⟨b, 0, none⟩ ∧ ∀ j, j < IN c → w6.cell? ⟨b, j, none⟩ = some (.int .i64 (o + 3 + KN c + j : Nat))) := by
          intro hp
          obtain ⟨e1, e2, e3⟩ := HI5.out hp
          exact ⟨KI c, e1, fun j hj => (below_cell hb6 e2).trans (e3 j hj)⟩
        clear hb6 d3 d4
        go_wp2_with fail
        refine (heldInt64S_any 0 a4 (IN c) p4 (o + 3 + KN c) _ HI6.out kk.2 (by omega)).mono ?_
        rintro e w7 ⟨rfl, rfl⟩
        go_wp2_with fail
        go_roundw
        case rel => exact ⟨c + 1, by omega, by rw [HO.out]; first | rfl | go_num | simp, by go_num, HB6.out⟩
        case measure => simp [intOf]; omega
    · obtain rfl : c = n := by omega
      go_wp2_with fail
      go_ret
      exact ⟨rfl, hbl⟩
end Go.Proofs.Ytpfnkpkcjefelaa

/-
  The functions that take sizes from a budget, once more: what is left and what was there say together how much it was; rows of rows of nodes, too.
-/
namespace Go.Proofs.Ytpfnkpkcjefelaa
open Go.RowKit
set_option linter.unusedSimpArgs false
set_option linter.unusedVariables false

set_option maxHeartbeats 400000 in
theorem szInt64S_w (B : Nat) (v : Value) (l : List Int) (r : Int) (w : World) (h : RawInts B w v l) (h1 : 0 ≤ r) (h2 : r ≤ 1048576) :
    Calls Try.prog 105 #[v, .int .i64 r] w fun e w' => (∃ q, e = .returned (.int .i64 q) ∧ q ≤ 1048576 ∧ (0 ≤ q → q + l.length ≤ r)) ∧ w' = w := by
  obtain ⟨hlen, _, a, cap, rfl, _⟩ := h
  go_enter Try.func105, Try.ntmps105
  go_wp2
  · go_ret
    exact ⟨⟨_, rfl, by omega, fun h => by omega⟩, rfl⟩
  · go_ret
    exact ⟨⟨_, rfl, by omega, fun h => by omega⟩, rfl⟩

set_option maxHeartbeats 400000 in
theorem szStringS_w (B : Nat) (v : Value) (l : List ByteArray) (r : Int) (w : World) (h : RawStrs B w v l) (h1 : 0 ≤ r) (h2 : r ≤ 1048576) :
    Calls Try.prog 42 #[v, .int .i64 r] w fun e w' => (∃ q, e = .returned (.int .i64 q) ∧ q ≤ 1048576 ∧ (0 ≤ q → q + l.length ≤ r ∧ ∀ i, i < l.length → (keyAt l i).size ≤ 1048576)) ∧ w' = w := by
  obtain ⟨hlen, hsz, a, cap, rfl, hcell⟩ := h
  go_enter Try.func42, Try.ntmps42
  go_wp2
  · go_ret
    exact ⟨⟨_, rfl, by omega, fun h => by omega⟩, rfl⟩
  · go_loop [1, 5] (fun t i => ∃ (k : Nat) (q : Int), k ≤ l.length ∧ i = .int .i64 k ∧ t = .int .i64 q ∧ 0 ≤ q ∧ q + l.length ≤ r ∧ Hid (∀ j, j < k → (keyAt l j).size ≤ 1048576)) (fun _ i => l.length - (intOf i).toNat)
    case atStart => exact ⟨0, _, Nat.zero_le _, rfl, rfl, by omega, by omega, fun j hj => by omega⟩
    case round =>
      obtain ⟨k, q, hk, rfl, rfl, hq0, hq1, HS⟩ := hrel
      by_cases hlt : k < l.length
      · obtain ⟨b, o, rfl, _, hc⟩ := hcell (by omega)
        have hck := hc k hlt
        have hs := hsz k hlt
        clear hc hcell hsz
        go_wp2
        · go_ret
          exact ⟨⟨_, rfl, by omega, fun h => by omega⟩, rfl⟩
        · go_round
          case rel =>
            refine ⟨k + 1, _, by omega, by go_num, rfl, by omega, by omega, fun j hj => ?_⟩
            by_cases e : j = k
            · subst e; omega
            · exact HS.out j (by omega)
          case measure => simp [intOf]; omega
      · obtain rfl : k = l.length := by omega
        go_wp2
        go_ret
        exact ⟨⟨_, rfl, by omega, fun _ => ⟨by omega, HS.out⟩⟩, rfl⟩

set_option maxHeartbeats 800000 in
theorem szVNode_w (B : Nat) (x : VN) (ka ki : Value) (r : Int) (w : World) (h : RawIn B w x ka ki) (hB : B ≤ w.heap.size) (h1 : 0 ≤ r) (h2 : r ≤ 1048576) :
    Calls Try.prog 77 #[.agg #[.int .i64 x.kind, .int .i64 x.n, .string x.s, ka, ki], .int .i64 r] w fun e w' => (∃ q, e = .returned (.int .i64 q) ∧ q ≤ 1048576 ∧ (0 ≤ q → Small x ∧ q + x.keys.length + x.kids.length ≤ r)) ∧ Below w.heap.size w w' := by
  have hsz := h.size
  obtain ⟨_, _, a1, c1, e1, _⟩ := h.keys
  obtain ⟨_, _, a2, c2, e2, _⟩ := h.kids
  have hbel : ∀ (o : Obj), Below w.heap.size w (w.alloc o) := fun o => (Below.refl _ _).alloc (Nat.le_refl _) o
  have H := hideIt h
  subst e1 e2
  clear h
  go_enter Try.func77, Try.ntmps77
  go_wp2_with fail
  · go_ret
    exact ⟨⟨_, rfl, by omega, fun h => by omega⟩, hbel _⟩
  · refine (szStringS_w B _ _ _ _ (H.out.keys.below ((hbel _).mono hB)) (by omega) (by omega)).mono ?_
    rintro e w' ⟨⟨q, rfl, hq, hk⟩, rfl⟩
    have HK := hideIt hk
    have hle : (x.s.size : Int) ≤ 1048576 := by omega
    clear hk
    go_wp2_with fail
    · go_ret
      exact ⟨⟨_, rfl, by omega, fun h => by omega⟩, hbel _⟩
    · have h0 : 0 ≤ q := by omega
      have hq2 := (HK.out h0).1
      refine (szInt64S_w B _ _ _ _ (H.out.kids.below ((hbel _).mono hB)) (by omega) (by omega)).mono ?_
      rintro e w' ⟨⟨q', rfl, hq', hk'⟩, rfl⟩
      have HK' := hideIt hk'
      clear hk'
      go_wp2_with fail
      · go_ret
        exact ⟨⟨_, rfl, by omega, fun h => by omega⟩, hbel _⟩
      · go_ret
        refine ⟨⟨_, rfl, by omega, fun h => ?_⟩, hbel _⟩
        have h3 := HK'.out h
        exact ⟨⟨by omega, by omega, (HK.out h0).2, by omega⟩, by omega⟩

def knW (vs : List VN) (i : Nat) : Nat := (nodeAt vs i).keys.length
def inW (vs : List VN) (i : Nat) : Nat := (nodeAt vs i).kids.length

/-- How many marks a row of nodes has. -/
def wt (vs : List VN) : Nat := off (knW vs) (inW vs) 0 vs.length

set_option maxHeartbeats 800000 in
theorem szVNodeS_w (B : Nat) (v : Value) (vs : List VN) (r : Int) (w : World) (h : RawNodes B w v vs) (hB : B ≤ w.heap.size) (h1 : 0 ≤ r) (h2 : r ≤ 1048576) :
    Calls Try.prog 33 #[v, .int .i64 r] w fun e w' => (∃ q, e = .returned (.int .i64 q) ∧ q ≤ 1048576 ∧ (0 ≤ q → vs.length ≤ 1048576 ∧ (∀ i, i < vs.length → Small (nodeAt vs i)) ∧ wt vs + 3 * q ≤ 3 * r)) ∧ Below w.heap.size w w' := by
  have HW : Hid (wt vs = off (knW vs) (inW vs) 0 vs.length) := rfl
  obtain ⟨hlen, a, cap, rfl, hcell⟩ := h
  go_enter Try.func33, Try.ntmps33
  go_wp2_with fail
  · go_ret
    exact ⟨⟨_, rfl, by omega, fun h => by omega⟩, Below.refl _ _⟩
  · go_loopw [1, 5] (fun t i wr => ∃ (k : Nat) (q : Int), k ≤ vs.length ∧ i = .int .i64 k ∧ t = .int .i64 q ∧ 0 ≤ q ∧ q ≤ r ∧ Hid (∀ j, j < k → Small (nodeAt vs j)) ∧ Hid ((off (knW vs) (inW vs) 0 k : Int) + 3 * q + 3 * (vs.length - k) ≤ 3 * r) ∧ Below w.heap.size w wr) (fun _ i _ => vs.length - (intOf i).toNat)
    case atStart => exact ⟨0, _, Nat.zero_le _, rfl, rfl, by omega, by omega, fun j hj => by omega, by simp [Hid, off]; omega, Below.refl _ _⟩
    case round =>
      obtain ⟨k, q, hk, rfl, rfl, hq0, hq1, HS, HO, hbel⟩ := hrel
      by_cases hlt : k < vs.length
      · obtain ⟨b, o, rfl, hbB, hc⟩ := hcell (by omega)
        obtain ⟨ka, ki, hn⟩ := hc k hlt
        have hn' := hn.below (hbel.mono hB) hbB
        have c0 := hn'.c0
        have c1 := hn'.c1
        have c2 := hn'.c2
        have c3 := hn'.c3
        have c4 := hn'.c4
        have hin := hideIt hn'.inn
        have hsize := hbel.size
        clear hc hcell hn hn'
        go_wp2_with fail
        refine (szVNode_w B (nodeAt vs k) ka ki _ _ hin.out (by omega) (by omega) (by omega)).mono ?_
        rintro e w' ⟨⟨q', rfl, hq', hsm⟩, hb'⟩
        have hb2 : Below w.heap.size w w' := hbel.trans (hb'.mono hsize)
        have HM := hideIt hsm
        clear hsm
        go_wp2_with fail
        · go_ret
          exact ⟨⟨_, rfl, by omega, fun h => by omega⟩, hb2⟩
        · have hm2 := hideIt (HM.out (by omega)).2
          have hle : q' ≤ q := by have := hm2.out; omega
          have HO2 : Hid ((off (knW vs) (inW vs) 0 (k + 1) : Int) + 3 * q' + 3 * (vs.length - (k + 1 : Nat)) ≤ 3 * r) := by
            have a1 := HO.out
            have a2 := hm2.out
            show ((off (knW vs) (inW vs) 0 k + 3 + (nodeAt vs k).keys.length + (nodeAt vs k).kids.length : Nat) : Int) + 3 * q' + 3 * (vs.length - (k + 1 : Nat)) ≤ 3 * r
            omega
          go_roundw
          case rel =>
            refine ⟨k + 1, _, by omega, by go_num, rfl, by omega, by omega, fun j hj => ?_, HO2.out, hb2⟩
            by_cases e : j = k
            · subst e; exact (HM.out (by omega)).1
            · exact HS.out j (by omega)
          case measure => simp [intOf]; omega
      · obtain rfl : k = vs.length := by omega
        go_wp2_with fail
        go_ret
        refine ⟨⟨_, rfl, by omega, fun _ => ⟨by omega, HS.out, ?_⟩⟩, hbel⟩
        have := HO.out
        rw [HW.out]
        omega

/-! ### Rows of rows that came in -/
def RawRows (B : Nat) (w : World) (v : Value) (m : Nat) (L : Nat → List VN) : Prop :=
  m ≤ 9223372036854775807 ∧ ∃ a cap, v = .slice a m cap ∧ (0 < m → ∃ b o, a = some ⟨b, o, none⟩ ∧ b < B ∧ ∀ i, i < m → ∃ r, w.cell? ⟨b, o + i, none⟩ = some r ∧ RawNodes B w r (L i))

/-- All marks of the first k rows. -/
def wts (L : Nat → List VN) : Nat → Nat
  | 0 => 0
  | k + 1 => wts L k + wt (L k)

theorem RawRows.below {B : Nat} {w w' : World} {v : Value} {m : Nat} {L : Nat → List VN} (h : RawRows B w v m L) (hb : Below B w w') : RawRows B w' v m L := by
  obtain ⟨h1, a, c, e, h2⟩ := h
  refine ⟨h1, a, c, e, fun hp => ?_⟩
  obtain ⟨b, o, ea, hbB, h3⟩ := h2 hp
  refine ⟨b, o, ea, hbB, fun i hi => ?_⟩
  obtain ⟨r, e2, hn⟩ := h3 i hi
  exact ⟨r, (below_cell hb hbB).trans e2, hn.below hb⟩

set_option maxHeartbeats 800000 in
theorem szVNodeSS_w (B : Nat) (v : Value) (m : Nat) (L : Nat → List VN) (r : Int) (w : World) (h : RawRows B w v m L) (hB : B ≤ w.heap.size) (h1 : 0 ≤ r) (h2 : r ≤ 1048576) :
    Calls Try.prog 38 #[v, .int .i64 r] w fun e w' => (∃ q, e = .returned (.int .i64 q) ∧ q ≤ 1048576 ∧ (0 ≤ q → m ≤ 1048576 ∧ (∀ i, i < m → (L i).length ≤ 1048576 ∧ ∀ j, j < (L i).length → Small (nodeAt (L i) j)) ∧ (wts L m : Int) + 3 * q ≤ 3 * r)) ∧ Below w.heap.size w w' := by
  obtain ⟨hlen, a, cap, rfl, hcell⟩ := h
  have HW : ∀ k, Hid (wts L (k + 1) = wts L k + wt (L k)) := fun _ => rfl
  have H0 : Hid (wts L 0 = 0) := rfl
  go_enter Try.func38, Try.ntmps38
  go_wp2_with fail
  · go_ret
    exact ⟨⟨_, rfl, by omega, fun h => by omega⟩, Below.refl _ _⟩
  · go_loopw [1, 5] (fun t i wr => ∃ (k : Nat) (q : Int), k ≤ m ∧ i = .int .i64 k ∧ t = .int .i64 q ∧ 0 ≤ q ∧ q ≤ r ∧ Hid (∀ i, i < k → (L i).length ≤ 1048576 ∧ ∀ j, j < (L i).length → Small (nodeAt (L i) j)) ∧ Hid ((wts L k : Int) + 3 * q ≤ 3 * r) ∧ Below w.heap.size w wr) (fun _ i _ => m - (intOf i).toNat)
    case atStart => exact ⟨0, _, Nat.zero_le _, rfl, rfl, by omega, by omega, fun j hj => by omega, by rw [Hid, H0.out]; omega, Below.refl _ _⟩
    case round =>
      obtain ⟨k, q, hk, rfl, rfl, hq0, hq1, HS, HO, hbel⟩ := hrel
      by_cases hlt : k < m
      · obtain ⟨b, o, rfl, hbB, hc⟩ := hcell (by omega)
        obtain ⟨u, hcu, hn⟩ := hc k hlt
        have hn' := hideIt (hn.below (hbel.mono hB))
        have c0 := (below_cell (hbel.mono hB) hbB).trans hcu
        have hsize := hbel.size
        obtain ⟨_, au, cu, rfl, _⟩ := hn
        clear hc hcell hcu
        go_wp2_with fail
        refine (szVNodeS_w B _ (L k) _ _ hn'.out (by omega) (by omega) (by omega)).mono ?_
        rintro e w' ⟨⟨q', rfl, hq', hsm⟩, hb'⟩
        have hb2 : Below w.heap.size w w' := hbel.trans (hb'.mono hsize)
        have HM := hideIt hsm
        clear hsm
        go_wp2_with fail
        · go_ret
          exact ⟨⟨_, rfl, by omega, fun h => by omega⟩, hb2⟩
        · have hm2 := hideIt (HM.out (by omega)).2.2
          have hle : q' ≤ q := by have := hm2.out; omega
          have HO2 : Hid ((wts L (k + 1) : Int) + 3 * q' ≤ 3 * r) := by
            have a1 := HO.out
            have a2 := hm2.out
            rw [Hid, (HW k).out]
            omega
          go_roundw
          case rel =>
            refine ⟨k + 1, _, by omega, by go_num, rfl, by omega, by omega, fun j hj => ?_, HO2.out, hb2⟩
            by_cases e : j = k
            · subst e; exact ⟨(HM.out (by omega)).1, (HM.out (by omega)).2.1⟩
            · exact HS.out j (by omega)
          case measure => simp [intOf]; omega
      · obtain rfl : k = m := by omega
        go_wp2_with fail
        go_ret
        exact ⟨⟨_, rfl, by omega, fun _ => ⟨by omega, HS.out, HO.out⟩⟩, hbel⟩
end Go.Proofs.Ytpfnkpkcjefelaa
