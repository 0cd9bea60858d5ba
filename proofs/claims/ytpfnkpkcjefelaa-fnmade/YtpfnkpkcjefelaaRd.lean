/-
  The laws' marks of nodes: each field of each node and each part of its keys and kids gets its own number, and holds it.
-/
import Derived.Test.YtpfnkpkcjefelaaStbS
import Derived.Test.YtpfnkpkcjefelaaProg
import Derived.BigQuiet
namespace Go.Proofs.Ytpfnkpkcjefelaa
open Go.RowKit
set_option linter.unusedSimpArgs false
set_option linter.unusedVariables false

def off (KN IN : Nat → Nat) (k : Nat) : Nat → Nat
  | 0 => k
  | i + 1 => off KN IN k i + 3 + KN i + IN i

theorem off_le (KN IN : Nat → Nat) (k : Nat) : ∀ i, (∀ j, j < i → KN j ≤ 1048576 ∧ IN j ≤ 1048576) → off KN IN k i ≤ k + i * 2097155 := by
  intro i
  induction i with
  | zero => intro _; simp [off]
  | succ i ih =>
    intro h
    have := ih (fun j hj => h j (by omega))
    have := h i (by omega)
    rw [off]
    omega
theorem off_ge (KN IN : Nat → Nat) (k : Nat) : ∀ i, k ≤ off KN IN k i := by
  intro i
  induction i with
  | zero => exact Nat.le_refl _
  | succ i ih => rw [off]; omega

/-- Nodes whose memory is their own: rows apart, all of them to be written. -/
structure Marky (lo : Nat) (w : World) (b n : Nat) (KN IN KB KI : Nat → Nat) : Prop where
  low : lo ≤ b
  lt : b < w.heap.size
  few : n ≤ 1048576
  row : WRow w b (n * 5)
  kn : ∀ i, i < n → KN i ≤ 1048576 ∧ IN i ≤ 1048576
  c3 : ∀ i, i < n → ∃ a c, w.cell? ⟨b, i * 5 + 3, none⟩ = some (.slice a (KN i) c) ∧ (0 < KN i → a = some ⟨KB i, 0, none⟩ ∧ lo ≤ KB i ∧ KB i < w.heap.size ∧ WRow w (KB i) (KN i))
  c4 : ∀ i, i < n → ∃ a c, w.cell? ⟨b, i * 5 + 4, none⟩ = some (.slice a (IN i) c) ∧ (0 < IN i → a = some ⟨KI i, 0, none⟩ ∧ lo ≤ KI i ∧ KI i < w.heap.size ∧ WRow w (KI i) (IN i))
  db : ∀ i, i < n → (0 < KN i → KB i ≠ b) ∧ (0 < IN i → KI i ≠ b)
  dkk : ∀ i j, i < n → j < n → i ≠ j → 0 < KN i → 0 < KN j → KB i ≠ KB j
  dki : ∀ i j, i < n → j < n → 0 < KN i → 0 < IN j → KB i ≠ KI j
  dii : ∀ i j, i < n → j < n → i ≠ j → 0 < IN i → 0 < IN j → KI i ≠ KI j

/-- Node i holds its marks, from o on. -/
structure HNode (w : World) (b i kn ni kb ki o : Nat) : Prop where
  lt : b < w.heap.size
  c0 : w.cell? ⟨b, i * 5, none⟩ = some (.int .i64 (o : Nat))
  c1 : w.cell? ⟨b, i * 5 + 1, none⟩ = some (.int .i64 (o + 1 : Nat))
  c2 : w.cell? ⟨b, i * 5 + 2, none⟩ = some (.string (markOf (o + 2)))
  c3 : ∃ a c, w.cell? ⟨b, i * 5 + 3, none⟩ = some (.slice a kn c) ∧ (0 < kn → a = some ⟨kb, 0, none⟩ ∧ kb < w.heap.size ∧ ∀ j, j < kn → w.cell? ⟨kb, j, none⟩ = some (.string (markOf (o + 3 + j))))
  c4 : ∃ a c, w.cell? ⟨b, i * 5 + 4, none⟩ = some (.slice a ni c) ∧ (0 < ni → a = some ⟨ki, 0, none⟩ ∧ ki < w.heap.size ∧ ∀ j, j < ni → w.cell? ⟨ki, j, none⟩ = some (.int .i64 (o + 3 + kn + j : Nat)))

theorem HNode.keep {w w' : World} {b i kn ni kb ki o : Nat} (h : HNode w b i kn ni kb ki o) (hs : w.heap.size ≤ w'.heap.size) (hb : ∀ j, j < 5 → w'.cell? ⟨b, i * 5 + j, none⟩ = w.cell? ⟨b, i * 5 + j, none⟩)
    (hk : 0 < kn → ∀ j, w'.cell? ⟨kb, j, none⟩ = w.cell? ⟨kb, j, none⟩) (hi : 0 < ni → ∀ j, w'.cell? ⟨ki, j, none⟩ = w.cell? ⟨ki, j, none⟩) : HNode w' b i kn ni kb ki o := by
  refine ⟨by have := h.lt; omega, (hb 0 (by omega)).trans h.c0, (hb 1 (by omega)).trans h.c1, (hb 2 (by omega)).trans h.c2, ?_, ?_⟩
  · obtain ⟨a, c, e, hx⟩ := h.c3
    refine ⟨a, c, (hb 3 (by omega)).trans e, fun hp => ?_⟩
    obtain ⟨e1, e2, e3⟩ := hx hp
    exact ⟨e1, by omega, fun j hj => (hk hp j).trans (e3 j hj)⟩
  · obtain ⟨a, c, e, hx⟩ := h.c4
    refine ⟨a, c, (hb 4 (by omega)).trans e, fun hp => ?_⟩
    obtain ⟨e1, e2, e3⟩ := hx hp
    exact ⟨e1, by omega, fun j hj => (hi hp j).trans (e3 j hj)⟩

theorem HNode.below {w w' : World} {b i kn ni kb ki o : Nat} (h : HNode w b i kn ni kb ki o) (hb : Below w.heap.size w w') : HNode w' b i kn ni kb ki o := by
  obtain ⟨_, _, _, h3⟩ := h.c3
  obtain ⟨_, _, _, h4⟩ := h.c4
  exact h.keep hb.size (fun j _ => below_cell hb h.lt) (fun hp j => below_cell hb (h3 hp).2.1) (fun hp j => below_cell hb (h4 hp).2.1)

set_option maxRecDepth 100000 in
set_option maxHeartbeats 3200000 in
theorem heldVNodeS_any (b n cap k : Nat) (a : Option Addr) (KN IN KB KI : Nat → Nat) (w : World) (ha : 0 < n → a = some ⟨b, 0, none⟩) (hn : n ≤ 1048576) (hkn : ∀ i, i < n → KN i ≤ 1048576 ∧ IN i ≤ 1048576) (hk0 : 1 ≤ k) (hk : k ≤ 10000000000000)
    (h : ∀ i, i < n → HNode w b i (KN i) (IN i) (KB i) (KI i) (off KN IN k i)) :
    Calls Try.prog 37 #[.slice a n cap, .int .i64 k] w fun e w' => e = .returned (.int .i64 (off KN IN k n : Nat)) ∧ Below w.heap.size w w' := by
  have HA := hideIt ha
  have HK := hideIt hkn
  have HH := hideIt h
  clear ha hkn h
  go_enter Try.func37, Try.ntmps37
  go_wp2_with fail
  go_loopw [1, 5] (fun q i wr => ∃ c : Nat, c ≤ n ∧ q = .int .i64 (off KN IN k c : Nat) ∧ i = .int .i64 c ∧ Below w.heap.size w wr) (fun _ i _ => n - (intOf i).toNat)
  case atStart => exact ⟨0, Nat.zero_le _, rfl, rfl, Below.refl _ _⟩
  case round =>
    obtain ⟨c, hc, rfl, rfl, hbl⟩ := hrel
    have zs := hbl.size
    by_cases hlt : c < n
    · obtain rfl := HA.out (by omega)
      have hN := (HH.out c hlt).below hbl
      have c0 := hN.c0
      have c1 := hN.c1
      have c2 := hN.c2
      obtain ⟨a3, p3, c3, h3⟩ := hN.c3
      obtain ⟨a4, p4, c4, h4⟩ := hN.c4
      have hbs := hN.lt
      have ob := off_le KN IN k c (fun j hj => HK.out j (by omega))
      have og := off_ge KN IN k c
      have H3 := hideIt h3
      have H4 := hideIt h4
      have kk := HK.out c hlt
      have HO : Hid (off KN IN k (c + 1) = off KN IN k c + 3 + KN c + IN c) := rfl
      clear h3 h4 hN
      generalize off KN IN k c = o at *
      go_wp2_with fail
      go_region_with (go_at_call 80; (try rw [show ((o : Int) + 1 + 1) = ((o + 2 : Nat) : Int) by omega]); refine (markText_any (o + 2) _ ?_ ?_).mono ?_; exact (by omega); exact (by omega); rintro e w5 ⟨rfl, hb5⟩; have d2 := (below_cell (o := c * 5 + 2) hb5 (by simpa using hbs)).trans c2)
      all_goals
        have z5 := hb5.size
        have z5' : wr.heap.size ≤ w5.heap.size := by simpa using z5
        have HB5 := hideIt (hbl.drew.trans (hb5.mono (by simpa using zs)))
        have d3 := (below_cell (o := c * 5 + 3) hb5 (by simpa using hbs)).trans c3
        have d4 := (below_cell (o := c * 5 + 4) hb5 (by simpa using hbs)).trans c4
        have HK5 : Hid (0 < KN c → a3 = some ⟨KB c, 0, none⟩ ∧ KB c < w5.heap.size ∧ ∀ j, j < KN c → w5.cell? ⟨KB c, j, none⟩ = some (.string (markOf (o + 3 + j)))) := by
          intro hp
          obtain ⟨e1, e2, e3⟩ := H3.out hp
          exact ⟨e1, by omega, fun j hj => (below_cell hb5 (by simpa using e2)).trans (e3 j hj)⟩
        have HI5 : Hid (0 < IN c → a4 = some ⟨KI c, 0, none⟩ ∧ KI c < w5.heap.size ∧ ∀ j, j < IN c → w5.cell? ⟨KI c, j, none⟩ = some (.int .i64 (o + 3 + KN c + j : Nat))) := by
          intro hp
          obtain ⟨e1, e2, e3⟩ := H4.out hp
          exact ⟨e1, by omega, fun j hj => (below_cell hb5 (by simpa using e2)).trans (e3 j hj)⟩
        clear hb5 z5 c0 c1 c2 c3 c4 d2
        go_wp2_with fail
        rw [show ((o : Int) + 2 + 1) = ((o + 3 : Nat) : Int) by omega]
        refine (heldStringS_any 0 a3 (KN c) p3 (o + 3) _ (fun hp => ⟨KB c, HK5.out hp⟩) kk.1 (by omega) (by omega)).mono ?_
        rintro e w6 ⟨rfl, hb6⟩
        have z6 := hb6.size
        have HB6 := hideIt (HB5.out.trans (hb6.mono (by omega)))
        have f4 := (below_cell (o := c * 5 + 4) hb6 (by omega)).trans d4
        have HI6 : Hid (0 < IN c → ∃ b, a4 = some ⟨b, 0, none⟩ ∧ ∀ j, j < IN c → w6.cell? ⟨b, j, none⟩ = some (.int .i64 (o + 3 + KN c + j : Nat))) := by
          intro hp
          obtain ⟨e1, e2, e3⟩ := HI5.out hp
          exact ⟨KI c, e1, fun j hj => (below_cell hb6 e2).trans (e3 j hj)⟩
        clear hb6 d3 d4
        go_wp2_with fail
        refine (heldInt64S_any 0 a4 (IN c) p4 (o + 3 + KN c) _ HI6.out kk.2 (by omega)).mono ?_
        rintro e w7 ⟨rfl, rfl⟩
        go_wp2_with fail
        go_roundw
        case rel => exact ⟨c + 1, by omega, by rw [HO.out]; first | rfl | go_num | simp, by go_num, HB6.out⟩
        case measure => simp [intOf]; omega
    · obtain rfl : c = n := by omega
      go_wp2_with fail
      go_ret
      exact ⟨rfl, hbl⟩
end Go.Proofs.Ytpfnkpkcjefelaa

/-
  The reader of codes from which values are drawn: what each draw may answer, and that it turns nothing but its own place.
-/
namespace Go.Proofs.Ytpfnkpkcjefelaa
open Go.RowKit
set_option linter.unusedSimpArgs false
set_option linter.unusedVariables false

/-- A reader in block rb, of n bytes, at place p. -/
structure RdAt (w : World) (rb n p : Nat) : Prop where
  lt : rb < w.heap.size
  src : ∃ a cap, w.cell? ⟨rb, 0, none⟩ = some (.slice a n cap) ∧ (0 < n → ∃ b o, a = some ⟨b, o, none⟩ ∧ b < rb ∧ ∀ i, i < n → ∃ x : Nat, x < 256 ∧ w.cell? ⟨b, o + i, none⟩ = some (.int .u8 x))
  place : w.cell? ⟨rb, 1, none⟩ = some (.int .i64 p)
  le : p ≤ n
  few : n ≤ 1048576
  free : w.frozen? ⟨rb, 1, none⟩ = false

/-- What a draw leaves: the reader at some place, nothing else turned. -/
structure Drawn (rb n : Nat) (w w' : World) : Prop where
  rd : ∃ p, RdAt w' rb n p
  only : Only (fun c => c = rb) w w'
  below : Below rb w w'

theorem frozen_same {w w' : World} {b o : Nat} (h : w'.heap[b]? = w.heap[b]?) : w'.frozen? ⟨b, o, none⟩ = w.frozen? ⟨b, o, none⟩ := by
  unfold World.frozen?
  rw [show w'.heap[(⟨b, o, none⟩ : Addr).block]? = w.heap[(⟨b, o, none⟩ : Addr).block]? from h]

theorem RdAt.below {w w' : World} {rb n p : Nat} (h : RdAt w rb n p) (hb : Below w.heap.size w w') : RdAt w' rb n p := by
  have hl := h.lt
  refine ⟨by have := hb.size; omega, ?_, (below_cell hb hl).trans h.place, h.le, h.few, (frozen_same (hb.block rb hl)).trans h.free⟩
  obtain ⟨a, cap, h1, h2⟩ := h.src
  refine ⟨a, cap, (below_cell hb hl).trans h1, fun hp => ?_⟩
  obtain ⟨b, o, e, hlt, hx⟩ := h2 hp
  exact ⟨b, o, e, hlt, fun i hi => by obtain ⟨x, h3, h4⟩ := hx i hi; exact ⟨x, h3, (below_cell hb (by omega)).trans h4⟩⟩

theorem RdAt.step {w : World} {rb n p : Nat} (h : RdAt w rb n p) (hp : p < n) : RdAt (w.setCell ⟨rb, 1, none⟩ (.int .i64 ((p + 1 : Nat) : Int))) rb n (p + 1) := by
  refine ⟨by simpa using h.lt, ?_, World.cell?_setCell_same _ _ _ h.place, by omega, h.few, by rw [World.frozen?_setCell]; exact h.free⟩
  obtain ⟨a, cap, h1, h2⟩ := h.src
  refine ⟨a, cap, by rw [World.cell?_setCell_other (h := by simp)]; exact h1, fun hp => ?_⟩
  obtain ⟨b, o, e, hlt, hx⟩ := h2 hp
  refine ⟨b, o, e, hlt, fun i hi => ?_⟩
  obtain ⟨x, h3, h4⟩ := hx i hi
  exact ⟨x, h3, by rw [World.cell?_setCell_other (h := by intro e2; injection e2 with e3; omega)]; exact h4⟩

theorem Drawn.refl {rb n p : Nat} {w : World} (h : RdAt w rb n p) : Drawn rb n w w := ⟨⟨p, h⟩, Only.refl _ _, Below.refl _ _⟩
theorem Drawn.trans {rb n : Nat} {a b c : World} (h : Drawn rb n a b) (k : Drawn rb n b c) : Drawn rb n a c := ⟨k.rd, h.only.trans k.only, h.below.trans k.below⟩
theorem Drawn.next {rb n : Nat} {a b c : World} (h : Drawn rb n a b) (k : Below b.heap.size b c) : Drawn rb n a c := by
  obtain ⟨p, hp⟩ := h.rd
  exact ⟨⟨p, hp.below k⟩, h.only.trans (Only.of_below k), h.below.trans (k.mono (Nat.le_of_lt hp.lt))⟩

set_option maxRecDepth 100000 in
set_option maxHeartbeats 1600000 in
theorem rdNext_any (rb n p : Nat) (w : World) (h : RdAt w rb n p) :
    Calls Try.prog 96 #[.pointer (some ⟨rb, 0, none⟩)] w fun e w' => (∃ x : Nat, x < 256 ∧ e = .returned (.int .i64 x)) ∧ Drawn rb n w w' := by
  have H := hideIt h
  obtain ⟨a, cap, h1, h2⟩ := h.src
  have h3 := h.place
  have h4 := h.le
  have h5 := h.few
  have h6 := h.lt
  have HS := hideIt h2
  clear h h2
  by_cases hp : p < n
  · obtain ⟨b, o, rfl, hlt, hx⟩ := HS.out (by omega)
    obtain ⟨x, hx1, hx2⟩ := hx p hp
    have hfz := H.out.free
    clear hx
    go_enter Try.func96, Try.ntmps96
    go_wp2_with fail
    go_quiet (fail)
    have hd1 := below_drewN (Below.refl w.heap.size w) nq
    have HR1 := hideIt (H.out.below hd1)
    have k1 : (w.drewN nq).cell? ⟨rb, 1, none⟩ = some (.int .i64 p) := HR1.out.place
    have k2 : (w.drewN nq).frozen? ⟨rb, 1, none⟩ = false := HR1.out.free
    have k3 := (below_cell hd1 (by omega)).trans h1
    have k4 := (below_cell hd1 (by omega)).trans hx2
    have HD1 := hideIt hd1
    generalize w.drewN nq = W1 at hd1 HR1 HD1 k1 k2 k3 k4 ⊢
    clear nq h3 h1 hx2 hfz hd1
    have z1 := HD1.out.size
    go_wp2_with fail
    have HR2 := hideIt (HR1.out.step hp)
    have l1 : (W1.setCell ⟨rb, 1, none⟩ (.int .i64 ((p : Int) + 1))).cell? ⟨rb, 1, none⟩ = some (.int .i64 ((p : Int) + 1)) := World.cell?_setCell_same _ _ _ k1
    have l3 : (W1.setCell ⟨rb, 1, none⟩ (.int .i64 ((p : Int) + 1))).cell? ⟨rb, 0, none⟩ = some (.slice (some ⟨b, o, none⟩) n cap) := by rw [World.cell?_setCell_other (h := by simp)]; exact k3
    have l4 : (W1.setCell ⟨rb, 1, none⟩ (.int .i64 ((p : Int) + 1))).cell? ⟨b, o + p, none⟩ = some (.int .u8 x) := by rw [World.cell?_setCell_other (h := by intro e2; injection e2 with e3; omega)]; exact k4
    have HDR : Hid (Drawn rb n w (W1.setCell ⟨rb, 1, none⟩ (.int .i64 ((p : Int) + 1)))) := by
      refine ⟨⟨p + 1, HR2.out⟩, (Only.of_below HD1.out).trans (Only.set (P := fun c => c = rb) _ rfl _), (HD1.out.mono (Nat.le_of_lt h6)).setCell (Nat.le_refl _) _⟩
    have p1 : (p : Int) + 1 - 1 = (p : Int) := by omega
    clear HR2
    generalize W1.setCell ⟨rb, 1, none⟩ (.int .i64 ((p : Int) + 1)) = W2 at l1 l3 l4 HDR ⊢
    clear k1 k2 k3 k4 HD1 HR1
    go_quiet (fail)
    go_wp2_with fail
    go_ret
    exact ⟨⟨x, hx1, by simp⟩, HDR.out.next (below_drewN (Below.refl _ _) nq)⟩
  · have hnp : ¬ ((p : Int) < (n : Int)) := by omega
    go_enter Try.func96, Try.ntmps96
    go_wp2_with fail
    go_quiet (fail)
    go_wp2_with fail
    go_ret
    exact ⟨⟨0, by omega, rfl⟩, (Drawn.refl H.out).next (below_drewN (Below.refl _ _) nq)⟩

/-! ### Draws of numbers below a bound, and of yes or no -/
set_option maxRecDepth 100000 in
set_option maxHeartbeats 1600000 in
theorem rdBelow_any (rb n m : Nat) (w : World) (h : ∃ p, RdAt w rb n p) (hm : 1 ≤ m) (hM : m ≤ 1048577) :
    Calls Try.prog 68 #[.pointer (some ⟨rb, 0, none⟩), .int .i64 m] w fun e w' => (∃ x : Nat, x < m ∧ e = .returned (.int .i64 x)) ∧ Drawn rb n w w' := by
  obtain ⟨p, h⟩ := h
  have H := hideIt h
  clear h
  by_cases h1 : m ≤ 1
  · have h1' : (m : Int) ≤ 1 := by omega
    go_enter Try.func68, Try.ntmps68
    go_wp2_with fail
    go_ret
    exact ⟨⟨0, by omega, rfl⟩, Drawn.refl H.out⟩
  · have h1' : ¬ (m : Int) ≤ 1 := by omega
    have hm0 : ¬ (m : Int) = 0 := by omega
    have hmb : ((m : Int) == 0) = false := by simp; omega
    by_cases h2 : m ≤ 256
    · have h2' : (m : Int) ≤ 256 := by omega
      go_enter Try.func68, Try.ntmps68
      go_wp2_with fail
      refine (rdNext_any rb n p w H.out).mono ?_
      rintro e w1 ⟨⟨x, hx, rfl⟩, hd⟩
      have HD := hideIt hd
      clear hd
      go_wp2_with fail
      go_ret
      exact ⟨⟨x % m, Nat.mod_lt _ (by omega), by simp⟩, HD.out⟩
    · have h2' : ¬ (m : Int) ≤ 256 := by omega
      go_enter Try.func68, Try.ntmps68
      go_wp2_with fail
      refine (rdNext_any rb n p w H.out).mono ?_
      rintro e w1 ⟨⟨x, hx, rfl⟩, hd⟩
      have HD := hideIt hd
      obtain ⟨p2, hp2⟩ := hd.rd
      have H2 := hideIt hp2
      clear hd hp2
      go_wp2_with fail
      refine (rdNext_any rb n p2 w1 H2.out).mono ?_
      rintro e w2 ⟨⟨y, hy, rfl⟩, hd2⟩
      have HD2 := hideIt (HD.out.trans hd2)
      clear hd2
      go_wp2_with fail
      go_ret
      exact ⟨⟨(x * 256 + y) % m, Nat.mod_lt _ (by omega), by simp⟩, HD2.out⟩

set_option maxRecDepth 100000 in
set_option maxHeartbeats 1600000 in
theorem rdOnce_any (rb n m : Nat) (w : World) (h : ∃ p, RdAt w rb n p) (hm : 1 ≤ m) (hM : m ≤ 1048577) :
    Calls Try.prog 49 #[.pointer (some ⟨rb, 0, none⟩), .int .i64 m] w fun e w' => (∃ x : Bool, e = .returned (.bool x)) ∧ Drawn rb n w w' := by
  have H := hideIt h
  clear h
  go_enter Try.func49, Try.ntmps49
  go_wp2_with fail
  refine (rdBelow_any rb n m w H.out hm hM).mono ?_
  rintro e w1 ⟨⟨x, hx, rfl⟩, hd⟩
  have HD := hideIt hd
  clear hd
  go_wp2_with fail
  go_ret
  exact ⟨⟨_, rfl⟩, HD.out⟩
end Go.Proofs.Ytpfnkpkcjefelaa
