/-
  The laws' marks of nodes: each field of each node and each part of its keys and kids gets its own number, and holds it.
-/
import Derived.Test.YtgmnihofkpjboaaDoorMark
namespace Go.Proofs.YtgmnihofkpjboaaDoor
open Go.RowKit
set_option linter.unusedSimpArgs false
set_option linter.unusedVariables false

def off (KN IN : Nat → Nat) (k : Nat) : Nat → Nat
  | 0 => k
  | i + 1 => off KN IN k i + 3 + KN i + IN i

theorem off_le (KN IN : Nat → Nat) (k : Nat) : ∀ i, (∀ j, j < i → KN j ≤ 1048576 ∧ IN j ≤ 1048576) → off KN IN k i ≤ k + i * 2097155 := by
  intro i
  induction i with
  | zero => intro _; simp [off]
  | succ i ih =>
    intro h
    have := ih (fun j hj => h j (by omega))
    have := h i (by omega)
    rw [off]
    omega
theorem off_ge (KN IN : Nat → Nat) (k : Nat) : ∀ i, k ≤ off KN IN k i := by
  intro i
  induction i with
  | zero => exact Nat.le_refl _
  | succ i ih => rw [off]; omega

/-- Nodes whose memory is their own: rows apart, all of them to be written. -/
structure Marky (lo : Nat) (w : World) (b n : Nat) (KN IN KB KI : Nat → Nat) : Prop where
  low : lo ≤ b
  lt : b < w.heap.size
  few : n ≤ 1048576
  row : WRow w b (n * 5)
  kn : ∀ i, i < n → KN i ≤ 1048576 ∧ IN i ≤ 1048576
  c3 : ∀ i, i < n → ∃ a c, w.cell? ⟨b, i * 5 + 3, none⟩ = some (.slice a (KN i) c) ∧ (0 < KN i → a = some ⟨KB i, 0, none⟩ ∧ lo ≤ KB i ∧ KB i < w.heap.size ∧ WRow w (KB i) (KN i))
  c4 : ∀ i, i < n → ∃ a c, w.cell? ⟨b, i * 5 + 4, none⟩ = some (.slice a (IN i) c) ∧ (0 < IN i → a = some ⟨KI i, 0, none⟩ ∧ lo ≤ KI i ∧ KI i < w.heap.size ∧ WRow w (KI i) (IN i))
  db : ∀ i, i < n → (0 < KN i → KB i ≠ b) ∧ (0 < IN i → KI i ≠ b)
  dkk : ∀ i j, i < n → j < n → i ≠ j → 0 < KN i → 0 < KN j → KB i ≠ KB j
  dki : ∀ i j, i < n → j < n → 0 < KN i → 0 < IN j → KB i ≠ KI j
  dii : ∀ i j, i < n → j < n → i ≠ j → 0 < IN i → 0 < IN j → KI i ≠ KI j

/-- Node i holds its marks, from o on. -/
structure HNode (w : World) (b i kn ni kb ki o : Nat) : Prop where
  lt : b < w.heap.size
  c0 : w.cell? ⟨b, i * 5, none⟩ = some (.int .i64 (o : Nat))
  c1 : w.cell? ⟨b, i * 5 + 1, none⟩ = some (.int .i64 (o + 1 : Nat))
  c2 : w.cell? ⟨b, i * 5 + 2, none⟩ = some (.string (markOf (o + 2)))
  c3 : ∃ a c, w.cell? ⟨b, i * 5 + 3, none⟩ = some (.slice a kn c) ∧ (0 < kn → a = some ⟨kb, 0, none⟩ ∧ kb < w.heap.size ∧ ∀ j, j < kn → w.cell? ⟨kb, j, none⟩ = some (.string (markOf (o + 3 + j))))
  c4 : ∃ a c, w.cell? ⟨b, i * 5 + 4, none⟩ = some (.slice a ni c) ∧ (0 < ni → a = some ⟨ki, 0, none⟩ ∧ ki < w.heap.size ∧ ∀ j, j < ni → w.cell? ⟨ki, j, none⟩ = some (.int .i64 (o + 3 + kn + j : Nat)))

theorem HNode.keep {w w' : World} {b i kn ni kb ki o : Nat} (h : HNode w b i kn ni kb ki o) (hs : w.heap.size ≤ w'.heap.size) (hb : ∀ j, j < 5 → w'.cell? ⟨b, i * 5 + j, none⟩ = w.cell? ⟨b, i * 5 + j, none⟩)
    (hk : 0 < kn → ∀ j, w'.cell? ⟨kb, j, none⟩ = w.cell? ⟨kb, j, none⟩) (hi : 0 < ni → ∀ j, w'.cell? ⟨ki, j, none⟩ = w.cell? ⟨ki, j, none⟩) : HNode w' b i kn ni kb ki o := by
  refine ⟨by have := h.lt; omega, (hb 0 (by omega)).trans h.c0, (hb 1 (by omega)).trans h.c1, (hb 2 (by omega)).trans h.c2, ?_, ?_⟩
  · obtain ⟨a, c, e, hx⟩ := h.c3
    refine ⟨a, c, (hb 3 (by omega)).trans e, fun hp => ?_⟩
    obtain ⟨e1, e2, e3⟩ := hx hp
    exact ⟨e1, by omega, fun j hj => (hk hp j).trans (e3 j hj)⟩
  · obtain ⟨a, c, e, hx⟩ := h.c4
    refine ⟨a, c, (hb 4 (by omega)).trans e, fun hp => ?_⟩
    obtain ⟨e1, e2, e3⟩ := hx hp
    exact ⟨e1, by omega, fun j hj => (hi hp j).trans (e3 j hj)⟩

theorem HNode.below {w w' : World} {b i kn ni kb ki o : Nat} (h : HNode w b i kn ni kb ki o) (hb : Below w.heap.size w w') : HNode w' b i kn ni kb ki o := by
  obtain ⟨_, _, _, h3⟩ := h.c3
  obtain ⟨_, _, _, h4⟩ := h.c4
  exact h.keep hb.size (fun j _ => below_cell hb h.lt) (fun hp j => below_cell hb (h3 hp).2.1) (fun hp j => below_cell hb (h4 hp).2.1)

set_option maxRecDepth 100000 in
set_option maxHeartbeats 3200000 in
theorem heldVNodeS_any (b n cap k : Nat) (a : Option Addr) (KN IN KB KI : Nat → Nat) (w : World) (ha : 0 < n → a = some ⟨b, 0, none⟩) (hn : n ≤ 1048576) (hkn : ∀ i, i < n → KN i ≤ 1048576 ∧ IN i ≤ 1048576) (hk0 : 1 ≤ k) (hk : k ≤ 10000000000000)
    (h : ∀ i, i < n → HNode w b i (KN i) (IN i) (KB i) (KI i) (off KN IN k i)) :
    Calls Tryd.prog 13 #[.slice a n cap, .int .i64 k] w fun e w' => e = .returned (.int .i64 (off KN IN k n : Nat)) ∧ Below w.heap.size w w' := by
  have HA := hideIt ha
  have HK := hideIt hkn
  have HH := hideIt h
  clear ha hkn h
  go_enter Tryd.func13, Tryd.ntmps13
  go_wp2_with fail
  go_loopw [1, 5] (fun q i wr => ∃ c : Nat, c ≤ n ∧ q = .int .i64 (off KN IN k c : Nat) ∧ i = .int .i64 c ∧ Below w.heap.size w wr) (fun _ i _ => n - (intOf i).toNat)
  case atStart => exact ⟨0, Nat.zero_le _, rfl, rfl, Below.refl _ _⟩
  case round =>
    obtain ⟨c, hc, rfl, rfl, hbl⟩ := hrel
    have zs := hbl.size
    by_cases hlt : c < n
    · obtain rfl := HA.out (by omega)
      have hN := (HH.out c hlt).below hbl
      have c0 := hN.c0
      have c1 := hN.c1
      have c2 := hN.c2
      obtain ⟨a3, p3, c3, h3⟩ := hN.c3
      obtain ⟨a4, p4, c4, h4⟩ := hN.c4
      have hbs := hN.lt
      have ob := off_le KN IN k c (fun j hj => HK.out j (by omega))
      have og := off_ge KN IN k c
      have H3 := hideIt h3
      have H4 := hideIt h4
      have kk := HK.out c hlt
      have HO : Hid (off KN IN k (c + 1) = off KN IN k c + 3 + KN c + IN c) := rfl
      clear h3 h4 hN
      generalize off KN IN k c = o at *
      go_wp2_with fail
      go_region_with (go_at_call 27; (try rw [show ((o : Int) + 1 + 1) = ((o + 2 : Nat) : Int) by omega]); refine (markText_any (o + 2) _ ?_ ?_).mono ?_; exact (by omega); exact (by omega); rintro e w5 ⟨rfl, hb5⟩; have d2 := (below_cell (o := c * 5 + 2) hb5 (by simpa using hbs)).trans c2)
      all_goals
        have z5 := hb5.size
        have z5' : wr.heap.size ≤ w5.heap.size := by simpa using z5
        have HB5 := hideIt (hbl.drew.trans (hb5.mono (by simpa using zs)))
        have d3 := (below_cell (o := c * 5 + 3) hb5 (by simpa using hbs)).trans c3
        have d4 := (below_cell (o := c * 5 + 4) hb5 (by simpa using hbs)).trans c4
        have HK5 : Hid (0 < KN c → a3 = some ⟨KB c, 0, none⟩ ∧ KB c < w5.heap.size ∧ ∀ j, j < KN c → w5.cell? ⟨KB c, j, none⟩ = some (.string (markOf (o + 3 + j)))) := by
          intro hp
          obtain ⟨e1, e2, e3⟩ := H3.out hp
          exact ⟨e1, by omega, fun j hj => (below_cell hb5 (by simpa using e2)).trans (e3 j hj)⟩
        have HI5 : Hid (0 < IN c → a4 = some ⟨KI c, 0, none⟩ ∧ KI c < w5.heap.size ∧ ∀ j, j < IN c → w5.cell? ⟨KI c, j, none⟩ = some (.int .i64 (o + 3 + KN c + j : Nat))) := by
          intro hp
          obtain ⟨e1, e2, e3⟩ := H4.out hp
          exact ⟨e1, by omega, fun j hj => (below_cell hb5 (by simpa using e2)).trans (e3 j hj)⟩
        clear hb5 z5 c0 c1 c2 c3 c4 d2
        go_wp2_with fail
        rw [show ((o : Int) + 2 + 1) = ((o + 3 : Nat) : Int) by omega]
        refine (heldStringS_any 0 a3 (KN c) p3 (o + 3) _ (fun hp => ⟨KB c, HK5.out hp⟩) kk.1 (by omega) (by omega)).mono ?_
        rintro e w6 ⟨rfl, hb6⟩
        have z6 := hb6.size
        have HB6 := hideIt (HB5.out.trans (hb6.mono (by omega)))
        have f4 := (below_cell (o := c * 5 + 4) hb6 (by omega)).trans d4
        have HI6 : Hid (0 < IN c → ∃ b, a4 = some ⟨b, 0, none⟩ ∧ ∀ j, j < IN c → w6.cell? ⟨b, j, none⟩ = some (.int .i64 (o + 3 + KN c + j : Nat))) := by
          intro hp
          obtain ⟨e1, e2, e3⟩ := HI5.out hp
          exact ⟨KI c, e1, fun j hj => (below_cell hb6 e2).trans (e3 j hj)⟩
        clear hb6 d3 d4
        go_wp2_with fail
        refine (heldInt64S_any 0 a4 (IN c) p4 (o + 3 + KN c) _ HI6.out kk.2 (by omega)).mono ?_
        rintro e w7 ⟨rfl, rfl⟩
        go_wp2_with fail
        go_roundw
        case rel => exact ⟨c + 1, by omega, by rw [HO.out]; first | rfl | go_num | simp, by go_num, HB6.out⟩
        case measure => simp [intOf]; omega
    · obtain rfl : c = n := by omega
      go_wp2_with fail
      go_ret
      exact ⟨rfl, hbl⟩
end Go.Proofs.YtgmnihofkpjboaaDoor
