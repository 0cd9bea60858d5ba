/-
  The law's comparison of two rows of rows of nodes; and the draw of a value with a place in it.
-/
import Derived.Test.YtpakfgonemiebaaSame
import Derived.Test.YtpakfgonemiebaaMapP
import Derived.Test.YtpakfgonemiebaaPathsP
import Derived.Test.YtpakfgonemiebaaSParts
import Derived.Test.YtpakfgonemiebaaWn6
import Derived.Test.YtpakfgonemiebaaVOf
import Derived.Test.YtpakfgonemiebaaStepN
import Derived.Test.YtpakfgonemiebaaProg
namespace Go.Proofs.Ytpakfgonemiebaa
open Go.RowKit
set_option linter.unusedSimpArgs false
set_option linter.unusedVariables false

/-- Two rows of rows are the same. -/
def SameRows (m n : Nat) (L L' : Nat → List VN) : Prop := m = n ∧ ∀ i, i < m → L i = L' i

set_option maxRecDepth 100000 in
set_option maxHeartbeats 1600000 in
theorem sameAll_any (B : Nat) (u1 u2 : Value) (m n : Nat) (L L' : Nat → List VN) (w : World) (h1 : RowsAt B w u1 m L) (h2 : RowsAt B w u2 n L') (hB : B ≤ w.heap.size) :
    Calls Try.prog 21 #[u1, u2] w fun e w' => (∃ b, e = .returned (.bool b) ∧ (b = true ↔ SameRows m n L L')) ∧ Below w.heap.size w w' := by
  obtain ⟨hm, a1, c1, rfl, hc1⟩ := h1
  obtain ⟨hn, a2, c2, rfl, hc2⟩ := h2
  have HC1 := hideIt hc1
  have HC2 := hideIt hc2
  clear hc1 hc2
  by_cases hl : m = n
  case neg =>
    have hne : ((m : Int) != (n : Int)) = true := by simp; omega
    have HO : Hid (¬ SameRows m n L L') := fun e => hl e.1
    clear hl
    go_enter Try.func21, Try.ntmps21
    go_wp2_with fail
    go_ret
    exact ⟨ret_no HO.out, Below.refl _ _⟩
  case pos =>
  subst hl
  have hne : ((m : Int) != (m : Int)) = false := by simp
  go_enter Try.func21, Try.ntmps21
  go_wp2_with fail
  go_loopw [5] (fun i wr => ∃ k : Nat, k ≤ m ∧ i = .int .i64 k ∧ Hid (∀ j, j < k → L j = L' j) ∧ Below w.heap.size w wr) (fun i _ => m - (intOf i).toNat)
  case atStart => exact ⟨0, Nat.zero_le _, rfl, fun j hj => absurd hj (by omega), Below.refl _ _⟩
  case round =>
    obtain ⟨k, hk, rfl, HE, hbel⟩ := hrel
    have zs := hbel.size
    by_cases hlt : k < m
    case neg =>
      have HO : Hid (SameRows m m L L') := ⟨rfl, fun j hj => HE.out j (by omega)⟩
      go_wp2_with fail
      go_ret
      exact ⟨⟨true, rfl, by simp only [true_iff]; exact HO.out⟩, hbel⟩
    case pos =>
    obtain ⟨b1, rfl, hb1, hr1⟩ := HC1.out (by omega)
    obtain ⟨b2, rfl, hb2, hr2⟩ := HC2.out (by omega)
    obtain ⟨r1, e1, n1⟩ := hr1 k hlt
    obtain ⟨r2, e2, n2⟩ := hr2 k hlt
    have f1 := (below_cell hbel (show b1 < w.heap.size by omega)).trans e1
    have f2 := (below_cell hbel (show b2 < w.heap.size by omega)).trans e2
    have HN1 := hideIt (n1.below (hbel.mono hB))
    have HN2 := hideIt (n2.below (hbel.mono hB))
    obtain ⟨_, ar1, cr1, rfl, _⟩ := n1
    obtain ⟨_, ar2, cr2, rfl, _⟩ := n2
    clear hr1 hr2 e1 e2
    go_wp2_with fail
    go_region_with (go_at_call 13; refine (same_any B _ _ (L k) (L' k) _ ?_ ?_ ?_).mono ?_; exact HN1.out.below (bsame rfl rfl rfl rfl); exact HN2.out.below (bsame rfl rfl rfl rfl); exact (by simp; omega); rintro e w1 ⟨⟨b, rfl, hb⟩, hq⟩)
    all_goals
      have HB1 : Hid (Below w.heap.size w w1) := hbel.drew.trans (hq.mono (by simpa using zs))
      have HBB := hideIt hb
      clear hb hq
      cases b
      · have HO : Hid (¬ SameRows m m L L') := fun e => by
          have := HBB.out.2 (e.2 k hlt)
          cases this
        go_wp2_with fail
        go_ret
        exact ⟨ret_no HO.out, HB1.out⟩
      · have HE2 : Hid (∀ j, j < k + 1 → L j = L' j) := fun j hj => by
          by_cases e : j = k
          · subst e; exact HBB.out.1 rfl
          · exact HE.out j (by omega)
        go_wp2_with fail
        go_roundw
        case rel => exact ⟨k + 1, by omega, by go_num, HE2, HB1.out⟩
        case measure => simp [intOf]; omega

end Go.Proofs.Ytpakfgonemiebaa

/-
  laws.sameAll of rows that are cut out of rows.
-/
namespace Go.Proofs.Ytpakfgonemiebaa
open Go.RowKit
set_option linter.unusedSimpArgs false
set_option linter.unusedVariables false

/-- Rows of nodes, from a place on. -/
def RowsO (B : Nat) (w : World) (v : Value) (m : Nat) (L : Nat → List VN) : Prop :=
  m ≤ 1048576 ∧ ∃ a c, v = .slice a m c ∧ (0 < m → ∃ b o, a = some ⟨b, o, none⟩ ∧ b < B ∧ ∀ i, i < m → ∃ r, w.cell? ⟨b, o + i, none⟩ = some r ∧ NodesAt B w r (L i))
theorem RowsAt.part {B : Nat} {w : World} {g m c d n c' : Nat} {A : Option Addr} {L : Nat → List VN} (h : RowsAt B w (.slice (some ⟨g, 0, none⟩) m c) m L) (hd : d + n ≤ m) (hA : 0 < n → A = some ⟨g, d, none⟩) : RowsO B w (.slice A n c') n (fun i => L (d + i)) := by
  obtain ⟨h1, a, cc, e, h2⟩ := h
  refine ⟨by omega, A, c', rfl, fun hp => ?_⟩
  obtain ⟨b, ea, hb, hc⟩ := h2 (by omega)
  simp only [Value.slice.injEq] at e
  obtain ⟨rfl, _, rfl⟩ := e
  simp only [Option.some.injEq, Addr.mk.injEq, and_true] at ea
  subst ea
  refine ⟨g, d, hA hp, hb, fun i hi => hc (d + i) (by omega)⟩
theorem RowsO.none (B : Nat) (w : World) (A : Option Addr) (c' : Nat) (L : Nat → List VN) : RowsO B w (.slice A 0 c') 0 L := ⟨by omega, A, c', rfl, fun h => absurd h (by omega)⟩
theorem RowsO.below {B : Nat} {w w' : World} {v : Value} {m : Nat} {L : Nat → List VN} (h : RowsO B w v m L) (hb : Below B w w') : RowsO B w' v m L := by
  obtain ⟨h1, a, c, e, h2⟩ := h
  refine ⟨h1, a, c, e, fun hp => ?_⟩
  obtain ⟨b, o, ea, hb2, hc⟩ := h2 hp
  refine ⟨b, o, ea, hb2, fun i hi => ?_⟩
  obtain ⟨r, h3, h4⟩ := hc i hi
  exact ⟨r, (below_cell hb hb2).trans h3, h4.below hb⟩

set_option maxRecDepth 100000 in
set_option maxHeartbeats 1600000 in
theorem sameAll_off (B : Nat) (u1 u2 : Value) (m n : Nat) (L L' : Nat → List VN) (w : World) (h1 : RowsO B w u1 m L) (h2 : RowsO B w u2 n L') (hB : B ≤ w.heap.size) :
    Calls Try.prog 21 #[u1, u2] w fun e w' => (∃ b, e = .returned (.bool b) ∧ (b = true ↔ SameRows m n L L')) ∧ Below w.heap.size w w' := by
  obtain ⟨hm, a1, c1, rfl, hc1⟩ := h1
  obtain ⟨hn, a2, c2, rfl, hc2⟩ := h2
  have HC1 := hideIt hc1
  have HC2 := hideIt hc2
  clear hc1 hc2
  by_cases hl : m = n
  case neg =>
    have hne : ((m : Int) != (n : Int)) = true := by simp; omega
    have HO : Hid (¬ SameRows m n L L') := fun e => hl e.1
    clear hl
    go_enter Try.func21, Try.ntmps21
    go_wp2_with fail
    go_ret
    exact ⟨ret_no HO.out, Below.refl _ _⟩
  case pos =>
  subst hl
  have hne : ((m : Int) != (m : Int)) = false := by simp
  go_enter Try.func21, Try.ntmps21
  go_wp2_with fail
  go_loopw [5] (fun i wr => ∃ k : Nat, k ≤ m ∧ i = .int .i64 k ∧ Hid (∀ j, j < k → L j = L' j) ∧ Below w.heap.size w wr) (fun i _ => m - (intOf i).toNat)
  case atStart => exact ⟨0, Nat.zero_le _, rfl, fun j hj => absurd hj (by omega), Below.refl _ _⟩
  case round =>
    obtain ⟨k, hk, rfl, HE, hbel⟩ := hrel
    have zs := hbel.size
    by_cases hlt : k < m
    case neg =>
      have HO : Hid (SameRows m m L L') := ⟨rfl, fun j hj => HE.out j (by omega)⟩
      go_wp2_with fail
      go_ret
      exact ⟨⟨true, rfl, by simp only [true_iff]; exact HO.out⟩, hbel⟩
    case pos =>
    obtain ⟨b1, o1, rfl, hb1, hr1⟩ := HC1.out (by omega)
    obtain ⟨b2, o2, rfl, hb2, hr2⟩ := HC2.out (by omega)
    obtain ⟨r1, e1, n1⟩ := hr1 k hlt
    obtain ⟨r2, e2, n2⟩ := hr2 k hlt
    have f1 := (below_cell hbel (show b1 < w.heap.size by omega)).trans e1
    have f2 := (below_cell hbel (show b2 < w.heap.size by omega)).trans e2
    have HN1 := hideIt (n1.below (hbel.mono hB))
    have HN2 := hideIt (n2.below (hbel.mono hB))
    obtain ⟨_, ar1, cr1, rfl, _⟩ := n1
    obtain ⟨_, ar2, cr2, rfl, _⟩ := n2
    clear hr1 hr2 e1 e2
    go_wp2_with fail
    go_region_with (go_at_call 13; refine (same_any B _ _ (L k) (L' k) _ ?_ ?_ ?_).mono ?_; exact HN1.out.below (bsame rfl rfl rfl rfl); exact HN2.out.below (bsame rfl rfl rfl rfl); exact (by simp; omega); rintro e w1 ⟨⟨b, rfl, hb⟩, hq⟩)
    all_goals
      have HB1 : Hid (Below w.heap.size w w1) := hbel.drew.trans (hq.mono (by simpa using zs))
      have HBB := hideIt hb
      clear hb hq
      cases b
      · have HO : Hid (¬ SameRows m m L L') := fun e => by
          have := HBB.out.2 (e.2 k hlt)
          cases this
        go_wp2_with fail
        go_ret
        exact ⟨ret_no HO.out, HB1.out⟩
      · have HE2 : Hid (∀ j, j < k + 1 → L j = L' j) := fun j hj => by
          by_cases e : j = k
          · subst e; exact HBB.out.1 rfl
          · exact HE.out j (by omega)
        go_wp2_with fail
        go_roundw
        case rel => exact ⟨k + 1, by omega, by go_num, HE2, HB1.out⟩
        case measure => simp [intOf]; omega

end Go.Proofs.Ytpakfgonemiebaa

/-
  impl.PartsOf: the rows of the parts' nodes, in new memory.
-/
namespace Go.Proofs.Ytpakfgonemiebaa
open Go.RowKit
set_option linter.unusedSimpArgs false
set_option linter.unusedVariables false

set_option maxRecDepth 100000 in
set_option maxHeartbeats 6400000 in
theorem implPartsOf_any (B : Nat) (v : Value) (vs : List VN) (w : World) (h : NodesAt B w v vs) (hB : B ≤ w.heap.size) :
    Calls Try.prog 20 #[v] w fun e w' => ∃ r base rs KV IV lo, e = .returned r ∧ w.heap.size ≤ base ∧ Rows2 base w' r (partsN vs) (PL vs) rs KV IV lo ∧ Below w.heap.size w w' := by
  have HV := hideIt h
  obtain ⟨_, a, cap, rfl, _⟩ := h
  have HPN : Hid (partsN vs = if okB vs = true then (rootKids vs).length else 0) := rfl
  obtain ⟨i0, hi0, hz0, hs0, hy0⟩ := info_parts infoRow
  go_enter Try.func20, Try.ntmps20
  go_wp2_with fail
  cases ok1 : okB vs
  · refine (valueOf_no B _ vs _ HV.out hB ok1).mono ?_
    rintro e w1 ⟨rfl, hb1⟩
    have z1 := hb1.size
    go_wp2_with fail
    go_ret
    exact ⟨_, w1.heap.size, _, _, _, _, rfl, z1, by rw [HPN.out, ok1]; exact Rows2.start (World.ownsRow_nil _ _ _ _) (Nat.le_refl _) (PL vs), hb1⟩
  · refine (valueOf_yes B _ vs _ HV.out hB ok1).mono ?_
    rintro e w1 ⟨lo1, t, x, rfl, hl1, hl1', hv1, hb1⟩
    have z1 := hb1.size
    obtain ⟨p1, p2, _, p4⟩ := okB_parts ok1
    have ht := ValIs.tree (by omega) p2 p4 p1.2 (by omega) hv1
    obtain ⟨f, hf⟩ : ∃ f, vs.length = f + 1 := ⟨vs.length - 1, by omega⟩
    have HRK := hideIt (fun k hk => root_kid (k := k) ok1 hk)
    have HLP := hideIt (fun q (hq : q < f) => (lay_part ok1 hq (show q < vs.length by omega)))
    have HB1 := hideIt hb1
    have HPN1 : Hid (partsN vs = (rootKids vs).length) := by rw [Hid, HPN.out, if_pos ok1]
    rw [hf, show f + 1 - 1 = f by omega, treeOf] at ht
    have hk80 : (rootKids vs).length ≤ 80 := by have := p4 (vs.length - 1) (by omega); unfold rootKids; omega
    have HRE : Hid (rootKids vs = (nodeAt vs f).kids) := by rw [Hid]; unfold rootKids; rw [hf]; rfl
    have HTK : Hid (∀ k, k < (rootKids vs).length → ∃ q : Nat, kidT ((nodeAt vs f).kids.map fun k => treeOf vs f k.toNat) k = treeOf vs f q ∧ PL vs k = partOf vs q ∧ q < f) := by
      intro k hk
      obtain ⟨q, hq, hql⟩ := HRK.out k hk
      refine ⟨q, ?_, ?_, by omega⟩
      · rw [← HRE.out, kidT_map hk, hq, Int.toNat_natCast]
      · unfold PL; rw [hq, Int.toNat_natCast]
    obtain ⟨M, hM⟩ : ∃ M, (rootKids vs).length = M := ⟨_, rfl⟩
    have hM2 : ((nodeAt vs f).kids.map fun k => treeOf vs f k.toNat).length = M := by rw [List.length_map, ← HRE.out, hM]
    rw [hM] at hk80 HTK HPN1
    generalize ((nodeAt vs f).kids.map fun k => treeOf vs f k.toNat) = TT at ht HTK hM2
    clear hv1 p2 p4 hf hM hb1
    rcases ht with ⟨_, _, _, _, hk0, e⟩ | ⟨_, _, _, hk0, e⟩ | ⟨_, _, _, hk0, e⟩ | ⟨_, _, _, hk0, e⟩ | ⟨_, _, _, _, it, e, hi⟩ | ⟨_, _, _, ks, it, e, hs, hi⟩
    · cases e
      obtain rfl : M = 0 := by rw [← hM2, hk0]; rfl
      clear hk0 hM2 HTK
      go_wp2_with fail
      refine (parts1_any _).mono ?_
      rintro e w2 ⟨rfl, hb2⟩
      have z2 := hb2.size
      have HB2 := hideIt hb2
      have HR0 := hideIt (Rows2.start (base := w2.heap.size) (World.ownsRow_nil _ _ _ _) (Nat.le_refl _) (PL vs))
      clear hb2
      go_wp2_with fail
      go_loopw [5, 18] (fun o i wr => ∃ (k : Nat) (rs : Nat → Value) (KV IV : Nat → Nat → Value) (lo : Nat → Nat), k ≤ 0 ∧ i = .int .i64 k ∧ Rows2 w2.heap.size wr o k (PL vs) rs KV IV lo ∧ Below w2.heap.size w2 wr) (fun _ i _ => 0 - (intOf i).toNat)
      case atStart => exact ⟨0, _, _, _, _, Nat.zero_le _, rfl, HR0.out, Below.refl _ _⟩
      case round =>
        obtain ⟨k, rs, KV, IV, lo, hk, rfl, hrows, hbl⟩ := hrel
        have HR := hideIt hrows
        have zs := hbl.size
        obtain ⟨ao, co, eo⟩ := own_slice hrows.row
        subst eo
        clear hrows
        obtain rfl : k = 0 := by omega
        go_wp2_with fail
        go_ret
        exact ⟨_, w2.heap.size, _, _, _, _, rfl, by omega, by rw [HPN1.out]; exact HR.out, (HB1.out.trans (HB2.out.mono z1)).trans (hbl.mono (by omega))⟩
    · cases e
      obtain rfl : M = 0 := by rw [← hM2, hk0]; rfl
      clear hk0 hM2 HTK
      go_wp2_with fail
      refine (parts2_any _ _).mono ?_
      rintro e w2 ⟨rfl, hb2⟩
      have z2 := hb2.size
      have HB2 := hideIt hb2
      have HR0 := hideIt (Rows2.start (base := w2.heap.size) (World.ownsRow_nil _ _ _ _) (Nat.le_refl _) (PL vs))
      clear hb2
      go_wp2_with fail
      go_loopw [5, 18] (fun o i wr => ∃ (k : Nat) (rs : Nat → Value) (KV IV : Nat → Nat → Value) (lo : Nat → Nat), k ≤ 0 ∧ i = .int .i64 k ∧ Rows2 w2.heap.size wr o k (PL vs) rs KV IV lo ∧ Below w2.heap.size w2 wr) (fun _ i _ => 0 - (intOf i).toNat)
      case atStart => exact ⟨0, _, _, _, _, Nat.zero_le _, rfl, HR0.out, Below.refl _ _⟩
      case round =>
        obtain ⟨k, rs, KV, IV, lo, hk, rfl, hrows, hbl⟩ := hrel
        have HR := hideIt hrows
        have zs := hbl.size
        obtain ⟨ao, co, eo⟩ := own_slice hrows.row
        subst eo
        clear hrows
        obtain rfl : k = 0 := by omega
        go_wp2_with fail
        go_ret
        exact ⟨_, w2.heap.size, _, _, _, _, rfl, by omega, by rw [HPN1.out]; exact HR.out, (HB1.out.trans (HB2.out.mono z1)).trans (hbl.mono (by omega))⟩
    · cases e
      obtain rfl : M = 0 := by rw [← hM2, hk0]; rfl
      clear hk0 hM2 HTK
      go_wp2_with fail
      refine (parts3_any _ _).mono ?_
      rintro e w2 ⟨rfl, hb2⟩
      have z2 := hb2.size
      have HB2 := hideIt hb2
      have HR0 := hideIt (Rows2.start (base := w2.heap.size) (World.ownsRow_nil _ _ _ _) (Nat.le_refl _) (PL vs))
      clear hb2
      go_wp2_with fail
      go_loopw [5, 18] (fun o i wr => ∃ (k : Nat) (rs : Nat → Value) (KV IV : Nat → Nat → Value) (lo : Nat → Nat), k ≤ 0 ∧ i = .int .i64 k ∧ Rows2 w2.heap.size wr o k (PL vs) rs KV IV lo ∧ Below w2.heap.size w2 wr) (fun _ i _ => 0 - (intOf i).toNat)
      case atStart => exact ⟨0, _, _, _, _, Nat.zero_le _, rfl, HR0.out, Below.refl _ _⟩
      case round =>
        obtain ⟨k, rs, KV, IV, lo, hk, rfl, hrows, hbl⟩ := hrel
        have HR := hideIt hrows
        have zs := hbl.size
        obtain ⟨ao, co, eo⟩ := own_slice hrows.row
        subst eo
        clear hrows
        obtain rfl : k = 0 := by omega
        go_wp2_with fail
        go_ret
        exact ⟨_, w2.heap.size, _, _, _, _, rfl, by omega, by rw [HPN1.out]; exact HR.out, (HB1.out.trans (HB2.out.mono z1)).trans (hbl.mono (by omega))⟩
    · cases e
      obtain rfl : M = 0 := by rw [← hM2, hk0]; rfl
      clear hk0 hM2 HTK
      go_wp2_with fail
      refine (parts4_any _ _).mono ?_
      rintro e w2 ⟨rfl, hb2⟩
      have z2 := hb2.size
      have HB2 := hideIt hb2
      have HR0 := hideIt (Rows2.start (base := w2.heap.size) (World.ownsRow_nil _ _ _ _) (Nat.le_refl _) (PL vs))
      clear hb2
      go_wp2_with fail
      go_loopw [5, 18] (fun o i wr => ∃ (k : Nat) (rs : Nat → Value) (KV IV : Nat → Nat → Value) (lo : Nat → Nat), k ≤ 0 ∧ i = .int .i64 k ∧ Rows2 w2.heap.size wr o k (PL vs) rs KV IV lo ∧ Below w2.heap.size w2 wr) (fun _ i _ => 0 - (intOf i).toNat)
      case atStart => exact ⟨0, _, _, _, _, Nat.zero_le _, rfl, HR0.out, Below.refl _ _⟩
      case round =>
        obtain ⟨k, rs, KV, IV, lo, hk, rfl, hrows, hbl⟩ := hrel
        have HR := hideIt hrows
        have zs := hbl.size
        obtain ⟨ao, co, eo⟩ := own_slice hrows.row
        subst eo
        clear hrows
        obtain rfl : k = 0 := by omega
        go_wp2_with fail
        go_ret
        exact ⟨_, w2.heap.size, _, _, _, _, rfl, by omega, by rw [HPN1.out]; exact HR.out, (HB1.out.trans (HB2.out.mono z1)).trans (hbl.mono (by omega))⟩
    · cases e
      rw [hM2] at hi
      obtain ⟨_, ai, ci, rfl, hx⟩ := hi
      have HX := hideIt hx
      clear hx hM2
      go_wp2_with fail
      refine (parts5_any _ _ _ _).mono ?_
      rintro e w2 ⟨rfl, hb2⟩
      have z2 := hb2.size
      have HB2 := hideIt hb2
      have HR0 := hideIt (Rows2.start (base := w2.heap.size) (World.ownsRow_nil _ _ _ _) (Nat.le_refl _) (PL vs))
      clear hb2
      go_wp2_with fail
      go_loopw [5, 18] (fun o i wr => ∃ (k : Nat) (rs : Nat → Value) (KV IV : Nat → Nat → Value) (lo : Nat → Nat), k ≤ M ∧ i = .int .i64 k ∧ Rows2 w2.heap.size wr o k (PL vs) rs KV IV lo ∧ Below w2.heap.size w2 wr) (fun _ i _ => M - (intOf i).toNat)
      case atStart => exact ⟨0, _, _, _, _, Nat.zero_le _, rfl, HR0.out, Below.refl _ _⟩
      case round =>
        obtain ⟨k, rs, KV, IV, lo, hk, rfl, hrows, hbl⟩ := hrel
        have HR := hideIt hrows
        have zs := hbl.size
        obtain ⟨ao, co, eo⟩ := own_slice hrows.row
        subst eo
        clear hrows
        by_cases hlt : k < M
        · obtain ⟨b, rfl, hbB, hc⟩ := HX.out (by omega)
          obtain ⟨tk, xk, hck, htk⟩ := hc k hlt
          obtain ⟨q, hq1, hq2, hqf⟩ := HTK.out k hlt
          have hw : ∀ c, c < w1.heap.size → wr.heap[c]? = w1.heap[c]? := fun c hcc => (hbl.block c (by omega)).trans (HB2.out.block c hcc)
          have hck' : wr.cell? ⟨b, k, none⟩ = some (.iface tk xk) := (World.cell?_of_block (hw b hbB)).trans hck
          rw [hq1] at htk
          have HT := hideIt (TreeAt.keep hw (Nat.le_refl _) htk)
          have HL := hideIt (HLP.out q hqf)
          have HQ2 := hideIt hq2
          clear hc hck htk hq1 hq2 hw
          go_wp2_with fail
          refine (withNodes_any w1.heap.size wr.heap.size (by omega) f (treeOf vs f q) (.iface tk xk) (.slice none 0 0) [] (fun _ => undef) (fun _ => undef) wr (Nest.nil _ _ _ _) HT.out (Nat.le_refl _) (by have := HL.out; simp only [List.length_nil, Nat.zero_add, this.1]; omega)).mono ?_
          rintro e w3 ⟨r, K, I, rfl, hl3⟩
          have hn3 : Nest wr.heap.size w3 r (PL vs k) K I := by have := hl3.1; rw [List.nil_append, List.length_nil, HL.out.1, ← HQ2.out] at this; exact this
          have hb3 : Below wr.heap.size wr w3 := (Below.refl _ _).grown hl3.2.1 (Nat.le_refl _) (fun k hk => by simp [Value.ownBlock] at hk)
          have HN3 := hideIt hn3
          obtain ⟨ar, cr, er⟩ := own_slice hn3.row
          obtain ⟨Lk, hLk⟩ : ∃ Lk, (PL vs k).length = Lk := ⟨_, rfl⟩
          rw [hLk] at er
          subst er
          have HB3 := hideIt hb3
          have z3 := hb3.size
          have HROW := hideIt (HR.out.below hb3).row
          clear hn3 hb3 hLk hl3
          go_wp2_with (at_builtin; refine wpList_append_own_at _ rfl _ _ 40 rfl w2.heap.size 24 i0 (.slice none 0 0) 1 24 Try.underlying40 hi0 hz0 hs0 hy0 rfl (by decide) _ _ _ rfl (HROW.out.alloc _) ⟨w3.heap.size, 0, none⟩ 1 1 [.slice ar Lk cr] rfl rfl ?c1 ?c2 ?c3 ?c4 ?c5 ?_)
          case c1 => exact cell_one_new _ _ _
          case c2 => intro u hu; simp at hu; subst hu; rfl
          case c3 => unfold maxLen; omega
          case c4 => omega
          case c5 => simp; omega
          intro v' w5 hown hgrow _ _
          have HR5 := hideIt (HR.out.snoc HB3.out HN3.out hown hgrow)
          have HB5 : Hid (Below w2.heap.size w2 w5) := ((hbl.trans (HB3.out.mono zs)).alloc (by omega) _).grown hgrow (by simp; omega) (fun x hx => (HROW.out.lt x hx).1)
          clear hown hgrow
          go_wp2_with fail
          go_roundw
          case rel => exact ⟨k + 1, _, _, _, _, by omega, by go_num, HR5.out, HB5.out⟩
          case measure => simp [intOf]; omega
        · obtain rfl : k = M := by omega
          go_wp2_with fail
          go_ret
          exact ⟨_, w2.heap.size, _, _, _, _, rfl, by omega, by rw [HPN1.out]; exact HR.out, (HB1.out.trans (HB2.out.mono z1)).trans (hbl.mono (by omega))⟩
    · cases e
      rw [hM2] at hi
      obtain ⟨_, ai, ci, rfl, hx⟩ := hi
      obtain ⟨_, _, aS, cS, rfl, _⟩ := hs
      have HX := hideIt hx
      clear hx hM2
      go_wp2_with fail
      refine (parts6_any _ _ _ _ _ _ _).mono ?_
      rintro e w2 ⟨rfl, hb2⟩
      have z2 := hb2.size
      have HB2 := hideIt hb2
      have HR0 := hideIt (Rows2.start (base := w2.heap.size) (World.ownsRow_nil _ _ _ _) (Nat.le_refl _) (PL vs))
      clear hb2
      go_wp2_with fail
      go_loopw [5, 18] (fun o i wr => ∃ (k : Nat) (rs : Nat → Value) (KV IV : Nat → Nat → Value) (lo : Nat → Nat), k ≤ M ∧ i = .int .i64 k ∧ Rows2 w2.heap.size wr o k (PL vs) rs KV IV lo ∧ Below w2.heap.size w2 wr) (fun _ i _ => M - (intOf i).toNat)
      case atStart => exact ⟨0, _, _, _, _, Nat.zero_le _, rfl, HR0.out, Below.refl _ _⟩
      case round =>
        obtain ⟨k, rs, KV, IV, lo, hk, rfl, hrows, hbl⟩ := hrel
        have HR := hideIt hrows
        have zs := hbl.size
        obtain ⟨ao, co, eo⟩ := own_slice hrows.row
        subst eo
        clear hrows
        by_cases hlt : k < M
        · obtain ⟨b, rfl, hbB, hc⟩ := HX.out (by omega)
          obtain ⟨tk, xk, hck, htk⟩ := hc k hlt
          obtain ⟨q, hq1, hq2, hqf⟩ := HTK.out k hlt
          have hw : ∀ c, c < w1.heap.size → wr.heap[c]? = w1.heap[c]? := fun c hcc => (hbl.block c (by omega)).trans (HB2.out.block c hcc)
          have hck' : wr.cell? ⟨b, k, none⟩ = some (.iface tk xk) := (World.cell?_of_block (hw b hbB)).trans hck
          rw [hq1] at htk
          have HT := hideIt (TreeAt.keep hw (Nat.le_refl _) htk)
          have HL := hideIt (HLP.out q hqf)
          have HQ2 := hideIt hq2
          clear hc hck htk hq1 hq2 hw
          go_wp2_with fail
          refine (withNodes_any w1.heap.size wr.heap.size (by omega) f (treeOf vs f q) (.iface tk xk) (.slice none 0 0) [] (fun _ => undef) (fun _ => undef) wr (Nest.nil _ _ _ _) HT.out (Nat.le_refl _) (by have := HL.out; simp only [List.length_nil, Nat.zero_add, this.1]; omega)).mono ?_
          rintro e w3 ⟨r, K, I, rfl, hl3⟩
          have hn3 : Nest wr.heap.size w3 r (PL vs k) K I := by have := hl3.1; rw [List.nil_append, List.length_nil, HL.out.1, ← HQ2.out] at this; exact this
          have hb3 : Below wr.heap.size wr w3 := (Below.refl _ _).grown hl3.2.1 (Nat.le_refl _) (fun k hk => by simp [Value.ownBlock] at hk)
          have HN3 := hideIt hn3
          obtain ⟨ar, cr, er⟩ := own_slice hn3.row
          obtain ⟨Lk, hLk⟩ : ∃ Lk, (PL vs k).length = Lk := ⟨_, rfl⟩
          rw [hLk] at er
          subst er
          have HB3 := hideIt hb3
          have z3 := hb3.size
          have HROW := hideIt (HR.out.below hb3).row
          clear hn3 hb3 hLk hl3
          go_wp2_with (at_builtin; refine wpList_append_own_at _ rfl _ _ 40 rfl w2.heap.size 24 i0 (.slice none 0 0) 1 24 Try.underlying40 hi0 hz0 hs0 hy0 rfl (by decide) _ _ _ rfl (HROW.out.alloc _) ⟨w3.heap.size, 0, none⟩ 1 1 [.slice ar Lk cr] rfl rfl ?c1 ?c2 ?c3 ?c4 ?c5 ?_)
          case c1 => exact cell_one_new _ _ _
          case c2 => intro u hu; simp at hu; subst hu; rfl
          case c3 => unfold maxLen; omega
          case c4 => omega
          case c5 => simp; omega
          intro v' w5 hown hgrow _ _
          have HR5 := hideIt (HR.out.snoc HB3.out HN3.out hown hgrow)
          have HB5 : Hid (Below w2.heap.size w2 w5) := ((hbl.trans (HB3.out.mono zs)).alloc (by omega) _).grown hgrow (by simp; omega) (fun x hx => (HROW.out.lt x hx).1)
          clear hown hgrow
          go_wp2_with fail
          go_roundw
          case rel => exact ⟨k + 1, _, _, _, _, by omega, by go_num, HR5.out, HB5.out⟩
          case measure => simp [intOf]; omega
        · obtain rfl : k = M := by omega
          go_wp2_with fail
          go_ret
          exact ⟨_, w2.heap.size, _, _, _, _, rfl, by omega, by rw [HPN1.out]; exact HR.out, (HB1.out.trans (HB2.out.mono z1)).trans (hbl.mono (by omega))⟩
end Go.Proofs.Ytpakfgonemiebaa

/-
  A call by an interface's method, by its contract, as a step of a statement whose order is open.
-/
namespace Go.Proofs.Ytpakfgonemiebaa
open Go.RowKit
set_option linter.unusedSimpArgs false
set_option linter.unusedVariables false

theorem step_invoke {P : Program} {w : World} {ops : Array Oper} {o : Oper} {a : Act} {K : Act → World → Prop} {Q : Exit → Act → World → Prop} {E : Prop} (hgd : o.guard = none) (x : Operand) (name : String)
    (ho : o.op = .call { callee := .invoke x name, args := #[], argTypes := #[] }) (t : TypeId) (v : Value) (hx : a.eval x = .iface t v) (F : FuncId) (hm : ∀ w, (Go.method (P.types.size + Made.depth) t v name).run P w = .ok (F, v) w)
    (hcf : ∀ w, (callFunc F #[v]).run P w = .ok (.enter F #[v]) w) {R : Ending → World → Prop} (hc : Calls P F #[v] w R)
    (h : ∀ e w', R e w' → ∃ u, e = .returned u ∧ K (a.put o.dst u) w') :
    if Region.wanted o (yielded ops a.tmps) = true then Oper.wp P o a w K Q else E := by
  have hw : Region.wanted o (yielded ops a.tmps) = true := by simp [Region.wanted, hgd]
  rw [if_pos hw]
  unfold Oper.wp execOp
  simp [ho, resolve, invoke, callMethod, hx, Deferred.ofValue, hcf, hm, Result.andThen, Oper.upon_enter]
  refine hc.mono fun e w' hr => ?_
  obtain ⟨u, rfl, hk⟩ := h e w' hr
  exact hk

/-- Two arguments, behind a guard. -/
theorem step_call2g {P : Program} {w : World} {ops : Array Oper} {o : Oper} {a : Act} {K : Act → World → Prop} {Q : Exit → Act → World → Prop} {E : Prop} (hw : Region.wanted o (yielded ops a.tmps) = true) (F : FuncId) (x y : Operand) (T U : TypeId)
    (ho : o.op = .call { callee := .value (.func F), args := #[x, y], argTypes := #[T, U] }) (v u : Value) (hx : a.eval x = v) (hy : a.eval y = u) (hcf : ∀ w, (callFunc F #[v, u]).run P w = .ok (.enter F #[v, u]) w) {R : Ending → World → Prop} (hc : Calls P F #[v, u] w R)
    (h : ∀ e w', R e w' → ∃ u, e = .returned u ∧ K (a.put o.dst u) w') :
    if Region.wanted o (yielded ops a.tmps) = true then Oper.wp P o a w K Q else E := by
  rw [if_pos hw]
  unfold Oper.wp execOp
  have e1 : a.eval (.func F) = .func (.func F) #[] #[] := rfl
  simp [ho, resolve, invoke, hx, hy, e1, Deferred.ofValue, hcf, Result.andThen, Oper.upon_enter]
  refine hc.mono fun e w' hr => ?_
  obtain ⟨u, rfl, hk⟩ := h e w' hr
  exact hk
end Go.Proofs.Ytpakfgonemiebaa
