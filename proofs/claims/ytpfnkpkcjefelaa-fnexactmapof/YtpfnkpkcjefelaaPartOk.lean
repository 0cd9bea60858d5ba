/-
  spec.ListOf.
-/
import Derived.Test.YtpfnkpkcjefelaaListP
import Derived.Test.YtpfnkpkcjefelaaSpc3
namespace Go.Proofs.Ytpfnkpkcjefelaa
open Go.RowKit
set_option linter.unusedSimpArgs false
set_option linter.unusedVariables false

def allB (L : Nat → List VN) (m : Nat) : Bool := (List.range m).all fun i => okB (L i)
theorem allB_yes {L : Nat → List VN} {m : Nat} (h : allB L m = true) : ∀ i, i < m → okB (L i) = true := fun i hi => by
  unfold allB at h; rw [List.all_eq_true] at h; exact h i (List.mem_range.2 hi)
theorem allB_of {L : Nat → List VN} {m : Nat} (h : ∀ i, i < m → okB (L i) = true) : allB L m = true := by
  unfold allB; rw [List.all_eq_true]; exact fun i hi => h i (List.mem_range.1 hi)
theorem allB_no {L : Nat → List VN} {m i : Nat} (hi : i < m) (h : okB (L i) = false) : allB L m = false := by
  cases e : allB L m
  · rfl
  · have := allB_yes e i hi; rw [h] at this; cases this

theorem RowsAt.below {B : Nat} {w w' : World} {v : Value} {m : Nat} {L : Nat → List VN} (h : RowsAt B w v m L) (hb : Below B w w') : RowsAt B w' v m L := by
  obtain ⟨h1, a, c, e, h2⟩ := h
  refine ⟨h1, a, c, e, fun hp => ?_⟩
  obtain ⟨b, ea, hbB, h3⟩ := h2 hp
  refine ⟨b, ea, hbB, fun i hi => ?_⟩
  obtain ⟨r, e2, hn⟩ := h3 i hi
  exact ⟨r, (below_cell hb hbB).trans e2, hn.below hb⟩

set_option maxRecDepth 100000 in
set_option maxHeartbeats 1600000 in
theorem l1All_any (B : Nat) (u : Value) (m : Nat) (L : Nat → List VN) (w : World) (hu : RowsAt B w u m L) (hB : B ≤ w.heap.size) :
    Calls Try.prog 69 #[u] w fun e w' => e = .returned (.bool (allB L m && decide (m ≤ 80))) ∧ Below w.heap.size w w' := by
  obtain ⟨hm, au, cu, rfl, hcu⟩ := hu
  have HCU := hideIt hcu
  clear hcu
  go_enter Try.func69, Try.ntmps69
  go_wp2_with fail
  go_loopw [3] (fun i wr => ∃ k : Nat, k ≤ m ∧ i = .int .i64 k ∧ (∀ j, j < k → okB (L j) = true) ∧ Below w.heap.size w wr) (fun i _ => m - (intOf i).toNat)
  case atStart => exact ⟨0, Nat.zero_le _, rfl, fun j hj => absurd hj (by omega), Below.refl _ _⟩
  case round =>
    obtain ⟨k, hk, rfl, hall, hbl⟩ := hrel
    have HA := hideIt hall
    have zs := hbl.size
    clear hall
    by_cases hlt : k < m
    · obtain ⟨b, rfl, hbB, hcell⟩ := HCU.out (by omega)
      obtain ⟨r, hcr, hnr⟩ := hcell k hlt
      have hcr' := (below_cell hbl (by omega)).trans hcr
      have HN := hideIt (hnr.below (hbl.mono hB))
      obtain ⟨_, ar, cr, rfl, _⟩ := hnr
      clear hcell hcr
      go_wp2_with fail
      refine (specOk_any B _ (L k) _ HN.out (by omega)).mono ?_
      rintro e w1 ⟨rfl, hb1⟩
      have HB1 := hideIt (hbl.trans (hb1.mono zs))
      clear hb1
      cases ok1 : okB (L k)
      · have HNO := hideIt (allB_no hlt ok1)
        go_wp2_with fail
        go_ret
        exact ⟨by rw [HNO.out]; rfl, HB1.out⟩
      · have HA1 : Hid (∀ j, j < k + 1 → okB (L j) = true) := by
          intro j hj
          rcases Nat.lt_or_ge j k with e | e
          · exact HA.out j e
          · obtain rfl : j = k := by omega
            exact ok1
        go_wp2_with fail
        go_roundw
        case rel => exact ⟨k + 1, by omega, by go_num, HA1.out, HB1.out⟩
        case measure => simp [intOf]; omega
    · obtain rfl : k = m := by omega
      have HYES := hideIt (allB_of HA.out)
      by_cases h80 : k ≤ 80
      · go_wp2_with fail
        go_ret
        exact ⟨by rw [HYES.out]; simp [h80]; omega, hbl⟩
      · go_wp2_with fail
        go_ret
        exact ⟨by rw [HYES.out]; simp [h80]; omega, hbl⟩

def listB (L : Nat → List VN) (m : Nat) : Bool := allB L m && decide (m ≤ 80) && okB (makeNs 5 [] L m)
def listNs (L : Nat → List VN) (m : Nat) : List VN := if listB L m = true then makeNs 5 [] L m else []

theorem near_of {L : Nat → List VN} {m : Nat} (hok : ∀ i, i < m → okB (L i) = true) : ∀ i, i < m → 0 < (L i).length ∧ ∀ j, j < (L i).length → Near (nodeAt (L i) j) := by
  intro i hi
  obtain ⟨p1, _, _, _⟩ := okB_parts (hok i hi)
  refine ⟨by omega, fun j hj => ?_⟩
  have kf := keys_few (hok i hi) j hj
  exact ⟨by omega, by omega, fun q hq => by have := kidsIn_get kf.1 hq; omega⟩

set_option maxRecDepth 100000 in
set_option maxHeartbeats 1600000 in
theorem specListOf_any (B : Nat) (u : Value) (m : Nat) (L : Nat → List VN) (w : World) (hu : RowsAt B w u m L) (hB : B ≤ w.heap.size) (hf : ∀ i, i < m → ∀ j, j < (L i).length → Fits (nodeAt (L i) j)) :
    Calls Try.prog 29 #[u] w fun e w' => ∃ r base KV IV, e = .returned (.tuple #[r, .bool (listB L m)]) ∧ w.heap.size ≤ base ∧ Nest base w' r (listNs L m) KV IV ∧ Below w.heap.size w w' := by
  have HU := hideIt hu
  obtain ⟨_, au, cu, rfl, _⟩ := hu
  have HLB : Hid (listB L m = (allB L m && decide (m ≤ 80) && okB (makeNs 5 [] L m))) := rfl
  have HLN : Hid (listNs L m = if listB L m = true then makeNs 5 [] L m else []) := rfl
  go_enter Try.func29, Try.ntmps29
  go_wp2_with fail
  refine (l1All_any B _ m L _ HU.out hB).mono ?_
  rintro e w1 ⟨rfl, hb1⟩
  have z1 := hb1.size
  cases ok1 : (allB L m && decide (m ≤ 80))
  · go_wp2_with fail
    go_ret2
    have hno : listB L m = false := by rw [HLB.out, ok1]; rfl
    exact ⟨.slice none 0 0, w.heap.size, fun _ => undef, fun _ => undef, by rw [hno]; rfl, Nat.le_refl _, by rw [HLN.out, hno]; exact Nest.nil _ _ _ _, hb1⟩
  · have hall : allB L m = true ∧ m ≤ 80 := by simpa using ok1
    have HOK := hideIt (allB_yes hall.1)
    have hm := hall.2
    have HNI := hideIt (make_nice hm HOK.out hf (kind := 5) (by omega) (by omega) (keys := []) (by simp) (fun i hi => absurd hi (by simp)))
    have HLE := hideIt (catNs_le HOK.out m (Nat.le_refl _))
    clear hall
    go_wp2_with fail
    refine (l1Make_any B 5 _ _ [] m L w1 ⟨by simp, fun i hi => absurd hi (by simp), none, 0, rfl, fun h => absurd h (by simp)⟩ (HU.out.below (hb1.mono hB)) (by omega) (by omega) (by simp) (by have := HLE.out; omega) (near_of HOK.out)).mono ?_
    rintro e w2 ⟨r, KV, IV, rfl, hn2, hb2⟩
    have HN2 := hideIt hn2
    obtain ⟨ar, cr, er⟩ := own_slice hn2.row
    obtain ⟨N, hN⟩ : ∃ N, (makeNs 5 [] L m).length = N := ⟨_, rfl⟩
    rw [hN] at er
    subst er
    have z2 := hb2.size
    have HB2 := hideIt (hb1.trans (hb2.mono z1))
    clear hn2 hb2 hN
    go_wp2_with fail
    refine (specOk_any w2.heap.size _ (makeNs 5 [] L m) _ (HN2.out.nodes (by have := HNI.out.1; omega) (fun i hi => (HNI.out.2 i hi).1)) (Nat.le_refl _)).mono ?_
    rintro e w3 ⟨rfl, hb3⟩
    have HN3 := hideIt (HN2.out.below hb3)
    have HB3 := hideIt (HB2.out.trans (hb3.mono (by omega)))
    clear hb3
    cases ok2 : okB (makeNs 5 [] L m)
    · go_wp2_with fail
      go_ret2
      have hno : listB L m = false := by rw [HLB.out, ok2]; simp
      exact ⟨.slice none 0 0, w.heap.size, fun _ => undef, fun _ => undef, by rw [hno]; rfl, Nat.le_refl _, by rw [HLN.out, hno]; exact Nest.nil _ _ _ _, HB3.out⟩
    · go_wp2_with fail
      go_ret2
      have hyes : listB L m = true := by rw [HLB.out, ok1, ok2]; rfl
      exact ⟨.slice ar N cr, w1.heap.size, KV, IV, by rw [hyes]; rfl, z1, by rw [HLN.out, hyes]; exact HN3.out, HB3.out⟩
end Go.Proofs.Ytpfnkpkcjefelaa

/-
  A part of a right value is right. Plain mathematics.
-/
namespace Go.Proofs.Ytpfnkpkcjefelaa
open Go.RowKit
set_option linter.unusedSimpArgs false
set_option linter.unusedVariables false

theorem fold_cover {K : Nat → List Int} : ∀ (l : List Int) (b h : Nat) (q : Nat × Nat), l.foldl (stepKid (tr K)) (some (b, h)) = some q → h ≤ q.2 ∧ q.1 ≤ b ∧ ∀ m, q.1 ≤ m → m < b → ∃ k p, tr K k = some p ∧ p.1 ≤ m ∧ m ≤ k ∧ q.1 ≤ p.1 ∧ p.2 ≤ q.2 ∧ k < b := by
  intro l
  induction l with
  | nil => intro b h q e; simp at e; subst e; exact ⟨Nat.le_refl _, Nat.le_refl _, fun m h1 h2 => absurd h1 (by simp only; omega)⟩
  | cons k l ih =>
    intro b h q e
    obtain ⟨p, h1, h2, h3, h4⟩ := fold_cons_some e
    have hp := tr_le h3
    obtain ⟨i1, i2, i3⟩ := ih _ _ _ h4
    refine ⟨by omega, by omega, fun m hm1 hm2 => ?_⟩
    by_cases c : m < p.1
    · obtain ⟨k', p', a1, a2, a3, a4, a5, a6⟩ := i3 m hm1 c
      exact ⟨k', p', a1, a2, a3, a4, a5, by omega⟩
    · exact ⟨b - 1, p, h3, by omega, by omega, i2, by omega, by omega⟩

theorem tr_fold {K : Nat → List Int} {n : Nat} {p : Nat × Nat} (h : tr K n = some p) : ∃ q, (K n).reverse.foldl (stepKid (tr K)) (some (n, 0)) = some q ∧ p = (q.1, q.2 + 1) := by
  rw [tr_eq] at h
  cases e : (K n).reverse.foldl (stepKid (tr K)) (some (n, 0)) with
  | none => simp [e] at h
  | some q => simp [e] at h; exact ⟨q, rfl, h.symm⟩

/-- Below a node: no tree begins ahead of its first one, none is higher. -/
theorem tr_sub {K : Nat → List Int} : ∀ (N n : Nat) (p : Nat × Nat), n < N → tr K n = some p → ∀ m, p.1 ≤ m → m ≤ n → ∃ r, tr K m = some r ∧ p.1 ≤ r.1 ∧ r.2 ≤ p.2 := by
  intro N
  induction N with
  | zero => intro n p h; omega
  | succ N ih =>
    intro n p hN h m h1 h2
    by_cases e : m = n
    · subst e; exact ⟨p, h, Nat.le_refl _, Nat.le_refl _⟩
    · obtain ⟨q, hq, rfl⟩ := tr_fold h
      obtain ⟨_, _, hc⟩ := fold_cover _ _ _ _ hq
      obtain ⟨k, r, a1, a2, a3, a4, a5, a6⟩ := hc m h1 (by omega)
      obtain ⟨r', b1, b2, b3⟩ := ih k r (by omega) a1 m a2 a3
      exact ⟨r', b1, by simp only at *; omega, by simp only at *; omega⟩

theorem fold_shift {T T' : Nat → Option (Nat × Nat)} {a N : Nat} (hT : ∀ m p, T m = some p → p.1 ≤ m) (he : ∀ m p, a ≤ m → m < N → T m = some p → a ≤ p.1 → T' (m - a) = some (p.1 - a, p.2)) : ∀ (l : List Int) (b h : Nat) (q : Nat × Nat), b ≤ N → l.foldl (stepKid T) (some (b, h)) = some q → a ≤ q.1 → (l.map (· + -(a : Int))).foldl (stepKid T') (some (b - a, h)) = some (q.1 - a, q.2) := by
  intro l
  induction l with
  | nil => intro b h q _ e _; simp at e; subst e; rfl
  | cons k l ih =>
    intro b h q hb e hq
    obtain ⟨p, h1, h2, h3, h4⟩ := fold_cons_some e
    have hp := hT _ _ h3
    have hl := fold_le hT _ _ _ _ h4
    have ht := he (b - 1) p (by omega) (by omega) h3 (by omega)
    rw [List.map_cons, List.foldl_cons]
    have hs : stepKid T' (some (b - a, h)) (k + -(a : Int)) = some (p.1 - a, max h p.2) := by
      simp only [stepKid]
      rw [if_pos ⟨by omega, by omega⟩, show b - a - 1 = b - 1 - a by omega, ht]
      rfl
    rw [hs]
    exact ih _ _ _ (by omega) h4 hq

theorem run_nodeAt {vs : List VN} {d : Int} {a n i : Nat} (h : i < n) : nodeAt (run vs d a n) i = shiftN d (nodeAt vs (a + i)) := by
  unfold run
  unfold nodeAt
  simp [h]

theorem nodeB_shift (d : Int) (x : VN) : nodeB (shiftN d x) = nodeB x := by
  unfold nodeB unnamedB namedB shiftN
  simp

theorem tr_shift {vs : List VN} {q a h : Nat} (ht : tr (kidsOf vs) q = some (a, h)) : ∀ (N i : Nat), i < N → a + i ≤ q → ∀ p, tr (kidsOf vs) (a + i) = some p → tr (kidsOf (run vs (-(a : Int)) a (q + 1 - a))) i = some (p.1 - a, p.2) := by
  intro N
  induction N with
  | zero => intro i h; omega
  | succ N ih =>
    intro i hN hi p hp
    have hap := tr_le ht
    simp only at hap
    obtain ⟨r, hr, h1, _⟩ := tr_sub _ _ _ (Nat.lt_succ_self _) ht (a + i) (by simp only; omega) hi
    rw [hp] at hr
    simp only [Option.some.injEq] at hr
    subst hr
    obtain ⟨w, hw, rfl⟩ := tr_fold hp
    have hk : kidsOf (run vs (-(a : Int)) a (q + 1 - a)) i = (kidsOf vs (a + i)).map (· + -(a : Int)) := by
      unfold kidsOf
      rw [run_nodeAt (by omega)]
      rfl
    rw [tr_eq, hk, ← List.map_reverse]
    have := fold_shift (T := tr (kidsOf vs)) (T' := tr (kidsOf (run vs (-(a : Int)) a (q + 1 - a)))) (a := a) (N := a + i) (fun m p h => tr_le h)
      (fun m p h1 h2 h3 h4 => by
        have := ih (m - a) (by omega) (by omega) p (by rw [show a + (m - a) = m by omega]; exact h3)
        exact this) _ _ _ _ (Nat.le_refl _) hw h1
    rw [show a + i - a = i by omega] at this
    rw [this]
    rfl

theorem part_okB {vs : List VN} (hok : okB vs = true) {m : Nat} (hm : m < vs.length) : okB (partOf vs m) = true := by
  obtain ⟨p1, p2, p3, p4⟩ := okB_parts hok
  obtain ⟨⟨a0, h0⟩, htr⟩ := p3 m hm
  have e : partOf vs m = run vs (-(a0 : Int)) a0 (m + 1 - a0) := by rw [partOf, htr]; simp [trF]
  have ha := tr_le htr
  simp only at ha
  have hroot : ∃ h, tr (kidsOf vs) (vs.length - 1) = some (0, h) ∧ h ≤ 8 := by
    unfold okB rootB at hok
    simp only [Bool.and_eq_true] at hok
    have h := hok.2
    cases e : tr (kidsOf vs) (vs.length - 1) with
    | none => simp [e] at h
    | some p => obtain ⟨a, b⟩ := p; simp [e] at h; obtain ⟨rfl, h8⟩ := h; exact ⟨b, rfl, h8⟩
  obtain ⟨hr, hr1, hr2⟩ := hroot
  obtain ⟨r, hr3, _, hr5⟩ := tr_sub _ _ _ (Nat.lt_succ_self _) hr1 m (Nat.zero_le _) (by omega)
  rw [htr] at hr3
  simp only [Option.some.injEq] at hr3
  subst hr3
  simp only at hr5
  have hlen : (partOf vs m).length = m + 1 - a0 := by rw [e, run_length]
  rw [← okB_eq]
  unfold tabB
  rw [hlen]
  have s1 : sizeB (partOf vs m) = true := by unfold sizeB; rw [hlen]; simp; omega
  have s2 : ((List.range (m + 1 - a0)).all fun i => nodeB (nodeAt (partOf vs m) i)) = true := by
    rw [List.all_eq_true]
    intro i hi
    have hi' := List.mem_range.1 hi
    rw [e, run_nodeAt hi', nodeB_shift]
    exact (p2 (a0 + i) (by omega)).1
  have s3 : ((List.range (m + 1 - a0)).all fun i => (tr (kidsOf (partOf vs m)) i).isSome) = true := by
    rw [List.all_eq_true]
    intro i hi
    have hi' := List.mem_range.1 hi
    obtain ⟨p, hp⟩ := p3 (a0 + i) (by omega)
    rw [e, tr_shift htr (i + 1) i (by omega) (by omega) p hp]
    rfl
  have s4 : rootB (partOf vs m) = true := by
    unfold rootB
    rw [hlen, e, tr_shift htr (m + 1) (m + 1 - a0 - 1) (by omega) (by omega) (a0, h0) (by rw [show a0 + (m + 1 - a0 - 1) = m by omega]; exact htr)]
    simp
    omega
  rw [s1, s2, s3, s4]
  rfl
end Go.Proofs.Ytpfnkpkcjefelaa
