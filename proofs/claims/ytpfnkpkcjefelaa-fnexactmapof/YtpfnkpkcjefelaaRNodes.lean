/-
  impl.valueOf: the value of right nodes.
-/
import Derived.Test.YtpfnkpkcjefelaaVAtK
import Derived.Test.YtpfnkpkcjefelaaImp3
import Derived.Test.YtpfnkpkcjefelaaVAt
import Derived.Test.YtpfnkpkcjefelaaPartOk
import Derived.Test.YtpfnkpkcjefelaaWn6
import Derived.Test.YtpfnkpkcjefelaaTree
namespace Go.Proofs.Ytpfnkpkcjefelaa
open Go.RowKit
set_option linter.unusedSimpArgs false
set_option linter.unusedVariables false

set_option maxRecDepth 100000 in
set_option maxHeartbeats 1600000 in
theorem valueOfK_yes (B : Nat) (v : Value) (vs : List VN) (w : World) (h : NodesAt B w v vs) (hB : B ≤ w.heap.size) (hyes : okB vs = true) :
    Calls Try.prog 51 #[v] w fun e w' => ∃ lo t x, e = .returned (.tuple #[.iface t x, .bool true]) ∧ w.heap.size ≤ lo ∧ lo < w'.heap.size ∧ ValIsK B lo w'.heap.size w' vs vs.length (vs.length - 1) (.iface t x) ∧ Below w.heap.size w w' := by
  have HV := hideIt h
  obtain ⟨_, a, cap, rfl, _⟩ := h
  obtain ⟨⟨hn1, hn2⟩, hok, _, hkn⟩ := okB_parts hyes
  have HOK := hideIt hok
  have HKN := hideIt hkn
  clear hok hkn
  go_enter Try.func51, Try.ntmps51
  go_wp2_with fail
  refine (implOk_any B _ vs _ HV.out hB).mono ?_
  rintro e w1 ⟨rfl, hb1⟩
  have z1 := hb1.size
  go_wp2_with fail
  refine (valuesAtK_any B _ vs _ (HV.out.below (hb1.mono hB)) (by omega) hn1 hn2 HOK.out HKN.out).mono ?_
  rintro e w2 ⟨VV, rfl, hrow, hvals, hb2⟩
  have z2 := hb2.size
  obtain ⟨t, x, hx⟩ := (hvals (vs.length - 1) (by omega)).iface
  have hc : w2.cell? ⟨w1.heap.size, vs.length - 1, none⟩ = some (.iface t x) := by rw [hrow.cell (by omega), hx]
  have hlt := hrow.lt
  have hval := hvals (vs.length - 1) (by omega)
  rw [hx] at hval
  have HVL := hideIt hval
  have p0 : ((vs.length : Int) - 1).toNat = vs.length - 1 := by omega
  clear hrow hvals hx hval
  go_wp2_with fail
  go_ret2
  exact ⟨w1.heap.size, t, x, rfl, by omega, hlt, ValIsK.more (by omega) HVL.out, hb1.trans (hb2.mono z1)⟩
end Go.Proofs.Ytpfnkpkcjefelaa

/-
  impl.valueOf: the value of right nodes.
-/
namespace Go.Proofs.Ytpfnkpkcjefelaa
open Go.RowKit
set_option linter.unusedSimpArgs false
set_option linter.unusedVariables false

set_option maxRecDepth 100000 in
set_option maxHeartbeats 1600000 in
theorem valueOf_no (B : Nat) (v : Value) (vs : List VN) (w : World) (h : NodesAt B w v vs) (hB : B ≤ w.heap.size) (hno : okB vs = false) :
    Calls Try.prog 51 #[v] w fun e w' => e = .returned (.tuple #[.nilIface, .bool false]) ∧ Below w.heap.size w w' := by
  have HV := hideIt h
  obtain ⟨_, a, cap, rfl, _⟩ := h
  go_enter Try.func51, Try.ntmps51
  go_wp2_with fail
  refine (implOk_any B _ vs _ HV.out hB).mono ?_
  rintro e w1 ⟨rfl, hb1⟩
  go_wp2_with fail
  go_ret2
  exact ⟨rfl, hb1⟩

set_option maxRecDepth 100000 in
set_option maxHeartbeats 1600000 in
theorem valueOf_yes (B : Nat) (v : Value) (vs : List VN) (w : World) (h : NodesAt B w v vs) (hB : B ≤ w.heap.size) (hyes : okB vs = true) :
    Calls Try.prog 51 #[v] w fun e w' => ∃ lo t x, e = .returned (.tuple #[.iface t x, .bool true]) ∧ w.heap.size ≤ lo ∧ lo < w'.heap.size ∧ ValIs lo w'.heap.size w' vs vs.length (vs.length - 1) (.iface t x) ∧ Below w.heap.size w w' := by
  have HV := hideIt h
  obtain ⟨_, a, cap, rfl, _⟩ := h
  obtain ⟨⟨hn1, hn2⟩, hok, _, hkn⟩ := okB_parts hyes
  have HOK := hideIt hok
  have HKN := hideIt hkn
  clear hok hkn
  go_enter Try.func51, Try.ntmps51
  go_wp2_with fail
  refine (implOk_any B _ vs _ HV.out hB).mono ?_
  rintro e w1 ⟨rfl, hb1⟩
  have z1 := hb1.size
  go_wp2_with fail
  refine (valuesAt_any B _ vs _ (HV.out.below (hb1.mono hB)) (by omega) hn1 hn2 HOK.out HKN.out).mono ?_
  rintro e w2 ⟨VV, rfl, hrow, hvals, hb2⟩
  have z2 := hb2.size
  obtain ⟨t, x, hx⟩ := (hvals (vs.length - 1) (by omega)).iface
  have hc : w2.cell? ⟨w1.heap.size, vs.length - 1, none⟩ = some (.iface t x) := by rw [hrow.cell (by omega), hx]
  have hlt := hrow.lt
  have hval := hvals (vs.length - 1) (by omega)
  rw [hx] at hval
  have HVL := hideIt hval
  have p0 : ((vs.length : Int) - 1).toNat = vs.length - 1 := by omega
  clear hrow hvals hx hval
  go_wp2_with fail
  go_ret2
  exact ⟨w1.heap.size, t, x, rfl, by omega, hlt, ValIs.more (by omega) HVL.out, hb1.trans (hb2.mono z1)⟩
end Go.Proofs.Ytpfnkpkcjefelaa

/-
  impl.valuesOf: the values of rows of nodes, in a row that was laid by appending.
-/
namespace Go.Proofs.Ytpfnkpkcjefelaa
open Go.RowKit
set_option linter.unusedSimpArgs false
set_option linter.unusedVariables false

/-- The first k values. Each lies between two blocks; the row lies outside. -/
structure Vals (B base : Nat) (w : World) (v : Value) (k : Nat) (L : Nat → List VN) (V : Nat → Value) (lo hi : Nat → Nat) : Prop where
  row : w.ownsRow base 73 1 v k ((List.range k).map V)
  is : ∀ j, j < k → ValIsK B (lo j) (hi j) w (L j) 80 ((L j).length - 1) (V j)
  ord : ∀ j, j < k → base ≤ lo j ∧ lo j ≤ hi j ∧ hi j ≤ w.heap.size
  far : ∀ j, j < k → ∀ x, v.ownBlock = some x → x ≤ lo j ∨ hi j ≤ x

theorem Vals.start (B base : Nat) (w : World) (L : Nat → List VN) : Vals B base w (.slice none 0 0) 0 L (fun _ => undef) (fun _ => 0) (fun _ => 0) :=
  ⟨World.ownsRow_nil _ _ _ _, fun j hj => absurd hj (by omega), fun j hj => absurd hj (by omega), fun j hj => absurd hj (by omega)⟩

theorem Vals.snoc {B base : Nat} {w w1 w5 : World} {v v' x : Value} {k : Nat} {L : Nat → List VN} {V : Nat → Value} {lo hi : Nat → Nat} {lo1 : Nat} {o : Obj} (h : Vals B base w v k L V lo hi) (hB : B ≤ base) (hbase : base ≤ w.heap.size) (hb : Below w.heap.size w w1) (h1 : w.heap.size ≤ lo1) (h2 : lo1 < w1.heap.size)
    (hv : ValIsK B lo1 w1.heap.size w1 (L k) 80 ((L k).length - 1) x)
    (hown : w5.ownsRow base 73 1 v' (k + 1) ((List.range k).map V ++ [x])) (hg : (w1.alloc o).grownBy w5 v.ownBlock) (hor : v'.ownBlock = v.ownBlock ∨ v'.ownBlock = some (w1.heap.size + 1)) :
    Vals B base w5 v' (k + 1) L (updF V k x) (updF lo k lo1) (updF hi k w1.heap.size) := by
  have hs := hb.size
  have hgs := hg.size
  have hgs2 : w1.heap.size + 1 ≤ w5.heap.size := by simpa using hgs
  have hlt := h.row.lt
  have kp1 : ∀ c, c < w1.heap.size → v.ownBlock ≠ some c → w5.heap[c]? = w1.heap[c]? := fun c h1 h2 =>
    (hg.block c (by simp; omega) (fun e => h2 e.symm)).trans (Below.block ((Below.refl w1.heap.size w1).alloc (Nat.le_refl _) o) c h1)
  have kp : ∀ c, c < w.heap.size → v.ownBlock ≠ some c → w5.heap[c]? = w.heap[c]? := fun c h1 h2 => (kp1 c (by omega) h2).trans (hb.block c h1)
  refine ⟨by rw [range_map_snoc]; exact hown, fun j hj => ?_, fun j hj => ?_, fun j hj y hy => ?_⟩
  · by_cases e : j = k
    · subst e
      rw [updF_same, updF_same, updF_same]
      exact hv.move (fun c hc => kp1 c (by omega) (fun e => by have := hlt c e; omega)) (fun c h3 h4 => kp1 c h4 (fun e => by have := hlt c e; omega)) (Nat.le_refl _)
    · rw [updF_other _ _ e, updF_other _ _ e, updF_other _ _ e]
      have ho := h.ord j (by omega)
      exact (h.is j (by omega)).move (fun c hc => kp c (by omega) (fun e => by have := hlt c e; omega)) (fun c h3 h4 => kp c (by omega) (fun e => by have := h.far j (by omega) c e; omega)) (Nat.le_refl _)
  · by_cases e : j = k
    · subst e
      rw [updF_same, updF_same]
      omega
    · rw [updF_other _ _ e, updF_other _ _ e]
      have ho := h.ord j (by omega)
      omega
  · rcases hor with e2 | e2
    · rw [e2] at hy
      have h3 := hlt y hy
      by_cases e : j = k
      · subst e
        rw [updF_same, updF_same]
        omega
      · rw [updF_other _ _ e, updF_other _ _ e]
        exact h.far j (by omega) y hy
    · rw [e2] at hy
      have h3 : w1.heap.size + 1 = y := by simpa using hy
      by_cases e : j = k
      · subst e
        rw [updF_same, updF_same]
        omega
      · rw [updF_other _ _ e, updF_other _ _ e]
        have ho := h.ord j (by omega)
        omega

theorem Vals.items {B base : Nat} {w : World} {v : Value} {m : Nat} {L : Nat → List VN} {V : Nat → Value} {lo hi : Nat → Nat} (h : Vals B base w v m L V lo hi) (hB : B ≤ base) (hm : m ≤ 80) (hok : ∀ i, i < m → okB (L i) = true) :
    TItems w.heap.size w v (kidsL L m).length (fun j u => TreeAt w.heap.size w 80 (kidT (kidsL L m) j) u) := by
  rw [kidsL_len]
  obtain ⟨a, c, e⟩ := own_slice h.row
  subst e
  refine ⟨by omega, a, c, rfl, fun hp => ?_⟩
  obtain ⟨g, cap, e, _, hlt⟩ := h.row.form hp
  cases e
  refine ⟨g, rfl, hlt, fun j hj => ?_⟩
  obtain ⟨t, x, hx⟩ := (h.is j hj).iface
  have ho := h.ord j hj
  refine ⟨t, x, by rw [h.row.cellAt j (by omega)]; simp [hj, hx], ?_⟩
  show TreeAt w.heap.size w 80 (kidT (kidsL L m) j) (.iface t x)
  rw [kidsL_at L hj, ← hx]
  obtain ⟨p1, p2, _, p4⟩ := okB_parts (hok j hj)
  exact TreeAt.keep (fun _ _ => rfl) ho.2.2 (ValIs.tree ho.2.1 p2 p4 p1.2 (by omega) ((h.is j hj).plain (by omega)))

set_option maxRecDepth 100000 in
set_option maxHeartbeats 3200000 in
theorem valuesOf_any (B : Nat) (u : Value) (m : Nat) (L : Nat → List VN) (w : World) (hu : RowsAt B w u m L) (hB : B ≤ w.heap.size) :
    Calls Try.prog 65 #[u] w fun e w' => ∃ v V lo hi, e = .returned (.tuple #[v, .bool (allB L m && decide (m ≤ 80))]) ∧ ((allB L m && decide (m ≤ 80)) = true → Vals B w.heap.size w' v m L V lo hi) ∧ ((allB L m && decide (m ≤ 80)) = false → v = .slice none 0 0) ∧ Below w.heap.size w w' := by
  obtain ⟨hm, au, cu, rfl, hcu⟩ := hu
  have HCU := hideIt hcu
  clear hcu
  obtain ⟨i0, hi0, hz0, hs0, hy0⟩ := info_parts infoVal
  by_cases h80 : 80 < m
  · have HNO : Hid ((allB L m && decide (m ≤ 80)) = false) := by rw [Hid, decide_eq_false (by omega), Bool.and_false]
    have h80' : (80 : Int) < (m : Int) := by omega
    go_enter Try.func65, Try.ntmps65
    go_wp2_with fail
    go_ret2
    exact ⟨.slice none 0 0, fun _ => undef, fun _ => 0, fun _ => 0, by rw [HNO.out]; rfl, fun h => absurd (HNO.out.symm.trans h) (by decide), fun _ => rfl, Below.refl _ _⟩
  have h80' : ¬ (80 : Int) < (m : Int) := by omega
  have HM : Hid (decide (m ≤ 80) = true) := decide_eq_true (by omega)
  have HV0 := hideIt (Vals.start B w.heap.size w L)
  go_enter Try.func65, Try.ntmps65
  go_wp2_with fail
  go_loopw [4, 14] (fun o i wr => ∃ (k : Nat) (V : Nat → Value) (lo hi : Nat → Nat), k ≤ m ∧ i = .int .i64 k ∧ (∀ j, j < k → okB (L j) = true) ∧ Vals B w.heap.size wr o k L V lo hi ∧ Below w.heap.size w wr) (fun _ i _ => m - (intOf i).toNat)
  case atStart => exact ⟨0, _, _, _, Nat.zero_le _, rfl, fun j hj => absurd hj (by omega), HV0.out, Below.refl _ _⟩
  case round =>
    obtain ⟨k, V, lo, hi, hk, rfl, hall, hvals, hbl⟩ := hrel
    have HA := hideIt hall
    have HV := hideIt hvals
    have zs := hbl.size
    obtain ⟨ao, co, eo⟩ := own_slice hvals.row
    subst eo
    clear hall hvals HV0
    by_cases hlt : k < m
    · obtain ⟨b, rfl, hbB, hcell⟩ := HCU.out (by omega)
      obtain ⟨r, hcr, hnr⟩ := hcell k hlt
      have hcr' := (below_cell hbl (by omega)).trans hcr
      have HN := hideIt (hnr.below (hbl.mono hB))
      obtain ⟨_, ar, cr, rfl, _⟩ := hnr
      clear hcell hcr
      cases ok1 : okB (L k)
      · have HNO : Hid ((allB L m && decide (m ≤ 80)) = false) := by rw [Hid, allB_no hlt ok1]; rfl
        go_wp2_with fail
        refine (valueOf_no B _ (L k) _ HN.out (by omega) ok1).mono ?_
        rintro e w1 ⟨rfl, hb1⟩
        have HB1 := hideIt (hbl.trans (hb1.mono zs))
        clear hb1
        go_wp2_with fail
        go_ret2
        exact ⟨.slice none 0 0, fun _ => undef, fun _ => 0, fun _ => 0, by rw [HNO.out]; rfl, fun h => absurd (HNO.out.symm.trans h) (by decide), fun _ => rfl, HB1.out⟩
      · have HA1 : Hid (∀ j, j < k + 1 → okB (L j) = true) := by
          intro j hj
          rcases Nat.lt_or_ge j k with e | e
          · exact HA.out j e
          · obtain rfl : j = k := by omega
            exact ok1
        have h80k := (okB_parts ok1).1
        go_wp2_with fail
        refine (valueOfK_yes B _ (L k) _ HN.out (by omega) ok1).mono ?_
        rintro e w1 ⟨lo1, t, x, rfl, hl1, hl2, hv1, hb1⟩
        have z1 := hb1.size
        have HV1 := hideIt (ValIsK.more (g := 80) (by omega) hv1)
        have HB1 := hideIt hb1
        have HROW := hideIt (own_below HV.out.row hb1 (fun x hx => (HV.out.row.lt x hx).2))
        clear hv1 hb1
        go_wp2_with (at_builtin; refine wpList_append_own_at _ rfl _ _ 85 rfl w.heap.size 73 i0 .nilIface 1 16 Try.underlying85 hi0 hz0 hs0 hy0 rfl (by decide) _ _ _ rfl (HROW.out.alloc _) ⟨w1.heap.size, 0, none⟩ 1 1 [.iface t x] rfl rfl ?c1 ?c2 ?c3 ?c4 ?c5 ?_)
        case c1 => exact cell_one_new _ _ _
        case c2 => intro u hu; simp at hu; subst hu; rfl
        case c3 => unfold maxLen; omega
        case c4 => omega
        case c5 => simp; omega
        intro v' w5 hown hgrow _ hor
        have HV5 := hideIt (HV.out.snoc hB zs HB1.out hl1 hl2 HV1.out hown hgrow hor)
        have HB5 : Hid (Below w.heap.size w w5) := ((hbl.trans (HB1.out.mono zs)).alloc (by omega) _).grown hgrow (by simp; omega) (fun x hx => (HROW.out.lt x hx).1)
        clear hown hgrow hor
        go_wp2_with fail
        go_roundw
        case rel => exact ⟨k + 1, _, _, _, by omega, by go_num, HA1.out, HV5.out, HB5.out⟩
        case measure => simp [intOf]; omega
    · obtain rfl : k = m := by omega
      have HYES : Hid ((allB L k && decide (k ≤ 80)) = true) := by rw [Hid, allB_of HA.out, HM.out]; rfl
      go_wp2_with fail
      go_ret2
      exact ⟨.slice ao k co, V, lo, hi, by rw [HYES.out]; rfl, fun _ => HV.out, fun h => absurd (HYES.out.symm.trans h) (by decide), hbl⟩
end Go.Proofs.Ytpfnkpkcjefelaa

/-
  impl.rightNodes: the nodes of a value, if these are right.
-/
namespace Go.Proofs.Ytpfnkpkcjefelaa
open Go.RowKit
set_option linter.unusedSimpArgs false
set_option linter.unusedVariables false

theorem TreeAt.iface {B : Nat} {w : World} {f : Nat} {t : VT} {v : Value} (h : TreeAt B w f t v) : ∃ ty x, v = .iface ty x := by
  cases f with
  | zero => exact h.elim
  | succ f =>
    obtain ⟨kind, n, s, keys, kids⟩ := t
    rcases h with ⟨_, _, _, _, _, rfl⟩ | ⟨_, _, _, _, rfl⟩ | ⟨_, _, _, _, rfl⟩ | ⟨_, _, _, _, rfl⟩ | ⟨_, _, _, _, it, rfl, _⟩ | ⟨_, _, _, ks, it, rfl, _⟩ <;> exact ⟨_, _, rfl⟩

def rightNs (ns : List VN) : List VN := if okB ns = true then ns else []

set_option maxRecDepth 100000 in
set_option maxHeartbeats 3200000 in
theorem rightNodes_any (f : Nat) (t : VT) (x : Value) (ns : List VN) (w : World) (ht : TreeAt w.heap.size w f t x) (hns : layT f t 0 = ns) (hn : ns.length ≤ 100000) (hf : ∀ i, i < ns.length → Fits (nodeAt ns i)) :
    Calls Try.prog 66 #[x] w fun e w' => ∃ r base KV IV, e = .returned (.tuple #[r, .bool (okB ns)]) ∧ w.heap.size ≤ base ∧ base ≤ w'.heap.size ∧ Nest base w' r (rightNs ns) KV IV ∧ Below w.heap.size w w' := by
  obtain ⟨ty, xv, rfl⟩ := ht.iface
  have HT := hideIt ht
  have HNS := hideIt hns
  have HF := hideIt hf
  have HRN : Hid (rightNs ns = if okB ns = true then ns else []) := rfl
  clear ht hns hf
  go_enter Try.func66, Try.ntmps66
  go_wp2_with fail
  refine (withNodes_any w.heap.size w.heap.size (Nat.le_refl _) f t (.iface ty xv) (.slice none 0 0) [] (fun _ => undef) (fun _ => undef) w (Nest.nil _ _ _ _) HT.out (Nat.le_refl _) (by rw [List.length_nil, HNS.out]; omega)).mono ?_
  rintro e w1 ⟨r, K, I, rfl, hl1⟩
  have hn1 : Nest w.heap.size w1 r ns K I := by have := hl1.1; rw [List.nil_append, List.length_nil, HNS.out] at this; exact this
  have hb1 : Below w.heap.size w w1 := (Below.refl _ _).grown hl1.2.1 (Nat.le_refl _) (fun k hk => by simp [Value.ownBlock] at hk)
  have z1 := hb1.size
  have HN1 := hideIt hn1
  have HB1 := hideIt hb1
  obtain ⟨ar, cr, er⟩ := own_slice hn1.row
  obtain ⟨N, hN⟩ : ∃ N, ns.length = N := ⟨_, rfl⟩
  rw [hN] at er
  subst er
  clear hn1 hb1 hN hl1
  go_wp2_with fail
  refine (implOk_any w1.heap.size _ ns _ (HN1.out.nodes (by omega) HF.out) (Nat.le_refl _)).mono ?_
  rintro e w2 ⟨rfl, hb2⟩
  have z2 := hb2.size
  have HN2 := hideIt (HN1.out.below hb2)
  have HB2 := hideIt (HB1.out.trans (hb2.mono z1))
  clear hb2
  cases ok1 : okB ns
  · go_wp2_with fail
    go_ret2
    exact ⟨.slice none 0 0, w.heap.size, fun _ => undef, fun _ => undef, by rw [ok1]; rfl, Nat.le_refl _, by omega, by rw [HRN.out, ok1]; exact Nest.nil _ _ _ _, HB2.out⟩
  · go_wp2_with fail
    go_ret2
    exact ⟨.slice ar N cr, w.heap.size, K, I, by rw [ok1]; rfl, Nat.le_refl _, by omega, by rw [HRN.out, ok1]; exact HN2.out, HB2.out⟩
end Go.Proofs.Ytpfnkpkcjefelaa
