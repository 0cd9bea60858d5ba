/-
  impl.valueOf: the value of right nodes.
-/
import Derived.Test.YtgnaakdgffkghaaVAtK
import Derived.Test.YtgnaakdgffkghaaImp3
import Derived.Test.YtgnaakdgffkghaaSParts
import Derived.Test.YtgnaakdgffkghaaPartOk
import Derived.Test.YtgnaakdgffkghaaStbP
import Derived.Test.YtgnaakdgffkghaaMarkM
import Derived.Test.YtgnaakdgffkghaaProg
import Derived.BigQuiet
import Derived.BigRegion
namespace Go.Proofs.Ytgnaakdgffkghaa
open Go.RowKit
set_option linter.unusedSimpArgs false
set_option linter.unusedVariables false

set_option maxRecDepth 100000 in
set_option maxHeartbeats 1600000 in
theorem valueOfK_yes (B : Nat) (v : Value) (vs : List VN) (w : World) (h : NodesAt B w v vs) (hB : B ≤ w.heap.size) (hyes : okB vs = true) :
    Calls Try.prog 29 #[v] w fun e w' => ∃ lo t x, e = .returned (.tuple #[.iface t x, .bool true]) ∧ w.heap.size ≤ lo ∧ lo < w'.heap.size ∧ ValIsK B lo w'.heap.size w' vs vs.length (vs.length - 1) (.iface t x) ∧ Below w.heap.size w w' := by
  have HV := hideIt h
  obtain ⟨_, a, cap, rfl, _⟩ := h
  obtain ⟨⟨hn1, hn2⟩, hok, _, hkn⟩ := okB_parts hyes
  have HOK := hideIt hok
  have HKN := hideIt hkn
  clear hok hkn
  go_enter Try.func29, Try.ntmps29
  go_wp2_with fail
  refine (implOk_any B _ vs _ HV.out hB).mono ?_
  rintro e w1 ⟨rfl, hb1⟩
  have z1 := hb1.size
  go_wp2_with fail
  refine (valuesAtK_any B _ vs _ (HV.out.below (hb1.mono hB)) (by omega) hn1 hn2 HOK.out HKN.out).mono ?_
  rintro e w2 ⟨VV, rfl, hrow, hvals, hb2⟩
  have z2 := hb2.size
  obtain ⟨t, x, hx⟩ := (hvals (vs.length - 1) (by omega)).iface
  have hc : w2.cell? ⟨w1.heap.size, vs.length - 1, none⟩ = some (.iface t x) := by rw [hrow.cell (by omega), hx]
  have hlt := hrow.lt
  have hval := hvals (vs.length - 1) (by omega)
  rw [hx] at hval
  have HVL := hideIt hval
  have p0 : ((vs.length : Int) - 1).toNat = vs.length - 1 := by omega
  clear hrow hvals hx hval
  go_wp2_with fail
  go_ret2
  exact ⟨w1.heap.size, t, x, rfl, by omega, hlt, ValIsK.more (by omega) HVL.out, hb1.trans (hb2.mono z1)⟩
end Go.Proofs.Ytgnaakdgffkghaa

/-
  impl.valuesOf: the values of rows of nodes, in a row that was laid by appending.
-/
namespace Go.Proofs.Ytgnaakdgffkghaa
open Go.RowKit
set_option linter.unusedSimpArgs false
set_option linter.unusedVariables false

/-- The first k values. Each lies between two blocks; the row lies outside. -/
structure Vals (B base : Nat) (w : World) (v : Value) (k : Nat) (L : Nat → List VN) (V : Nat → Value) (lo hi : Nat → Nat) : Prop where
  row : w.ownsRow base 53 1 v k ((List.range k).map V)
  is : ∀ j, j < k → ValIsK B (lo j) (hi j) w (L j) 80 ((L j).length - 1) (V j)
  ord : ∀ j, j < k → base ≤ lo j ∧ lo j ≤ hi j ∧ hi j ≤ w.heap.size
  far : ∀ j, j < k → ∀ x, v.ownBlock = some x → x ≤ lo j ∨ hi j ≤ x

theorem Vals.start (B base : Nat) (w : World) (L : Nat → List VN) : Vals B base w (.slice none 0 0) 0 L (fun _ => undef) (fun _ => 0) (fun _ => 0) :=
  ⟨World.ownsRow_nil _ _ _ _, fun j hj => absurd hj (by omega), fun j hj => absurd hj (by omega), fun j hj => absurd hj (by omega)⟩

theorem Vals.snoc {B base : Nat} {w w1 w5 : World} {v v' x : Value} {k : Nat} {L : Nat → List VN} {V : Nat → Value} {lo hi : Nat → Nat} {lo1 : Nat} {o : Obj} (h : Vals B base w v k L V lo hi) (hB : B ≤ base) (hbase : base ≤ w.heap.size) (hb : Below w.heap.size w w1) (h1 : w.heap.size ≤ lo1) (h2 : lo1 < w1.heap.size)
    (hv : ValIsK B lo1 w1.heap.size w1 (L k) 80 ((L k).length - 1) x)
    (hown : w5.ownsRow base 53 1 v' (k + 1) ((List.range k).map V ++ [x])) (hg : (w1.alloc o).grownBy w5 v.ownBlock) (hor : v'.ownBlock = v.ownBlock ∨ v'.ownBlock = some (w1.heap.size + 1)) :
    Vals B base w5 v' (k + 1) L (updF V k x) (updF lo k lo1) (updF hi k w1.heap.size) := by
  have hs := hb.size
  have hgs := hg.size
  have hgs2 : w1.heap.size + 1 ≤ w5.heap.size := by simpa using hgs
  have hlt := h.row.lt
  have kp1 : ∀ c, c < w1.heap.size → v.ownBlock ≠ some c → w5.heap[c]? = w1.heap[c]? := fun c h1 h2 =>
    (hg.block c (by simp; omega) (fun e => h2 e.symm)).trans (Below.block ((Below.refl w1.heap.size w1).alloc (Nat.le_refl _) o) c h1)
  have kp : ∀ c, c < w.heap.size → v.ownBlock ≠ some c → w5.heap[c]? = w.heap[c]? := fun c h1 h2 => (kp1 c (by omega) h2).trans (hb.block c h1)
  refine ⟨by rw [range_map_snoc]; exact hown, fun j hj => ?_, fun j hj => ?_, fun j hj y hy => ?_⟩
  · by_cases e : j = k
    · subst e
      rw [updF_same, updF_same, updF_same]
      exact hv.move (fun c hc => kp1 c (by omega) (fun e => by have := hlt c e; omega)) (fun c h3 h4 => kp1 c h4 (fun e => by have := hlt c e; omega)) (Nat.le_refl _)
    · rw [updF_other _ _ e, updF_other _ _ e, updF_other _ _ e]
      have ho := h.ord j (by omega)
      exact (h.is j (by omega)).move (fun c hc => kp c (by omega) (fun e => by have := hlt c e; omega)) (fun c h3 h4 => kp c (by omega) (fun e => by have := h.far j (by omega) c e; omega)) (Nat.le_refl _)
  · by_cases e : j = k
    · subst e
      rw [updF_same, updF_same]
      omega
    · rw [updF_other _ _ e, updF_other _ _ e]
      have ho := h.ord j (by omega)
      omega
  · rcases hor with e2 | e2
    · rw [e2] at hy
      have h3 := hlt y hy
      by_cases e : j = k
      · subst e
        rw [updF_same, updF_same]
        omega
      · rw [updF_other _ _ e, updF_other _ _ e]
        exact h.far j (by omega) y hy
    · rw [e2] at hy
      have h3 : w1.heap.size + 1 = y := by simpa using hy
      by_cases e : j = k
      · subst e
        rw [updF_same, updF_same]
        omega
      · rw [updF_other _ _ e, updF_other _ _ e]
        have ho := h.ord j (by omega)
        omega

theorem Vals.items {B base : Nat} {w : World} {v : Value} {m : Nat} {L : Nat → List VN} {V : Nat → Value} {lo hi : Nat → Nat} (h : Vals B base w v m L V lo hi) (hB : B ≤ base) (hm : m ≤ 80) (hok : ∀ i, i < m → okB (L i) = true) :
    TItems w.heap.size w v (kidsL L m).length (fun j u => TreeAt w.heap.size w 80 (kidT (kidsL L m) j) u) := by
  rw [kidsL_len]
  obtain ⟨a, c, e⟩ := own_slice h.row
  subst e
  refine ⟨by omega, a, c, rfl, fun hp => ?_⟩
  obtain ⟨g, cap, e, _, hlt⟩ := h.row.form hp
  cases e
  refine ⟨g, rfl, hlt, fun j hj => ?_⟩
  obtain ⟨t, x, hx⟩ := (h.is j hj).iface
  have ho := h.ord j hj
  refine ⟨t, x, by rw [h.row.cellAt j (by omega)]; simp [hj, hx], ?_⟩
  show TreeAt w.heap.size w 80 (kidT (kidsL L m) j) (.iface t x)
  rw [kidsL_at L hj, ← hx]
  obtain ⟨p1, p2, _, p4⟩ := okB_parts (hok j hj)
  exact TreeAt.keep (fun _ _ => rfl) ho.2.2 (ValIs.tree ho.2.1 p2 p4 p1.2 (by omega) ((h.is j hj).plain (by omega)))

set_option maxRecDepth 100000 in
set_option maxHeartbeats 3200000 in
theorem valuesOf_any (B : Nat) (u : Value) (m : Nat) (L : Nat → List VN) (w : World) (hu : RowsAt B w u m L) (hB : B ≤ w.heap.size) :
    Calls Try.prog 36 #[u] w fun e w' => ∃ v V lo hi, e = .returned (.tuple #[v, .bool (allB L m && decide (m ≤ 80))]) ∧ ((allB L m && decide (m ≤ 80)) = true → Vals B w.heap.size w' v m L V lo hi) ∧ ((allB L m && decide (m ≤ 80)) = false → v = .slice none 0 0) ∧ Below w.heap.size w w' := by
  obtain ⟨hm, au, cu, rfl, hcu⟩ := hu
  have HCU := hideIt hcu
  clear hcu
  obtain ⟨i0, hi0, hz0, hs0, hy0⟩ := info_parts infoVal
  by_cases h80 : 80 < m
  · have HNO : Hid ((allB L m && decide (m ≤ 80)) = false) := by rw [Hid, decide_eq_false (by omega), Bool.and_false]
    have h80' : (80 : Int) < (m : Int) := by omega
    go_enter Try.func36, Try.ntmps36
    go_wp2_with fail
    go_ret2
    exact ⟨.slice none 0 0, fun _ => undef, fun _ => 0, fun _ => 0, by rw [HNO.out]; rfl, fun h => absurd (HNO.out.symm.trans h) (by decide), fun _ => rfl, Below.refl _ _⟩
  have h80' : ¬ (80 : Int) < (m : Int) := by omega
  have HM : Hid (decide (m ≤ 80) = true) := decide_eq_true (by omega)
  have HV0 := hideIt (Vals.start B w.heap.size w L)
  go_enter Try.func36, Try.ntmps36
  go_wp2_with fail
  go_loopw [4, 14] (fun o i wr => ∃ (k : Nat) (V : Nat → Value) (lo hi : Nat → Nat), k ≤ m ∧ i = .int .i64 k ∧ (∀ j, j < k → okB (L j) = true) ∧ Vals B w.heap.size wr o k L V lo hi ∧ Below w.heap.size w wr) (fun _ i _ => m - (intOf i).toNat)
  case atStart => exact ⟨0, _, _, _, Nat.zero_le _, rfl, fun j hj => absurd hj (by omega), HV0.out, Below.refl _ _⟩
  case round =>
    obtain ⟨k, V, lo, hi, hk, rfl, hall, hvals, hbl⟩ := hrel
    have HA := hideIt hall
    have HV := hideIt hvals
    have zs := hbl.size
    obtain ⟨ao, co, eo⟩ := own_slice hvals.row
    subst eo
    clear hall hvals HV0
    by_cases hlt : k < m
    · obtain ⟨b, rfl, hbB, hcell⟩ := HCU.out (by omega)
      obtain ⟨r, hcr, hnr⟩ := hcell k hlt
      have hcr' := (below_cell hbl (by omega)).trans hcr
      have HN := hideIt (hnr.below (hbl.mono hB))
      obtain ⟨_, ar, cr, rfl, _⟩ := hnr
      clear hcell hcr
      cases ok1 : okB (L k)
      · have HNO : Hid ((allB L m && decide (m ≤ 80)) = false) := by rw [Hid, allB_no hlt ok1]; rfl
        go_wp2_with fail
        refine (valueOf_no B _ (L k) _ HN.out (by omega) ok1).mono ?_
        rintro e w1 ⟨rfl, hb1⟩
        have HB1 := hideIt (hbl.trans (hb1.mono zs))
        clear hb1
        go_wp2_with fail
        go_ret2
        exact ⟨.slice none 0 0, fun _ => undef, fun _ => 0, fun _ => 0, by rw [HNO.out]; rfl, fun h => absurd (HNO.out.symm.trans h) (by decide), fun _ => rfl, HB1.out⟩
      · have HA1 : Hid (∀ j, j < k + 1 → okB (L j) = true) := by
          intro j hj
          rcases Nat.lt_or_ge j k with e | e
          · exact HA.out j e
          · obtain rfl : j = k := by omega
            exact ok1
        have h80k := (okB_parts ok1).1
        go_wp2_with fail
        refine (valueOfK_yes B _ (L k) _ HN.out (by omega) ok1).mono ?_
        rintro e w1 ⟨lo1, t, x, rfl, hl1, hl2, hv1, hb1⟩
        have z1 := hb1.size
        have HV1 := hideIt (ValIsK.more (g := 80) (by omega) hv1)
        have HB1 := hideIt hb1
        have HROW := hideIt (own_below HV.out.row hb1 (fun x hx => (HV.out.row.lt x hx).2))
        clear hv1 hb1
        go_wp2_with (at_builtin; refine wpList_append_own_at _ rfl _ _ 54 rfl w.heap.size 53 i0 .nilIface 1 16 Try.underlying54 hi0 hz0 hs0 hy0 rfl (by decide) _ _ _ rfl (HROW.out.alloc _) ⟨w1.heap.size, 0, none⟩ 1 1 [.iface t x] rfl rfl ?c1 ?c2 ?c3 ?c4 ?c5 ?_)
        case c1 => exact cell_one_new _ _ _
        case c2 => intro u hu; simp at hu; subst hu; rfl
        case c3 => unfold maxLen; omega
        case c4 => omega
        case c5 => simp; omega
        intro v' w5 hown hgrow _ hor
        have HV5 := hideIt (HV.out.snoc hB zs HB1.out hl1 hl2 HV1.out hown hgrow hor)
        have HB5 : Hid (Below w.heap.size w w5) := ((hbl.trans (HB1.out.mono zs)).alloc (by omega) _).grown hgrow (by simp; omega) (fun x hx => (HROW.out.lt x hx).1)
        clear hown hgrow hor
        go_wp2_with fail
        go_roundw
        case rel => exact ⟨k + 1, _, _, _, by omega, by go_num, HA1.out, HV5.out, HB5.out⟩
        case measure => simp [intOf]; omega
    · obtain rfl : k = m := by omega
      have HYES : Hid ((allB L k && decide (k ≤ 80)) = true) := by rw [Hid, allB_of HA.out, HM.out]; rfl
      go_wp2_with fail
      go_ret2
      exact ⟨.slice ao k co, V, lo, hi, by rw [HYES.out]; rfl, fun _ => HV.out, fun h => absurd (HYES.out.symm.trans h) (by decide), hbl⟩
end Go.Proofs.Ytgnaakdgffkghaa

/-
  slices' swapRange and rotate at rows of numbers: what stands where behind them.
-/
namespace Go.Proofs.Ytgnaakdgffkghaa
open Go.RowKit
set_option linter.unusedSimpArgs false
set_option linter.unusedVariables false

def nums (f : Nat → Int) (j : Nat) : Value := .int .i64 (f j)

theorem nums_set2 {w : World} {g t N : Nat} {f : Nat → Int} (h : w.rowIs g t N (nums f)) (x y : Nat) (u v : Int) : ((w.setCell ⟨g, x, none⟩ (.int .i64 u)).setCell ⟨g, y, none⟩ (.int .i64 v)).rowIs g t N (nums (fun p => if p = y then v else if p = x then u else f p)) := by
  refine ((h.set x _).set y _).congr fun p _ => ?_
  unfold nums
  by_cases e1 : p = y
  · simp [e1]
  · by_cases e2 : p = x
    · subst e2; simp [e1]
    · simp [e1, e2]

/-- Nothing but block g has turned; there may be more blocks. -/
def Sw (g : Nat) (w w' : World) : Prop := w'.os = w.os ∧ w'.tape = w.tape ∧ w'.output = w.output ∧ Only (· = g) w w'

theorem Sw.refl (g : Nat) (w : World) : Sw g w w := ⟨rfl, rfl, rfl, Only.refl _ _⟩
theorem Sw.trans {g : Nat} {a b c : World} (h : Sw g a b) (k : Sw g b c) : Sw g a c := ⟨k.1.trans h.1, k.2.1.trans h.2.1, k.2.2.1.trans h.2.2.1, h.2.2.2.trans k.2.2.2⟩
theorem Sw.set {g : Nat} {a b : World} (h : Sw g a b) (o : Nat) (v : Value) : Sw g a (b.setCell ⟨g, o, none⟩ v) := by
  have hb : Below g b (b.setCell ⟨g, o, none⟩ v) := (Below.refl _ _).setCell (p := ⟨g, o, none⟩) (Nat.le_refl _) v
  exact h.trans ⟨hb.os, hb.tape, hb.output, Only.set (P := (· = g)) b rfl v⟩
theorem Sw.drew {g : Nat} {a b : World} (h : Sw g a b) : Sw g a b.drew := ⟨h.1, h.2.1, h.2.2.1, h.2.2.2⟩
theorem Sw.drewN {g : Nat} {a b : World} (h : Sw g a b) (n : Nat) : Sw g a (b.drewN n) := ⟨h.1, h.2.1, h.2.2.1, h.2.2.2⟩
theorem Sw.below {g B : Nat} {a b : World} (h : Sw g a b) (hB : B ≤ g) (hs : B ≤ a.heap.size) : Below B a b := ⟨h.1, h.2.1, h.2.2.1, h.2.2.2.1, fun k hk => h.2.2.2.2 k (by omega) (by omega)⟩

set_option maxRecDepth 100000 in
set_option maxHeartbeats 4000000 in
theorem swapRange_any (g N cap : Nat) (f : Nat → Int) (a b n : Nat) (cf : Value) (w : World) (h : w.rowIs g 3 N (nums f)) (ha : a + n ≤ N) (hb : b + n ≤ N) (hd : a + n ≤ b ∨ b + n ≤ a) (hN : N ≤ 1099511627776) :
    Calls Try.prog 82 #[.slice (some ⟨g, 0, none⟩) N cap, .int .i64 a, .int .i64 b, .int .i64 n, cf] w fun e w' => e = .returned (.tuple #[]) ∧ w'.rowIs g 3 N (nums (swp a b n f)) ∧ Sw g w w' := by
  have HR := hideIt h
  clear h
  go_enter Try.func82, Try.ntmps82
  go_wp2_with fail
  go_loopw [10] (fun i wr => ∃ k : Nat, k ≤ n ∧ i = .int .i64 k ∧ wr.rowIs g 3 N (nums (swp a b k f)) ∧ Sw g w wr) (fun i _ => n - (intOf i).toNat)
  case atStart => exact ⟨0, Nat.zero_le _, rfl, HR.out.congr fun j _ => by unfold nums; rw [swp_zero], Sw.refl _ _⟩
  case round =>
    obtain ⟨k, hk, rfl, hrow, honly⟩ := hrel
    by_cases hlt : k < n
    · have c1 := hrow.cell (i := a + k) (by omega)
      have c2 := hrow.cell (i := b + k) (by omega)
      have f1 := hrow.frozen (a + k)
      have f2 := hrow.frozen (b + k)
      have hak : a + k < N := by omega
      have hbk : b + k < N := by omega
      have hakI : (a : Int) + (k : Int) < (N : Int) := by omega
      have hbkI : (b : Int) + (k : Int) < (N : Int) := by omega
      have ta : ((a : Int) + (k : Int)).toNat = a + k := by omega
      have tb : ((b : Int) + (k : Int)).toNat = b + k := by omega
      unfold nums at c1 c2
      have hnab : a + k ≠ b + k := by omega
      have hnba : b + k ≠ a + k := by omega
      have HNEW : Hid (((wr.setCell ⟨g, a + k, none⟩ (.int .i64 (swp a b k f (b + k)))).setCell ⟨g, b + k, none⟩ (.int .i64 (swp a b k f (a + k)))).drew.rowIs g 3 N (nums (swp a b (k + 1) f))) := by
        refine (nums_set2 hrow (a + k) (b + k) (swp a b k f (b + k)) (swp a b k f (a + k))).congr fun p _ => ?_
        unfold nums
        rw [swp_succ (by omega)]
      have HO := hideIt ((honly.set (a + k) (.int .i64 (swp a b k f (b + k)))).set (b + k) (.int .i64 (swp a b k f (a + k)))).drew
      clear hrow honly
      go_wp2_with fail
      go_region
      all_goals
        go_wp2_with fail
        go_roundw
        case rel => exact ⟨k + 1, by omega, by go_num, HNEW.out, HO.out⟩
        case measure => simp [intOf]; omega
    · obtain rfl : k = n := by omega
      go_wp2_with fail
      refine ⟨rfl, .tuple #[], results_none rfl _ _ _, rfl, hrow, honly⟩

set_option maxRecDepth 100000 in
set_option maxHeartbeats 4000000 in
theorem rotate_any (g N cap : Nat) (f : Nat → Int) (a m b : Nat) (cf : Value) (w : World) (h : w.rowIs g 3 N (nums f)) (h1 : a < m) (h2 : m < b) (h3 : b ≤ N) (hN : N ≤ 1099511627776) :
    Calls Try.prog 81 #[.slice (some ⟨g, 0, none⟩) N cap, .int .i64 a, .int .i64 m, .int .i64 b, cf] w fun e w' => e = .returned (.tuple #[]) ∧ w'.rowIs g 3 N (nums (rot a m b f)) ∧ Sw g w w' := by
  have HR := hideIt h
  clear h
  have i0 : (m : Int) - (a : Int) = ((m - a : Nat) : Int) := by omega
  have j0 : (b : Int) - (m : Int) = ((b - m : Nat) : Int) := by omega
  go_enter Try.func81, Try.ntmps81
  go_wp2_with fail
  go_loopw [10, 11] (fun vi vj wr => ∃ (s i j : Nat) (fk : Nat → Int), vi = .int .i64 i ∧ vj = .int .i64 j ∧ 0 < i ∧ 0 < j ∧ Hid (s + i = m) ∧ i ≤ m ∧ m + j ≤ b ∧ Hid (∀ p, rot s (s + i) (s + i + j) fk p = rot a m b f p) ∧ wr.rowIs g 3 N (nums fk) ∧ Sw g w wr) (fun vi vj _ => (intOf vi).toNat + (intOf vj).toNat)
  case atStart => exact ⟨a, m - a, b - m, f, by go_num, by go_num, by omega, by omega, (by rw [Hid]; omega), by omega, by omega, (fun p => by rw [show a + (m - a) = m by omega, show m + (b - m) = b by omega]), HR.out, Sw.refl _ _⟩
  case round =>
    obtain ⟨s, i, j, fk, rfl, rfl, hi, hj, HS, him, hjb, HT, hrow, hsw⟩ := hrel
    have HROW := hideIt hrow
    have HSW := hideIt hsw
    clear hrow hsw i0 j0
    have es : (m : Int) - (i : Int) = (s : Int) := by have := HS.out; omega
    by_cases e : i = j
    · have q : ((i : Int) != (j : Int)) = false := by rw [e]; simp
      have HE := hideIt e
      clear e
      go_wp2_with fail
      refine (swapRange_any g N cap fk s m i cf wr HROW.out (by have := HS.out; omega) (by have := HE.out; omega) (Or.inl (by have := HS.out; omega)) hN).mono ?_
      rintro e w1 ⟨rfl, hr1, hs1⟩
      go_wp2_with fail
      refine ⟨rfl, .tuple #[], results_none rfl _ _ _, rfl, hr1.congr fun p _ => ?_, HSW.out.trans hs1⟩
      unfold nums
      rw [← HT.out p, ← HS.out, ← HE.out, rot_same]
    · have q : ((i : Int) != (j : Int)) = true := by rw [bne_iff_ne]; omega
      have HE := hideIt e
      clear e
      by_cases c : j < i
      · have c' : (j : Int) < (i : Int) := by omega
        have es2 : (i : Int) - (j : Int) = ((i - j : Nat) : Int) := by omega
        have HT2 : Hid (∀ p, rot (s + j) (s + j + (i - j)) (s + j + (i - j) + j) (swp s m j fk) p = rot a m b f p) := fun p => by
          rw [← HT.out p, ← rot_more c hj fk p, ← HS.out, show s + j + (i - j) = s + i by omega]
        go_wp2_with fail
        refine (swapRange_any g N cap fk s m j cf wr HROW.out (by have := HS.out; omega) (by omega) (Or.inl (by have := HS.out; omega)) hN).mono ?_
        rintro e w1 ⟨rfl, hr1, hs1⟩
        go_wp2_with fail
        go_roundw
        case rel => exact ⟨s + j, i - j, j, swp s m j fk, by go_num, by go_num, by omega, hj, (by have := HS.out; rw [Hid]; omega), by omega, hjb, HT2, hr1, HSW.out.trans hs1⟩
        case measure => simp [intOf]; omega
      · have c' : ¬ (j : Int) < (i : Int) := by omega
        have es2 : (j : Int) - (i : Int) = ((j - i : Nat) : Int) := by have := HE.out; omega
        have es3 : (m : Int) + (j : Int) - (i : Int) = ((s + j : Nat) : Int) := by have := HS.out; omega
        have HT2 : Hid (∀ p, rot s (s + i) (s + i + (j - i)) (swp s (s + j) i fk) p = rot a m b f p) := fun p => by
          have := HE.out
          rw [← HT.out p, ← rot_less (show i < j by omega) hi fk p, show s + i + (j - i) = s + j by omega]
        go_wp2_with fail
        refine (swapRange_any g N cap fk s (s + j) i cf wr HROW.out (by have := HS.out; omega) (by have := HS.out; omega) (Or.inl (by have := HE.out; omega)) hN).mono ?_
        rintro e w1 ⟨rfl, hr1, hs1⟩
        go_wp2_with fail
        go_roundw
        case rel => exact ⟨s, i, j - i, swp s (s + j) i fk, by go_num, by go_num, hi, by have := HE.out; omega, HS, him, by omega, HT2, hr1, HSW.out.trans hs1⟩
        case measure => simp [intOf]; omega
end Go.Proofs.Ytgnaakdgffkghaa
