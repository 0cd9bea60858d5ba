/-
  impl.compared: two values of one kind.
-/
import Derived.Test.YtgmnihofkpjboaaGreatDoorCmpD
import Derived.Deep.QuietTactic
import Derived.BigQuiet
import Derived.WalkSmall
import Derived.Deep.RegionWith
namespace Go.Proofs.YtgmnihofkpjboaaGreatDoor
open Go.RowKit
set_option linter.unusedSimpArgs false
set_option linter.unusedVariables false

theorem zeroN {x : VN} (h : nodeB x = true) (h2 : x.kind ≠ 2) (h3 : x.kind ≠ 3) : x.n = 0 := by
  unfold nodeB unnamedB at h
  simp [h2, h3] at h
  exact h.1.1.1.1
theorem zeroS {x : VN} (h : nodeB x = true) (h4 : x.kind ≠ 4) : x.s.toList = [] := by
  unfold nodeB unnamedB at h
  simp only [Bool.and_eq_true, Bool.not_eq_true', Bool.and_eq_false_iff, decide_eq_false_iff_not, Classical.not_not] at h
  exact h.1.1.1.2.resolve_left h4
theorem zeroK {x : VN} (h : nodeB x = true) (h6 : x.kind ≠ 6) : x.keys = [] := by
  unfold nodeB unnamedB at h
  simp [h6] at h
  exact h.1.1.2
theorem zeroC {x : VN} (h : nodeB x = true) (h5 : x.kind ≠ 5) (h6 : x.kind ≠ 6) : x.kids = [] := by
  unfold nodeB unnamedB at h
  simp [h5, h6] at h
  exact h.1.2

theorem cmpS_zero {a b : ByteArray} (ha : a.toList = []) (hb : b.toList = []) : cmpS a b = 0 := by unfold cmpS; rw [ha, hb]; rfl

/-- What the order says of two nodes of one kind. -/
theorem ord_same {us vs : List VN} {f n m : Nat} {k : Int} (hx : nodeB (nodeAt us n) = true) (hy : nodeB (nodeAt vs m) = true) (k1 : (nodeAt us n).kind = k) (k2 : (nodeAt vs m).kind = k) :
    ord us vs (f + 1) n m = if k = 1 then 0 else if k = 2 ∨ k = 3 then cmpI (nodeAt us n).n (nodeAt vs m).n else if k = 4 then cmpS (nodeAt us n).s (nodeAt vs m).s
      else if cmpKeys (nodeAt us n).keys (nodeAt vs m).keys ≠ 0 then cmpKeys (nodeAt us n).keys (nodeAt vs m).keys else cmpKids (fun a b => ord us vs f a.toNat b.toNat) (nodeAt us n).kids (nodeAt vs m).kids := by
  rw [ord, if_neg (by simp [k1, k2])]
  by_cases h23 : k = 2 ∨ k = 3
  · have s0 : cmpS (nodeAt us n).s (nodeAt vs m).s = 0 := cmpS_zero (zeroS hx (by omega)) (zeroS hy (by omega))
    rw [if_neg (show ¬ k = 1 by omega), if_pos h23, s0, zeroK hx (by omega), zeroK hy (by omega), zeroC hx (by omega) (by omega), zeroC hy (by omega) (by omega)]
    by_cases e : (nodeAt us n).n = (nodeAt vs m).n
    · simp [e, cmpKeys, cmpKids, (cmpI_zero _ _).2]
    · simp [e]
  · rw [if_neg (by rw [zeroN hx (by omega) (by omega), zeroN hy (by omega) (by omega)]; simp), if_neg h23]
    by_cases h4 : k = 4
    · rw [if_neg (show ¬ k = 1 by omega), if_pos h4, zeroK hx (by omega), zeroK hy (by omega), zeroC hx (by omega) (by omega), zeroC hy (by omega) (by omega)]
      by_cases e : cmpS (nodeAt us n).s (nodeAt vs m).s = 0
      · simp [e, cmpKeys, cmpKids]
      · simp [e]
    · have s0 : cmpS (nodeAt us n).s (nodeAt vs m).s = 0 := cmpS_zero (zeroS hx (by omega)) (zeroS hy (by omega))
      rw [s0, if_neg (by simp), if_neg h4]
      by_cases h1 : k = 1
      · rw [if_pos h1, zeroK hx (by omega), zeroK hy (by omega), zeroC hx (by omega) (by omega), zeroC hy (by omega) (by omega)]
        simp [cmpKeys, cmpKids]
      · rw [if_neg h1]

theorem items_none (lo B : Nat) (w : World) (P : Nat → Value → Prop) : ItemsG lo B w (.slice none 0 0) ([] : List Int).length P := ⟨none, 0, rfl, fun h => absurd h (by simp)⟩

theorem tb_bool (x : Value) (w : World) : (Instr.typeAssert (.iface 97 x) 59 97 false).run Tryz.prog w = .ok x w := by kernel_rfl
theorem tb_int (x : Value) (w : World) : (Instr.typeAssert (.iface 69 x) 59 69 false).run Tryz.prog w = .ok x w := by kernel_rfl
theorem tb_text (x : Value) (w : World) : (Instr.typeAssert (.iface 99 x) 59 99 false).run Tryz.prog w = .ok x w := by kernel_rfl
theorem tb_map (x : Value) (w : World) : (Instr.typeAssert (.iface 101 x) 59 101 false).run Tryz.prog w = .ok x w := by kernel_rfl

theorem ItemsG.keep {lo B : Nat} {w w' : World} {it : Value} {us : List VN} {f : Nat} {l : List Int} (h : ItemsG lo B w it l.length (fun j u => ValG lo B w us f (intAt l j).toNat u)) (hb : Below B w w') (hlo : lo ≤ B) : ItemsG lo B w' it l.length (fun j u => ValG lo B w' us f (intAt l j).toNat u) := by
  obtain ⟨a, cap, e, hx⟩ := h
  refine ⟨a, cap, e, fun hn => ?_⟩
  obtain ⟨b, ea, h1, h2, h3⟩ := hx hn
  refine ⟨b, ea, h1, h2, fun j hj => ?_⟩
  obtain ⟨t, x, hc, hv⟩ := h3 j hj
  exact ⟨t, x, (below_cell hb h2).trans hc, ValG.keep (keepG_below hb) (Nat.le_refl _) hlo hv⟩

/-- What the lists of parts are compared by: the contract of compared itself, one step down. -/
def CmpIH (lo B lo' B' : Nat) (us vs : List VN) (f f' : Nat) : Prop :=
  ∀ (n k : Nat) (v v' : Value) (w : World), n < us.length → k < vs.length → ValG lo B w us f n v → ValG lo' B' w vs f' k v' → B ≤ w.heap.size → B' ≤ w.heap.size →
      Calls Tryz.prog 53 #[v, v'] w fun e w' => e = .returned (.int .i64 (ord us vs f n k)) ∧ Below w.heap.size w w'

theorem compareNone {lo B lo' B' : Nat} {us vs : List VN} {f f' : Nat} (ih : CmpIH lo B lo' B' us vs f f') (hlo : lo ≤ B) (hlo' : lo' ≤ B') (w : World) (hB : B ≤ w.heap.size) (hB' : B' ≤ w.heap.size) :
    Calls Tryz.prog 64 #[.slice none 0 0, .slice none 0 0, .func (.func 53) #[] #[]] w fun e w' => e = .returned (.int .i64 0) ∧ Below w.heap.size w w' :=
  compareFunc_any lo B lo' B' us vs f f' [] [] _ _ w (items_none _ _ _ _) (items_none _ _ _ _) hlo hlo' hB hB' (by simp) (by simp) (fun j hj => absurd hj (by simp)) (fun j hj => absurd hj (by simp)) ih

set_option maxRecDepth 100000 in
set_option maxHeartbeats 6400000 in
theorem compared_null {lo B lo' B' : Nat} {us vs : List VN} {f f' : Nat} (ih : CmpIH lo B lo' B' us vs f f') (hlo : lo ≤ B) (hlo' : lo' ≤ B') (w : World) (hB : B ≤ w.heap.size) (hB' : B' ≤ w.heap.size) :
    Calls Tryz.prog 53 #[.iface 103 (.agg #[]), .iface 103 (.agg #[])] w fun e w' => e = .returned (.int .i64 0) ∧ Below w.heap.size w w' := by
  have IH := hideIt ih
  clear ih
  have tabool := ta_null_bool
  have taint := ta_null_int
  have tatext := ta_null_text
  have tamap := ta_null_map
  go_enter Tryz.func53, Tryz.ntmps53
  go_wp2_with fail
  refine (kind1_any _).mono ?_
  rintro e w1 ⟨rfl, hb1⟩
  have z1 := hb1.size
  go_wp2_with fail
  refine (kind1_any _).mono ?_
  rintro e w2 ⟨rfl, hb2⟩
  have z2 := hb2.size
  go_wp2_with fail
  refine (cmpInt_any _ _ _).mono ?_
  rintro e w3 ⟨rfl, rfl⟩
  rw [show cmpI 1 1 = 0 from rfl]
  go_wp2_with fail
  refine (parts1_any _).mono ?_
  rintro e w4 ⟨rfl, hb4⟩
  have z4 := hb4.size
  go_wp2_with fail
  refine (parts1_any _).mono ?_
  rintro e w5 ⟨rfl, hb5⟩
  have z5 := hb5.size
  go_wp2_with fail
  refine (compareNone IH.out hlo hlo' _ (by omega) (by omega)).mono ?_
  rintro e w6 ⟨rfl, hb6⟩
  go_wp2_with fail
  go_ret
  exact ⟨rfl, hb1.trans ((hb2.trans ((hb4.trans ((hb5.trans (hb6.mono (by omega))).mono (by omega))).mono (by omega))).mono (by omega))⟩

set_option maxRecDepth 100000 in
set_option maxHeartbeats 6400000 in
theorem compared_bool (a b : Int) {lo B lo' B' : Nat} {us vs : List VN} {f f' : Nat} (ih : CmpIH lo B lo' B' us vs f f') (hlo : lo ≤ B) (hlo' : lo' ≤ B') (w : World) (hB : B ≤ w.heap.size) (hB' : B' ≤ w.heap.size) :
    Calls Tryz.prog 53 #[.iface 97 (.agg #[.int .i64 a]), .iface 97 (.agg #[.int .i64 b])] w fun e w' => e = .returned (.int .i64 (cmpI a b)) ∧ Below w.heap.size w w' := by
  have IH := hideIt ih
  clear ih
  have tabool := ta_bool_bool
  have tb := tb_bool
  have fld := fld_bool
  go_enter Tryz.func53, Tryz.ntmps53
  go_wp2_with fail
  refine (kind2_any _ _).mono ?_
  rintro e w1 ⟨rfl, hb1⟩
  go_wp2_with fail
  refine (kind2_any _ _).mono ?_
  rintro e w2 ⟨rfl, hb2⟩
  have HB2 := hideIt (Below.next hb1 hb2)
  clear hb1 hb2
  go_wp2_with fail
  refine (cmpInt_any _ _ _).mono ?_
  rintro e w3 ⟨rfl, rfl⟩
  rw [show cmpI 2 2 = 0 from rfl]
  go_wp2_with fail
  go_quiet ((go_at_call 61; exact Calls.quiet_of_same (cmpInt_any _ _ _)))
  obtain ⟨bz, hbz0⟩ : ∃ bz, (cmpI a b != 0) = bz := ⟨_, rfl⟩
  have HB3 := hideIt (below_drewN ((HB2.out).alloc HB2.out.size (.cells #[.int .i64 a] 97)) nq)
  cases bz
  · have HZ : Hid (cmpI a b = 0) := by simpa [Hid] using hbz0
    go_wp2_with fail
    refine (parts2_any _ _).mono ?_
    rintro e w4 ⟨rfl, hb4⟩
    have HB4 := hideIt (Below.next HB3.out hb4)
    clear hb4
    go_wp2_with fail
    refine (parts2_any _ _).mono ?_
    rintro e w5 ⟨rfl, hb5⟩
    have HB5 := hideIt (Below.next HB4.out hb5)
    clear hb5
    have z5 := HB5.out.size
    go_wp2_with fail
    refine (compareNone IH.out hlo hlo' _ (by omega) (by omega)).mono ?_
    rintro e w6 ⟨rfl, hb6⟩
    go_wp2_with fail
    go_ret
    exact ⟨ret_int HZ.out.symm, Below.next HB5.out hb6⟩
  · go_wp2_with fail
    go_ret
    exact ⟨rfl, HB3.out⟩

set_option maxRecDepth 100000 in
set_option maxHeartbeats 6400000 in
theorem compared_int (a b : Int) {lo B lo' B' : Nat} {us vs : List VN} {f f' : Nat} (ih : CmpIH lo B lo' B' us vs f f') (hlo : lo ≤ B) (hlo' : lo' ≤ B') (w : World) (hB : B ≤ w.heap.size) (hB' : B' ≤ w.heap.size) :
    Calls Tryz.prog 53 #[.iface 69 (.agg #[.int .i64 a]), .iface 69 (.agg #[.int .i64 b])] w fun e w' => e = .returned (.int .i64 (cmpI a b)) ∧ Below w.heap.size w w' := by
  have IH := hideIt ih
  clear ih
  have tabool := ta_int_bool
  have taint := ta_int_int
  have tb := tb_int
  have fld := fld_int
  go_enter Tryz.func53, Tryz.ntmps53
  go_wp2_with fail
  refine (kind3_any _ _).mono ?_
  rintro e w1 ⟨rfl, hb1⟩
  go_wp2_with fail
  refine (kind3_any _ _).mono ?_
  rintro e w2 ⟨rfl, hb2⟩
  have HB2 := hideIt (Below.next hb1 hb2)
  clear hb1 hb2
  go_wp2_with fail
  refine (cmpInt_any _ _ _).mono ?_
  rintro e w3 ⟨rfl, rfl⟩
  rw [show cmpI 3 3 = 0 from rfl]
  go_wp2_with fail
  go_quiet ((go_at_call 61; exact Calls.quiet_of_same (cmpInt_any _ _ _)))
  obtain ⟨bz, hbz0⟩ : ∃ bz, (cmpI a b != 0) = bz := ⟨_, rfl⟩
  have HB3 := hideIt (below_drewN ((HB2.out).alloc HB2.out.size (.cells #[.int .i64 a] 69)) nq)
  cases bz
  · have HZ : Hid (cmpI a b = 0) := by simpa [Hid] using hbz0
    go_wp2_with fail
    refine (parts3_any _ _).mono ?_
    rintro e w4 ⟨rfl, hb4⟩
    have HB4 := hideIt (Below.next HB3.out hb4)
    clear hb4
    go_wp2_with fail
    refine (parts3_any _ _).mono ?_
    rintro e w5 ⟨rfl, hb5⟩
    have HB5 := hideIt (Below.next HB4.out hb5)
    clear hb5
    have z5 := HB5.out.size
    go_wp2_with fail
    refine (compareNone IH.out hlo hlo' _ (by omega) (by omega)).mono ?_
    rintro e w6 ⟨rfl, hb6⟩
    go_wp2_with fail
    go_ret
    exact ⟨ret_int HZ.out.symm, Below.next HB5.out hb6⟩
  · go_wp2_with fail
    go_ret
    exact ⟨rfl, HB3.out⟩

set_option maxRecDepth 100000 in
set_option maxHeartbeats 6400000 in
theorem compared_text (a b : ByteArray) {lo B lo' B' : Nat} {us vs : List VN} {f f' : Nat} (ih : CmpIH lo B lo' B' us vs f f') (hlo : lo ≤ B) (hlo' : lo' ≤ B') (w : World) (hB : B ≤ w.heap.size) (hB' : B' ≤ w.heap.size) :
    Calls Tryz.prog 53 #[.iface 99 (.agg #[.string a]), .iface 99 (.agg #[.string b])] w fun e w' => e = .returned (.int .i64 (cmpS a b)) ∧ Below w.heap.size w w' := by
  have IH := hideIt ih
  clear ih
  have tabool := ta_text_bool
  have taint := ta_text_int
  have tatext := ta_text_text
  have tb := tb_text
  have fld := fld_text
  go_enter Tryz.func53, Tryz.ntmps53
  go_wp2_with fail
  refine (kind4_any _ _).mono ?_
  rintro e w1 ⟨rfl, hb1⟩
  go_wp2_with fail
  refine (kind4_any _ _).mono ?_
  rintro e w2 ⟨rfl, hb2⟩
  have HB2 := hideIt (Below.next hb1 hb2)
  clear hb1 hb2
  go_wp2_with fail
  refine (cmpInt_any _ _ _).mono ?_
  rintro e w3 ⟨rfl, rfl⟩
  rw [show cmpI 4 4 = 0 from rfl]
  go_wp2_with fail
  go_quiet ((go_at_call 62; exact Calls.quiet_of_same (stringsCompare_any _ _ _)))
  obtain ⟨bz, hbz0⟩ : ∃ bz, (cmpS a b != 0) = bz := ⟨_, rfl⟩
  have HB3 := hideIt (below_drewN ((HB2.out).alloc HB2.out.size (.cells #[.string a] 99)) nq)
  cases bz
  · have HZ : Hid (cmpS a b = 0) := by simpa [Hid] using hbz0
    go_wp2_with fail
    refine (parts4_any _ _).mono ?_
    rintro e w4 ⟨rfl, hb4⟩
    have HB4 := hideIt (Below.next HB3.out hb4)
    clear hb4
    go_wp2_with fail
    refine (parts4_any _ _).mono ?_
    rintro e w5 ⟨rfl, hb5⟩
    have HB5 := hideIt (Below.next HB4.out hb5)
    clear hb5
    have z5 := HB5.out.size
    go_wp2_with fail
    refine (compareNone IH.out hlo hlo' _ (by omega) (by omega)).mono ?_
    rintro e w6 ⟨rfl, hb6⟩
    go_wp2_with fail
    go_ret
    exact ⟨ret_int HZ.out.symm, Below.next HB5.out hb6⟩
  · go_wp2_with fail
    go_ret
    exact ⟨rfl, HB3.out⟩

set_option maxRecDepth 100000 in
set_option maxHeartbeats 6400000 in
theorem compared_list (l m : List Int) (it it' : Value) {lo B lo' B' : Nat} {us vs : List VN} {f f' : Nat} (ih : CmpIH lo B lo' B' us vs f f') (hlo : lo ≤ B) (hlo' : lo' ≤ B') (w : World) (hB : B ≤ w.heap.size) (hB' : B' ≤ w.heap.size)
    (h1 : ItemsG lo B w it l.length (fun j u => ValG lo B w us f (intAt l j).toNat u)) (h2 : ItemsG lo' B' w it' m.length (fun j u => ValG lo' B' w vs f' (intAt m j).toNat u))
    (hl : l.length ≤ 80) (hm : m.length ≤ 80) (r1 : ∀ j, j < l.length → (intAt l j).toNat < us.length) (r2 : ∀ j, j < m.length → (intAt m j).toNat < vs.length) :
    Calls Tryz.prog 53 #[.iface 73 (.agg #[it]), .iface 73 (.agg #[it'])] w fun e w' => e = .returned (.int .i64 (cmpKids (fun a b => ord us vs f a.toNat b.toNat) l m)) ∧ Below w.heap.size w w' := by
  have IH := hideIt ih
  have H1 := hideIt h1
  have H2 := hideIt h2
  have R1 := hideIt r1
  have R2 := hideIt r2
  obtain ⟨a1, p1, rfl, _⟩ := h1
  obtain ⟨a2, p2, rfl, _⟩ := h2
  clear ih r1 r2
  have tabool := ta_list_bool
  have taint := ta_list_int
  have tatext := ta_list_text
  have tamap := ta_list_map
  go_enter Tryz.func53, Tryz.ntmps53
  go_wp2_with fail
  refine (kind5_any _ _ _ _).mono ?_
  rintro e w1 ⟨rfl, hb1⟩
  go_wp2_with fail
  refine (kind5_any _ _ _ _).mono ?_
  rintro e w2 ⟨rfl, hb2⟩
  have HB2 := hideIt (Below.next hb1 hb2)
  clear hb1 hb2
  go_wp2_with fail
  refine (cmpInt_any _ _ _).mono ?_
  rintro e w3 ⟨rfl, rfl⟩
  rw [show cmpI 5 5 = 0 from rfl]
  go_wp2_with fail
  refine (parts5_any _ _ _ _).mono ?_
  rintro e w4 ⟨rfl, hb4⟩
  have HB4 := hideIt (Below.next HB2.out hb4)
  clear hb4
  go_wp2_with fail
  refine (parts5_any _ _ _ _).mono ?_
  rintro e w5 ⟨rfl, hb5⟩
  have HB5 := hideIt (Below.next HB4.out hb5)
  clear hb5
  have z5 := HB5.out.size
  go_wp2_with fail
  refine (compareFunc_any lo B lo' B' us vs f f' l m _ _ _ (H1.out.keep (HB5.out.mono hB) hlo) (H2.out.keep (HB5.out.mono hB') hlo') hlo hlo' (by omega) (by omega) hl hm R1.out R2.out IH.out).mono ?_
  rintro e w6 ⟨rfl, hb6⟩
  go_wp2_with fail
  go_ret
  exact ⟨rfl, Below.next HB5.out hb6⟩

set_option maxRecDepth 100000 in
set_option maxHeartbeats 6400000 in
theorem compared_map (ks ks' : List ByteArray) (kv kv' : Value) (l m : List Int) (it it' : Value) {lo B lo' B' : Nat} {us vs : List VN} {f f' : Nat} (ih : CmpIH lo B lo' B' us vs f f') (hlo : lo ≤ B) (hlo' : lo' ≤ B') (w : World) (hB : B ≤ w.heap.size) (hB' : B' ≤ w.heap.size)
    (g1 : StrsAt B w kv ks) (g2 : StrsAt B' w kv' ks')
    (h1 : ItemsG lo B w it l.length (fun j u => ValG lo B w us f (intAt l j).toNat u)) (h2 : ItemsG lo' B' w it' m.length (fun j u => ValG lo' B' w vs f' (intAt m j).toNat u))
    (hl : l.length ≤ 80) (hm : m.length ≤ 80) (r1 : ∀ j, j < l.length → (intAt l j).toNat < us.length) (r2 : ∀ j, j < m.length → (intAt m j).toNat < vs.length) :
    Calls Tryz.prog 53 #[.iface 101 (.agg #[kv, it]), .iface 101 (.agg #[kv', it'])] w fun e w' => e = .returned (.int .i64 (if cmpKeys ks ks' ≠ 0 then cmpKeys ks ks' else cmpKids (fun a b => ord us vs f a.toNat b.toNat) l m)) ∧ Below w.heap.size w w' := by
  have IH := hideIt ih
  have H1 := hideIt h1
  have H2 := hideIt h2
  have G1 := hideIt g1
  have G2 := hideIt g2
  have R1 := hideIt r1
  have R2 := hideIt r2
  obtain ⟨a1, p1, rfl, _⟩ := h1
  obtain ⟨a2, p2, rfl, _⟩ := h2
  obtain ⟨_, _, d1, q1, rfl, _⟩ := g1
  obtain ⟨_, _, d2, q2, rfl, _⟩ := g2
  clear ih r1 r2
  have tabool := ta_map_bool
  have taint := ta_map_int
  have tatext := ta_map_text
  have tamap := ta_map_map
  have tb := tb_map
  have fld := fld_map
  go_enter Tryz.func53, Tryz.ntmps53
  go_wp2_with fail
  refine (kind6_any _ _ _ _ _ _ _).mono ?_
  rintro e w1 ⟨rfl, hb1⟩
  go_wp2_with fail
  refine (kind6_any _ _ _ _ _ _ _).mono ?_
  rintro e w2 ⟨rfl, hb2⟩
  have HB2 := hideIt (Below.next hb1 hb2)
  clear hb1 hb2
  go_wp2_with fail
  refine (cmpInt_any _ _ _).mono ?_
  rintro e w3 ⟨rfl, rfl⟩
  rw [show cmpI 6 6 = 0 from rfl]
  go_wp2_with fail
  have HBA := hideIt ((HB2.out).alloc HB2.out.size (.cells #[.slice d1 ks.length q1, .slice a1 l.length p1] 101))
  go_quiet ((go_at_call 63; exact Calls.quiet_of_same (slicesCompare_any w.heap.size _ _ ks ks' _ ((G1.out.wide hB).below (below_drewN HBA.out _)) ((G2.out.wide hB').below (below_drewN HBA.out _)))))
  obtain ⟨bz, hbz0⟩ : ∃ bz, (cmpKeys ks ks' != 0) = bz := ⟨_, rfl⟩
  have HB3 := hideIt (below_drewN HBA.out nq)
  cases bz
  · have HZ : Hid (cmpKeys ks ks' = 0) := by simpa [Hid] using hbz0
    go_wp2_with fail
    refine (parts6_any _ _ _ _ _ _ _).mono ?_
    rintro e w4 ⟨rfl, hb4⟩
    have HB4 := hideIt (Below.next HB3.out hb4)
    clear hb4
    go_wp2_with fail
    refine (parts6_any _ _ _ _ _ _ _).mono ?_
    rintro e w5 ⟨rfl, hb5⟩
    have HB5 := hideIt (Below.next HB4.out hb5)
    clear hb5
    have z5 := HB5.out.size
    go_wp2_with fail
    refine (compareFunc_any lo B lo' B' us vs f f' l m _ _ _ (H1.out.keep (HB5.out.mono hB) hlo) (H2.out.keep (HB5.out.mono hB') hlo') hlo hlo' (by omega) (by omega) hl hm R1.out R2.out IH.out).mono ?_
    rintro e w6 ⟨rfl, hb6⟩
    go_wp2_with fail
    go_ret
    exact ⟨ret_int (by first | rfl | simp [HZ.out]), Below.next HB5.out hb6⟩
  · have HZ : Hid (¬ cmpKeys ks ks' = 0) := by simpa [Hid] using hbz0
    go_wp2_with fail
    go_ret
    exact ⟨ret_int (by first | rfl | simp [HZ.out]), HB3.out⟩
end Go.Proofs.YtgmnihofkpjboaaGreatDoor
