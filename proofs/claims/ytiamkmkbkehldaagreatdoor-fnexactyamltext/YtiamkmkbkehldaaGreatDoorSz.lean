/-
  impl.valueOf: the value of right nodes.
-/
import Derived.Test.YtiamkmkbkehldaaGreatDoorVAt
import Derived.Test.YtiamkmkbkehldaaGreatDoorImp3
import Derived.Test.YtiamkmkbkehldaaGreatDoorIJw
import Derived.Test.YtiamkmkbkehldaaGreatDoorSJt
import Derived.Test.YtiamkmkbkehldaaGreatDoorRows
import Derived.Lib.LaidTab
import Derived.LaidLaws
import Derived.ProofKit
import Derived.Test.YtiamkmkbkehldaaGreatDoorPsM
import Derived.Test.YtiamkmkbkehldaaGreatDoorProg
namespace Go.Proofs.YtiamkmkbkehldaaGreatDoor
open Go.RowKit
set_option linter.unusedSimpArgs false
set_option linter.unusedVariables false

set_option maxRecDepth 100000 in
set_option maxHeartbeats 1600000 in
theorem valueOf_no (B : Nat) (v : Value) (vs : List VN) (w : World) (h : NodesAt B w v vs) (hB : B ≤ w.heap.size) (hno : okB vs = false) :
    Calls Tryz.prog 31 #[v] w fun e w' => e = .returned (.tuple #[.nilIface, .bool false]) ∧ Below w.heap.size w w' := by
  have HV := hideIt h
  obtain ⟨_, a, cap, rfl, _⟩ := h
  go_enter Tryz.func31, Tryz.ntmps31
  go_wp2_with fail
  refine (implOk_any B _ vs _ HV.out hB).mono ?_
  rintro e w1 ⟨rfl, hb1⟩
  go_wp2_with fail
  go_ret2
  exact ⟨rfl, hb1⟩

set_option maxRecDepth 100000 in
set_option maxHeartbeats 1600000 in
theorem valueOf_yes (B : Nat) (v : Value) (vs : List VN) (w : World) (h : NodesAt B w v vs) (hB : B ≤ w.heap.size) (hyes : okB vs = true) :
    Calls Tryz.prog 31 #[v] w fun e w' => ∃ lo t x, e = .returned (.tuple #[.iface t x, .bool true]) ∧ w.heap.size ≤ lo ∧ lo < w'.heap.size ∧ ValIs lo w'.heap.size w' vs vs.length (vs.length - 1) (.iface t x) ∧ Below w.heap.size w w' := by
  have HV := hideIt h
  obtain ⟨_, a, cap, rfl, _⟩ := h
  obtain ⟨⟨hn1, hn2⟩, hok, _, hkn⟩ := okB_parts hyes
  have HOK := hideIt hok
  have HKN := hideIt hkn
  clear hok hkn
  go_enter Tryz.func31, Tryz.ntmps31
  go_wp2_with fail
  refine (implOk_any B _ vs _ HV.out hB).mono ?_
  rintro e w1 ⟨rfl, hb1⟩
  have z1 := hb1.size
  go_wp2_with fail
  refine (valuesAt_any B _ vs _ (HV.out.below (hb1.mono hB)) (by omega) hn1 hn2 HOK.out HKN.out).mono ?_
  rintro e w2 ⟨VV, rfl, hrow, hvals, hb2⟩
  have z2 := hb2.size
  obtain ⟨t, x, hx⟩ := (hvals (vs.length - 1) (by omega)).iface
  have hc : w2.cell? ⟨w1.heap.size, vs.length - 1, none⟩ = some (.iface t x) := by rw [hrow.cell (by omega), hx]
  have hlt := hrow.lt
  have hval := hvals (vs.length - 1) (by omega)
  rw [hx] at hval
  have HVL := hideIt hval
  have p0 : ((vs.length : Int) - 1).toNat = vs.length - 1 := by omega
  clear hrow hvals hx hval
  go_wp2_with fail
  go_ret2
  exact ⟨w1.heap.size, t, x, rfl, by omega, hlt, ValIs.more (by omega) HVL.out, hb1.trans (hb2.mono z1)⟩
end Go.Proofs.YtiamkmkbkehldaaGreatDoor

/-
  The program's and the specification's JsonText and Indented.
-/
namespace Go.Proofs.YtiamkmkbkehldaaGreatDoor
open Go.RowKit
set_option linter.unusedSimpArgs false
set_option linter.unusedVariables false

theorem ft_json : FT 93 1 := ⟨by kernel_rfl, by decide⟩
end Go.Proofs.YtiamkmkbkehldaaGreatDoor

/-
  What the row's condition gives: the table of powers of ten.
-/
namespace Go.Proofs.YtiamkmkbkehldaaGreatDoor
open Go.RowKit
set_option linter.unusedVariables false

theorem js_own : ownKnob Tryz.prog.godebug = none := by kernel_rfl
theorem js_laidOut : laidOutB Tryz.prog = true := by kernel_rfl
theorem js_tab : (Rows.laid_internal_strconv_uint64pow10 : DataW Unit) = Lib.tabData .u64 Lib.pow10Tab := by rfl
theorem js_g : Tryz.prog.globalNamed "internal/strconv.uint64pow10" = some 1 := by kernel_rfl
theorem js_gt : (Tryz.prog.globals[1]?).map (·.type) = some 252 := by kernel_rfl
theorem js_c1 : Tryz.prog.cellsOf 193 = 1 := by kernel_rfl
theorem js_c20 : Tryz.prog.cellsOf 252 = 20 := by kernel_rfl
theorem js_tabIs {W : World} {a b : String × DataW Unit} {r : List (String × DataW Unit)} (h : laidMet Tryz.prog (a :: b :: ("internal/strconv.uint64pow10", Rows.laid_internal_strconv_uint64pow10) :: r) W) : Lib.TabIs Tryz.prog W "internal/strconv.uint64pow10" .u64 Lib.pow10Tab := by
  obtain ⟨ps, ⟨_, _, _, _, _, _, _, _, _, _, ⟨_, _, _, _, _, _, _, _, _, _, ⟨g', t', cs, fuel, p, q, hg', ht', hvar, hd, _, _⟩, _⟩, _⟩, _⟩ := h
  obtain rfl := Option.some.inj (js_g.symm.trans hg')
  obtain rfl := Option.some.inj (js_gt.symm.trans ht')
  unfold Lib.TabIs
  rw [js_tab] at hd
  rw [hvar, ← Lib.cells_of_tab Tryz.underlying252 Tryz.underlying193 js_c1 js_c20 hd]
theorem js_tabB {W : World} (h : Lib.TabIs Tryz.prog W "internal/strconv.uint64pow10" .u64 Lib.pow10Tab) : TabB W.heap.size W := by
  intro w' hb
  have hc := h.cell js_g 0 (by decide)
  have hlt : 1 < W.heap.size := by
    rcases Nat.lt_or_ge 1 W.heap.size with h' | h'
    · exact h'
    · simp [World.cell?, Array.getElem?_eq_none h'] at hc
  unfold Lib.TabIs World.var? at h ⊢
  simp only [js_g, Option.bind_some] at h ⊢
  rw [hb.block _ hlt]
  exact h
end Go.Proofs.YtiamkmkbkehldaaGreatDoor

/-
  The four functions that take sizes from a budget: each returns a number and only makes new memory; where the number is not below 0, nothing is greater than the budget was.
-/
namespace Go.Proofs.YtiamkmkbkehldaaGreatDoor
open Go.RowKit
set_option linter.unusedSimpArgs false
set_option linter.unusedVariables false

set_option maxHeartbeats 400000 in
theorem szInt64S_any (B : Nat) (v : Value) (l : List Int) (r : Int) (w : World) (h : RawInts B w v l) (h1 : 0 ≤ r) (h2 : r ≤ 1048576) :
    Calls Tryz.prog 132 #[v, .int .i64 r] w fun e w' => (∃ q, e = .returned (.int .i64 q) ∧ q ≤ 1048576 ∧ (0 ≤ q → l.length ≤ 1048576)) ∧ w' = w := by
  obtain ⟨hlen, _, a, cap, rfl, _⟩ := h
  go_enter Tryz.func132, Tryz.ntmps132
  go_wp2
  · go_ret
    exact ⟨⟨_, rfl, by omega, fun h => by omega⟩, rfl⟩
  · go_ret
    exact ⟨⟨_, rfl, by omega, fun h => by omega⟩, rfl⟩

set_option maxHeartbeats 400000 in
theorem szStringS_any (B : Nat) (v : Value) (l : List ByteArray) (r : Int) (w : World) (h : RawStrs B w v l) (h1 : 0 ≤ r) (h2 : r ≤ 1048576) :
    Calls Tryz.prog 131 #[v, .int .i64 r] w fun e w' => (∃ q, e = .returned (.int .i64 q) ∧ q ≤ 1048576 ∧ (0 ≤ q → l.length ≤ 1048576 ∧ ∀ i, i < l.length → (keyAt l i).size ≤ 1048576)) ∧ w' = w := by
  obtain ⟨hlen, hsz, a, cap, rfl, hcell⟩ := h
  go_enter Tryz.func131, Tryz.ntmps131
  go_wp2
  · go_ret
    exact ⟨⟨_, rfl, by omega, fun h => by omega⟩, rfl⟩
  · go_loop [1, 5] (fun t i => ∃ (k : Nat) (q : Int), k ≤ l.length ∧ i = .int .i64 k ∧ t = .int .i64 q ∧ 0 ≤ q ∧ q ≤ 1048576 ∧ Hid (∀ j, j < k → (keyAt l j).size ≤ 1048576)) (fun _ i => l.length - (intOf i).toNat)
    case atStart => exact ⟨0, _, Nat.zero_le _, rfl, rfl, by omega, by omega, fun j hj => by omega⟩
    case round =>
      obtain ⟨k, q, hk, rfl, rfl, hq0, hq1, HS⟩ := hrel
      by_cases hlt : k < l.length
      · obtain ⟨b, o, rfl, _, hc⟩ := hcell (by omega)
        have hck := hc k hlt
        have hs := hsz k hlt
        clear hc hcell hsz
        go_wp2
        · go_ret
          exact ⟨⟨_, rfl, by omega, fun h => by omega⟩, rfl⟩
        · go_round
          case rel =>
            refine ⟨k + 1, _, by omega, by go_num, rfl, by omega, by omega, fun j hj => ?_⟩
            by_cases e : j = k
            · subst e; omega
            · exact HS.out j (by omega)
          case measure => simp [intOf]; omega
      · obtain rfl : k = l.length := by omega
        go_wp2
        go_ret
        exact ⟨⟨_, rfl, by omega, fun _ => ⟨by omega, HS.out⟩⟩, rfl⟩

set_option maxHeartbeats 800000 in
theorem szVNode_any (B : Nat) (x : VN) (ka ki : Value) (r : Int) (w : World) (h : RawIn B w x ka ki) (hB : B ≤ w.heap.size) (h1 : 0 ≤ r) (h2 : r ≤ 1048576) :
    Calls Tryz.prog 63 #[.agg #[.int .i64 x.kind, .int .i64 x.n, .string x.s, ka, ki], .int .i64 r] w fun e w' => (∃ q, e = .returned (.int .i64 q) ∧ q ≤ 1048576 ∧ (0 ≤ q → Small x)) ∧ Below w.heap.size w w' := by
  have hsz := h.size
  obtain ⟨_, _, a1, c1, e1, _⟩ := h.keys
  obtain ⟨_, _, a2, c2, e2, _⟩ := h.kids
  have hbel : ∀ (o : Obj), Below w.heap.size w (w.alloc o) := fun o => (Below.refl _ _).alloc (Nat.le_refl _) o
  have H := hideIt h
  subst e1 e2
  clear h
  go_enter Tryz.func63, Tryz.ntmps63
  go_wp2_with fail
  · go_ret
    exact ⟨⟨_, rfl, by omega, fun h => by omega⟩, hbel _⟩
  · refine (szStringS_any B _ _ _ _ (H.out.keys.below ((hbel _).mono hB)) (by omega) (by omega)).mono ?_
    rintro e w' ⟨⟨q, rfl, hq, hk⟩, rfl⟩
    have HK := hideIt hk
    have hle : (x.s.size : Int) ≤ 1048576 := by omega
    clear hk
    go_wp2_with fail
    · go_ret
      exact ⟨⟨_, rfl, by omega, fun h => by omega⟩, hbel _⟩
    · refine (szInt64S_any B _ _ _ _ (H.out.kids.below ((hbel _).mono hB)) (by omega) (by omega)).mono ?_
      rintro e w' ⟨⟨q', rfl, hq', hk'⟩, rfl⟩
      have HK' := hideIt hk'
      clear hk'
      have h0 : 0 ≤ q := by omega
      go_wp2_with fail
      · go_ret
        exact ⟨⟨_, rfl, by omega, fun h => by omega⟩, hbel _⟩
      · go_ret
        exact ⟨⟨_, rfl, by omega, fun h => ⟨by omega, (HK.out h0).1, (HK.out h0).2, HK'.out h⟩⟩, hbel _⟩

set_option maxHeartbeats 800000 in
theorem szVNodeS_any (B : Nat) (v : Value) (vs : List VN) (r : Int) (w : World) (h : RawNodes B w v vs) (hB : B ≤ w.heap.size) (h1 : 0 ≤ r) (h2 : r ≤ 1048576) :
    Calls Tryz.prog 24 #[v, .int .i64 r] w fun e w' => (∃ q, e = .returned (.int .i64 q) ∧ q ≤ 1048576 ∧ (0 ≤ q → vs.length ≤ 1048576 ∧ ∀ i, i < vs.length → Small (nodeAt vs i))) ∧ Below w.heap.size w w' := by
  obtain ⟨hlen, a, cap, rfl, hcell⟩ := h
  go_enter Tryz.func24, Tryz.ntmps24
  go_wp2_with fail
  · go_ret
    exact ⟨⟨_, rfl, by omega, fun h => by omega⟩, Below.refl _ _⟩
  · go_loopw [1, 5] (fun t i wr => ∃ (k : Nat) (q : Int), k ≤ vs.length ∧ i = .int .i64 k ∧ t = .int .i64 q ∧ 0 ≤ q ∧ q ≤ 1048576 ∧ Hid (∀ j, j < k → Small (nodeAt vs j)) ∧ Below w.heap.size w wr) (fun _ i _ => vs.length - (intOf i).toNat)
    case atStart => exact ⟨0, _, Nat.zero_le _, rfl, rfl, by omega, by omega, fun j hj => by omega, Below.refl _ _⟩
    case round =>
      obtain ⟨k, q, hk, rfl, rfl, hq0, hq1, HS, hbel⟩ := hrel
      by_cases hlt : k < vs.length
      · obtain ⟨b, o, rfl, hbB, hc⟩ := hcell (by omega)
        obtain ⟨ka, ki, hn⟩ := hc k hlt
        have hn' := hn.below (hbel.mono hB) hbB
        have c0 := hn'.c0
        have c1 := hn'.c1
        have c2 := hn'.c2
        have c3 := hn'.c3
        have c4 := hn'.c4
        have hin := hideIt hn'.inn
        have hsize := hbel.size
        clear hc hcell hn hn'
        go_wp2_with fail
        refine (szVNode_any B (nodeAt vs k) ka ki _ _ hin.out (by omega) (by omega) (by omega)).mono ?_
        rintro e w' ⟨⟨q', rfl, hq', hsm⟩, hb'⟩
        have hb2 : Below w.heap.size w w' := hbel.trans (hb'.mono hsize)
        have HM := hideIt hsm
        clear hsm
        go_wp2_with fail
        · go_ret
          exact ⟨⟨_, rfl, by omega, fun h => by omega⟩, hb2⟩
        · go_roundw
          case rel =>
            refine ⟨k + 1, _, by omega, by go_num, rfl, by omega, by omega, fun j hj => ?_, hb2⟩
            by_cases e : j = k
            · subst e; exact HM.out (by omega)
            · exact HS.out j (by omega)
          case measure => simp [intOf]; omega
      · obtain rfl : k = vs.length := by omega
        go_wp2_with fail
        go_ret
        exact ⟨⟨_, rfl, by omega, fun _ => ⟨by omega, HS.out⟩⟩, hbel⟩
end Go.Proofs.YtiamkmkbkehldaaGreatDoor
