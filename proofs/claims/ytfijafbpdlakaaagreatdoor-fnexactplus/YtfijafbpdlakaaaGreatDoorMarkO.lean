/-
  impl.unlessWrong, and what a merger answers.
-/
import Derived.Test.YtfijafbpdlakaaaGreatDoorKi
import Derived.Deep.QuietTactic
import Derived.BigQuiet
import Derived.Stop.LaidTwo
import Derived.Test.YtfijafbpdlakaaaGreatDoorStbP
import Derived.Test.YtfijafbpdlakaaaGreatDoorProg
import Derived.Test.YtfijafbpdlakaaaGreatDoorFlat
import Derived.WalkSmall
import Derived.Deep.RegionWith
import Derived.Test.YtfijafbpdlakaaaGreatDoorNest
namespace Go.Proofs.YtfijafbpdlakaaaGreatDoor
open Go.RowKit
set_option linter.unusedSimpArgs false
set_option linter.unusedVariables false

theorem ta_bool_int (x : Value) (w : World) : (Instr.typeAssert (.iface 105 x) 54 86 true).run Tryz.prog w = .ok (.tuple #[.agg #[.int .i64 0], .bool false]) w := by kernel_rfl
theorem ta_bool_list (x : Value) (w : World) : (Instr.typeAssert (.iface 105 x) 54 91 true).run Tryz.prog w = .ok (.tuple #[.agg #[.slice none 0 0], .bool false]) w := by kernel_rfl
theorem ta_text_list (x : Value) (w : World) : (Instr.typeAssert (.iface 89 x) 54 91 true).run Tryz.prog w = .ok (.tuple #[.agg #[.slice none 0 0], .bool false]) w := by kernel_rfl
theorem ta_map_list (x : Value) (w : World) : (Instr.typeAssert (.iface 94 x) 54 91 true).run Tryz.prog w = .ok (.tuple #[.agg #[.slice none 0 0], .bool false]) w := by kernel_rfl
theorem ta_int_list (x : Value) (w : World) : (Instr.typeAssert (.iface 86 x) 54 91 true).run Tryz.prog w = .ok (.tuple #[.agg #[.slice none 0 0], .bool false]) w := by kernel_rfl
theorem ta_list_list (x : Value) (w : World) : (Instr.typeAssert (.iface 91 x) 54 91 true).run Tryz.prog w = .ok (.tuple #[x, .bool true]) w := by kernel_rfl

/-- What the package's variables hold, with the error for what is not right. -/
structure Errs2 (w : World) : Prop where
  errs : Errs w
  right : ∃ te xe, w.cell? ⟨1, 0, none⟩ = some (.iface te xe)

theorem Errs2.below {w w' : World} (h : Errs2 w) (hb : Below w.heap.size w w') : Errs2 w' := by
  obtain ⟨te, xe, hk⟩ := h.right
  exact ⟨h.errs.below hb, ⟨te, xe, (below_cell hb (cell_lt hk)).trans hk⟩⟩

/-- What a merger answers: a value with these nodes, or a refusal with this code. -/
def MergeAns (c : Int) (ns : List VN) (e : Ending) (w : World) : Prop :=
  (c = 0 ∧ ∃ f t ty xv, e = .returned (.tuple #[.iface ty xv, .nilIface]) ∧ TreeAt w.heap.size w f t (.iface ty xv) ∧ layT f t 0 = ns) ∨
  (ns = [] ∧ ∃ v, e = .returned (.tuple #[.nilIface, v]) ∧ Refuses c v)

/-- The code for nodes that may be not right. -/
def rightC (ns : List VN) : Int := if okB ns = true then 0 else 3

set_option maxRecDepth 100000 in
set_option maxHeartbeats 1600000 in
theorem unlessWrong_yes (f : Nat) (t : VT) (x : Value) (ns : List VN) (w : World) (ht : TreeAt w.heap.size w f t x) (hns : layT f t 0 = ns) (hn : ns.length ≤ 100000) (hf : ∀ i, i < ns.length → Fits (nodeAt ns i)) (hE : Errs2 w) (ok : okB ns = true) :
    Calls Tryz.prog 53 #[x] w fun e w' => e = .returned (.tuple #[x, .nilIface]) ∧ Below w.heap.size w w' := by
  obtain ⟨ty, xv, rfl⟩ := ht.iface
  have HT := hideIt ht
  have HNS := hideIt hns
  have HF := hideIt hf
  have HE := hideIt hE
  clear ht hns hf hE
  go_enter Tryz.func53, Tryz.ntmps53
  go_wp2_with fail
  refine (rightNodes_any f t _ ns w HT.out HNS.out hn HF.out).mono ?_
  rintro e w1 ⟨r, base, KV, IV, rfl, _, _, hn1, hb1⟩
  have HB1 := hideIt hb1
  have HE1 := hideIt (HE.out.below hb1)
  have HT1 := hideIt (TreeAt.keep (B' := w1.heap.size) (fun k hk => hb1.block k hk) hb1.size HT.out)
  obtain ⟨ar, cr, er⟩ := own_slice hn1.row
  obtain ⟨N, hN⟩ : ∃ N, (rightNs ns).length = N := ⟨_, rfl⟩
  rw [hN] at er
  subst er
  clear hn1 hb1 hN
  rw [ok]
  go_wp2_with fail
  go_ret2
  exact ⟨rfl, HB1.out⟩

set_option maxRecDepth 100000 in
set_option maxHeartbeats 1600000 in
theorem unlessWrong_no (f : Nat) (t : VT) (x : Value) (ns : List VN) (w : World) (ht : TreeAt w.heap.size w f t x) (hns : layT f t 0 = ns) (hn : ns.length ≤ 100000) (hf : ∀ i, i < ns.length → Fits (nodeAt ns i)) (hE : Errs2 w) (ok : okB ns = false) :
    Calls Tryz.prog 53 #[x] w fun e w' => ∃ te xe, e = .returned (.tuple #[.nilIface, .iface 115 (.agg #[.int .i64 3, .iface te xe])]) ∧ Below w.heap.size w w' := by
  obtain ⟨ty, xv, rfl⟩ := ht.iface
  have HT := hideIt ht
  have HNS := hideIt hns
  have HF := hideIt hf
  have HE := hideIt hE
  clear ht hns hf hE
  go_enter Tryz.func53, Tryz.ntmps53
  go_wp2_with fail
  refine (rightNodes_any f t _ ns w HT.out HNS.out hn HF.out).mono ?_
  rintro e w1 ⟨r, base, KV, IV, rfl, _, _, hn1, hb1⟩
  have HB1 := hideIt hb1
  have HE1 := hideIt (HE.out.below hb1)
  have HT1 := hideIt (TreeAt.keep (B' := w1.heap.size) (fun k hk => hb1.block k hk) hb1.size HT.out)
  obtain ⟨ar, cr, er⟩ := own_slice hn1.row
  obtain ⟨N, hN⟩ : ∃ N, (rightNs ns).length = N := ⟨_, rfl⟩
  rw [hN] at er
  subst er
  clear hn1 hb1 hN
  rw [ok]
  obtain ⟨te, xe, hk⟩ := HE1.out.right
  go_wp2_with fail
  go_quiet (fail)
  go_wp2_with fail
  go_ret2
  exact ⟨te, xe, rfl, below_drewN HB1.out nq⟩

theorem call_unless (v : Value) : ∀ w, (callFunc 53 #[v]).run Tryz.prog w = .ok (.enter 53 #[v]) w := fun w => by kernel_rfl
end Go.Proofs.YtfijafbpdlakaaaGreatDoor

/-
  What the listed variables give a walk, where there are two errors of the program.
-/
namespace Go.Proofs.YtfijafbpdlakaaaGreatDoor
open Go.ChangeShapes Go.WideShapes Go.ChangeAt Go.RowKit
set_option linter.unusedVariables false

theorem ev_gn : Tryz.prog.globalNamed "loop.example/g00345/impl.errNotRight" = some 1 := by kernel_rfl
theorem ev_gnType : (Tryz.prog.globals[1]?).map (·.type) = some 82 := by kernel_rfl

theorem ev_cell0 {W : World} {x : Addr} (h : W.var? Tryz.prog "loop.example/g00345/impl.errKind" = some #[.iface 184 (.pointer (some x))]) : W.cell? ⟨0, 0, none⟩ = some (.iface 184 (.pointer (some x))) := by simpa using World.var?_cell ev_gk h 0
theorem ev_cell1 {W : World} {x : Addr} (h : W.var? Tryz.prog "loop.example/g00345/impl.errNotRight" = some #[.iface 184 (.pointer (some x))]) : W.cell? ⟨1, 0, none⟩ = some (.iface 184 (.pointer (some x))) := by simpa using World.var?_cell ev_gn h 0

theorem ev_errs2 {W : World} (h : laidMet Tryz.prog [("loop.example/g00345/impl.errKind", Rows.laid_loop_example_g00345_impl_errKind), ("loop.example/g00345/impl.errNotRight", Rows.laid_loop_example_g00345_impl_errNotRight)] W) (hh : handlesMet Tryz.prog [("errors.errorType", Rows.laid_errors_errorType)] W) :
    Errs2 W ∧ ∃ x0 x1 : Addr, W.var? Tryz.prog "loop.example/g00345/impl.errKind" = some #[.iface 184 (.pointer (some x0))] ∧ W.var? Tryz.prog "loop.example/g00345/impl.errNotRight" = some #[.iface 184 (.pointer (some x1))] := by
  obtain ⟨x0, x1, s0, s1, c0, c1, t0, t1, hv0, hv1, _⟩ := laid_sentinels2 h ev_gk ev_gkType ev_gn ev_gnType Tryz.underlying82 ev_row Tryz.underlying184 Tryz.underlying204 rfl rfl Tryz.underlying9 ev_cellsE ev_cellsS
  exact ⟨⟨⟨ev_handle hh, ⟨_, _, ev_cell0 hv0⟩⟩, ⟨_, _, ev_cell1 hv1⟩⟩, x0, x1, hv0, hv1⟩

theorem ev_read2 {H : Type} (enc : TypeId × Value → H) {W : World} {x0 x1 : Addr} (h0 : W.var? Tryz.prog "loop.example/g00345/impl.errKind" = some #[.iface 184 (.pointer (some x0))]) (h1 : W.var? Tryz.prog "loop.example/g00345/impl.errNotRight" = some #[.iface 184 (.pointer (some x1))]) (sp : Nat → Bool) :
    DataW.TrodVars enc Tryz.prog W sp ["loop.example/g00345/impl.errKind", "loop.example/g00345/impl.errNotRight"] [tok enc (.iface 184 (.pointer (some x0))), tok enc (.iface 184 (.pointer (some x1)))] [.cell 0 0, .cell 1 0] :=
  Go.vars_read2 enc ev_gk ev_gkType Tryz.underlying82 h0 trivial ev_gn ev_gnType Tryz.underlying82 h1 trivial sp
end Go.Proofs.YtfijafbpdlakaaaGreatDoor

/-
  The four functions that take sizes from a budget: each returns a number and only makes new memory; where the number is not below 0, nothing is greater than the budget was.
-/
namespace Go.Proofs.YtfijafbpdlakaaaGreatDoor
open Go.RowKit
set_option linter.unusedSimpArgs false
set_option linter.unusedVariables false

set_option maxHeartbeats 400000 in
theorem szInt64S_any (B : Nat) (v : Value) (l : List Int) (r : Int) (w : World) (h : RawInts B w v l) (h1 : 0 ≤ r) (h2 : r ≤ 1048576) :
    Calls Tryz.prog 66 #[v, .int .i64 r] w fun e w' => (∃ q, e = .returned (.int .i64 q) ∧ q ≤ 1048576 ∧ (0 ≤ q → l.length ≤ 1048576)) ∧ w' = w := by
  obtain ⟨hlen, _, a, cap, rfl, _⟩ := h
  go_enter Tryz.func66, Tryz.ntmps66
  go_wp2
  · go_ret
    exact ⟨⟨_, rfl, by omega, fun h => by omega⟩, rfl⟩
  · go_ret
    exact ⟨⟨_, rfl, by omega, fun h => by omega⟩, rfl⟩

set_option maxHeartbeats 400000 in
theorem szStringS_any (B : Nat) (v : Value) (l : List ByteArray) (r : Int) (w : World) (h : RawStrs B w v l) (h1 : 0 ≤ r) (h2 : r ≤ 1048576) :
    Calls Tryz.prog 65 #[v, .int .i64 r] w fun e w' => (∃ q, e = .returned (.int .i64 q) ∧ q ≤ 1048576 ∧ (0 ≤ q → l.length ≤ 1048576 ∧ ∀ i, i < l.length → (keyAt l i).size ≤ 1048576)) ∧ w' = w := by
  obtain ⟨hlen, hsz, a, cap, rfl, hcell⟩ := h
  go_enter Tryz.func65, Tryz.ntmps65
  go_wp2
  · go_ret
    exact ⟨⟨_, rfl, by omega, fun h => by omega⟩, rfl⟩
  · go_loop [1, 5] (fun t i => ∃ (k : Nat) (q : Int), k ≤ l.length ∧ i = .int .i64 k ∧ t = .int .i64 q ∧ 0 ≤ q ∧ q ≤ 1048576 ∧ Hid (∀ j, j < k → (keyAt l j).size ≤ 1048576)) (fun _ i => l.length - (intOf i).toNat)
    case atStart => exact ⟨0, _, Nat.zero_le _, rfl, rfl, by omega, by omega, fun j hj => by omega⟩
    case round =>
      obtain ⟨k, q, hk, rfl, rfl, hq0, hq1, HS⟩ := hrel
      by_cases hlt : k < l.length
      · obtain ⟨b, o, rfl, _, hc⟩ := hcell (by omega)
        have hck := hc k hlt
        have hs := hsz k hlt
        clear hc hcell hsz
        go_wp2
        · go_ret
          exact ⟨⟨_, rfl, by omega, fun h => by omega⟩, rfl⟩
        · go_round
          case rel =>
            refine ⟨k + 1, _, by omega, by go_num, rfl, by omega, by omega, fun j hj => ?_⟩
            by_cases e : j = k
            · subst e; omega
            · exact HS.out j (by omega)
          case measure => simp [intOf]; omega
      · obtain rfl : k = l.length := by omega
        go_wp2
        go_ret
        exact ⟨⟨_, rfl, by omega, fun _ => ⟨by omega, HS.out⟩⟩, rfl⟩

set_option maxHeartbeats 800000 in
theorem szVNode_any (B : Nat) (x : VN) (ka ki : Value) (r : Int) (w : World) (h : RawIn B w x ka ki) (hB : B ≤ w.heap.size) (h1 : 0 ≤ r) (h2 : r ≤ 1048576) :
    Calls Tryz.prog 34 #[.agg #[.int .i64 x.kind, .int .i64 x.n, .string x.s, ka, ki], .int .i64 r] w fun e w' => (∃ q, e = .returned (.int .i64 q) ∧ q ≤ 1048576 ∧ (0 ≤ q → Small x)) ∧ Below w.heap.size w w' := by
  have hsz := h.size
  obtain ⟨_, _, a1, c1, e1, _⟩ := h.keys
  obtain ⟨_, _, a2, c2, e2, _⟩ := h.kids
  have hbel : ∀ (o : Obj), Below w.heap.size w (w.alloc o) := fun o => (Below.refl _ _).alloc (Nat.le_refl _) o
  have H := hideIt h
  subst e1 e2
  clear h
  go_enter Tryz.func34, Tryz.ntmps34
  go_wp2_with fail
  · go_ret
    exact ⟨⟨_, rfl, by omega, fun h => by omega⟩, hbel _⟩
  · refine (szStringS_any B _ _ _ _ (H.out.keys.below ((hbel _).mono hB)) (by omega) (by omega)).mono ?_
    rintro e w' ⟨⟨q, rfl, hq, hk⟩, rfl⟩
    have HK := hideIt hk
    have hle : (x.s.size : Int) ≤ 1048576 := by omega
    clear hk
    go_wp2_with fail
    · go_ret
      exact ⟨⟨_, rfl, by omega, fun h => by omega⟩, hbel _⟩
    · refine (szInt64S_any B _ _ _ _ (H.out.kids.below ((hbel _).mono hB)) (by omega) (by omega)).mono ?_
      rintro e w' ⟨⟨q', rfl, hq', hk'⟩, rfl⟩
      have HK' := hideIt hk'
      clear hk'
      have h0 : 0 ≤ q := by omega
      go_wp2_with fail
      · go_ret
        exact ⟨⟨_, rfl, by omega, fun h => by omega⟩, hbel _⟩
      · go_ret
        exact ⟨⟨_, rfl, by omega, fun h => ⟨by omega, (HK.out h0).1, (HK.out h0).2, HK'.out h⟩⟩, hbel _⟩

set_option maxHeartbeats 800000 in
theorem szVNodeS_any (B : Nat) (v : Value) (vs : List VN) (r : Int) (w : World) (h : RawNodes B w v vs) (hB : B ≤ w.heap.size) (h1 : 0 ≤ r) (h2 : r ≤ 1048576) :
    Calls Tryz.prog 16 #[v, .int .i64 r] w fun e w' => (∃ q, e = .returned (.int .i64 q) ∧ q ≤ 1048576 ∧ (0 ≤ q → vs.length ≤ 1048576 ∧ ∀ i, i < vs.length → Small (nodeAt vs i))) ∧ Below w.heap.size w w' := by
  obtain ⟨hlen, a, cap, rfl, hcell⟩ := h
  go_enter Tryz.func16, Tryz.ntmps16
  go_wp2_with fail
  · go_ret
    exact ⟨⟨_, rfl, by omega, fun h => by omega⟩, Below.refl _ _⟩
  · go_loopw [1, 5] (fun t i wr => ∃ (k : Nat) (q : Int), k ≤ vs.length ∧ i = .int .i64 k ∧ t = .int .i64 q ∧ 0 ≤ q ∧ q ≤ 1048576 ∧ Hid (∀ j, j < k → Small (nodeAt vs j)) ∧ Below w.heap.size w wr) (fun _ i _ => vs.length - (intOf i).toNat)
    case atStart => exact ⟨0, _, Nat.zero_le _, rfl, rfl, by omega, by omega, fun j hj => by omega, Below.refl _ _⟩
    case round =>
      obtain ⟨k, q, hk, rfl, rfl, hq0, hq1, HS, hbel⟩ := hrel
      by_cases hlt : k < vs.length
      · obtain ⟨b, o, rfl, hbB, hc⟩ := hcell (by omega)
        obtain ⟨ka, ki, hn⟩ := hc k hlt
        have hn' := hn.below (hbel.mono hB) hbB
        have c0 := hn'.c0
        have c1 := hn'.c1
        have c2 := hn'.c2
        have c3 := hn'.c3
        have c4 := hn'.c4
        have hin := hideIt hn'.inn
        have hsize := hbel.size
        clear hc hcell hn hn'
        go_wp2_with fail
        refine (szVNode_any B (nodeAt vs k) ka ki _ _ hin.out (by omega) (by omega) (by omega)).mono ?_
        rintro e w' ⟨⟨q', rfl, hq', hsm⟩, hb'⟩
        have hb2 : Below w.heap.size w w' := hbel.trans (hb'.mono hsize)
        have HM := hideIt hsm
        clear hsm
        go_wp2_with fail
        · go_ret
          exact ⟨⟨_, rfl, by omega, fun h => by omega⟩, hb2⟩
        · go_roundw
          case rel =>
            refine ⟨k + 1, _, by omega, by go_num, rfl, by omega, by omega, fun j hj => ?_, hb2⟩
            by_cases e : j = k
            · subst e; exact HM.out (by omega)
            · exact HS.out j (by omega)
          case measure => simp [intOf]; omega
      · obtain rfl : k = vs.length := by omega
        go_wp2_with fail
        go_ret
        exact ⟨⟨_, rfl, by omega, fun _ => ⟨by omega, HS.out⟩⟩, hbel⟩
end Go.Proofs.YtfijafbpdlakaaaGreatDoor

/-
  The functions that hold two lists, two nodes, two values against each other: of what holds the same they say true.
-/
namespace Go.Proofs.YtfijafbpdlakaaaGreatDoor
open Go.RowKit
set_option linter.unusedSimpArgs false
set_option linter.unusedVariables false

set_option maxHeartbeats 800000 in
theorem eqInt64S_any (B : Nat) (v1 v2 : Value) (l : List Int) (w : World) (h1 : IntsAt B w v1 l) (h2 : IntsAt B w v2 l) (hB : B ≤ w.heap.size) :
    Calls Tryz.prog 70 #[v1, v2] w fun e w' => e = .returned (.bool true) ∧ Below w.heap.size w w' := by
  obtain ⟨hlen, _, a1, cap1, rfl, hcell1⟩ := h1
  obtain ⟨_, _, a2, cap2, rfl, hcell2⟩ := h2
  have hne : ((l.length : Int) != (l.length : Int)) = false := by simp
  go_enter Tryz.func70, Tryz.ntmps70
  go_wp2_with fail
  go_loopw [5] (fun i wr => ∃ k : Nat, k ≤ l.length ∧ i = .int .i64 k ∧ Below w.heap.size w wr) (fun i _ => l.length - (intOf i).toNat)
  case atStart => exact ⟨0, Nat.zero_le _, rfl, Below.refl _ _⟩
  case round =>
    obtain ⟨k, hk, rfl, hbel⟩ := hrel
    by_cases hlt : k < l.length
    · obtain ⟨b1, o1, rfl, hb1, hc1⟩ := hcell1 (by omega)
      obtain ⟨b2, o2, rfl, hb2, hc2⟩ := hcell2 (by omega)
      have d1 := (below_cell (o := o1 + k) hbel (show b1 < w.heap.size by omega)).trans (hc1 k hlt)
      have d2 := (below_cell (o := o2 + k) hbel (show b2 < w.heap.size by omega)).trans (hc2 k hlt)
      clear hc1 hc2 hcell1 hcell2
      go_wp2_with fail
      go_quiet (fail)
      go_wp2_with fail
      go_roundw
      case rel => exact ⟨k + 1, by omega, by go_num, below_drewN hbel nq⟩
      case measure => simp [intOf]; omega
    · go_wp2_with fail
      go_ret
      exact ⟨rfl, hbel⟩

set_option maxHeartbeats 800000 in
theorem eqStringS_any (B : Nat) (v1 v2 : Value) (l : List ByteArray) (w : World) (h1 : StrsAt B w v1 l) (h2 : StrsAt B w v2 l) (hB : B ≤ w.heap.size) :
    Calls Tryz.prog 69 #[v1, v2] w fun e w' => e = .returned (.bool true) ∧ Below w.heap.size w w' := by
  obtain ⟨hlen, _, a1, cap1, rfl, hcell1⟩ := h1
  obtain ⟨_, _, a2, cap2, rfl, hcell2⟩ := h2
  have hne : ((l.length : Int) != (l.length : Int)) = false := by simp
  go_enter Tryz.func69, Tryz.ntmps69
  go_wp2_with fail
  go_loopw [5] (fun i wr => ∃ k : Nat, k ≤ l.length ∧ i = .int .i64 k ∧ Below w.heap.size w wr) (fun i _ => l.length - (intOf i).toNat)
  case atStart => exact ⟨0, Nat.zero_le _, rfl, Below.refl _ _⟩
  case round =>
    obtain ⟨k, hk, rfl, hbel⟩ := hrel
    by_cases hlt : k < l.length
    · obtain ⟨b1, o1, rfl, hb1, hc1⟩ := hcell1 (by omega)
      obtain ⟨b2, o2, rfl, hb2, hc2⟩ := hcell2 (by omega)
      have d1 := (below_cell (o := o1 + k) hbel (show b1 < w.heap.size by omega)).trans (hc1 k hlt)
      have d2 := (below_cell (o := o2 + k) hbel (show b2 < w.heap.size by omega)).trans (hc2 k hlt)
      clear hc1 hc2 hcell1 hcell2
      go_wp2_with fail
      go_quiet (fail)
      go_wp2_with fail
      go_roundw
      case rel => exact ⟨k + 1, by omega, by go_num, below_drewN hbel nq⟩
      case measure => simp [intOf]; omega
    · go_wp2_with fail
      go_ret
      exact ⟨rfl, hbel⟩

set_option maxHeartbeats 1600000 in
theorem eqVNode_any (B : Nat) (x : VN) (ka ki ka' ki' : Value) (w : World) (h : NodeIn B w x ka ki) (h' : NodeIn B w x ka' ki') (hB : B ≤ w.heap.size) :
    Calls Tryz.prog 36 #[.agg #[.int .i64 x.kind, .int .i64 x.n, .string x.s, ka, ki], .agg #[.int .i64 x.kind, .int .i64 x.n, .string x.s, ka', ki']] w fun e w' => e = .returned (.bool true) ∧ Below w.heap.size w w' := by
  obtain ⟨_, _, a1, c1, e1, _⟩ := h.keys
  obtain ⟨_, _, a2, c2, e2, _⟩ := h.kids
  obtain ⟨_, _, a3, c3, e3, _⟩ := h'.keys
  obtain ⟨_, _, a4, c4, e4, _⟩ := h'.kids
  have H : Hid (NodeIn B w x ka ki) := h
  have H' : Hid (NodeIn B w x ka' ki') := h'
  have f1 : (x.kind != x.kind) = false := by simp
  have f2 : (x.n != x.n) = false := by simp
  have f3 : (x.s.toList == x.s.toList) = true := by simp
  subst e1 e2 e3 e4
  clear h h'
  have hb0 : ∀ (o o' : Obj), Below w.heap.size w ((w.alloc o).alloc o') := fun o o' => ((Below.refl _ _).alloc (Nat.le_refl _) _).alloc (by simp) _
  go_enter Tryz.func36, Tryz.ntmps36
  go_wp2_with fail
  refine (eqStringS_any B _ _ x.keys _ (H.out.keys.below ((hb0 _ _).mono hB)) (H'.out.keys.below ((hb0 _ _).mono hB)) (by simp; omega)).mono ?_
  rintro e w1 ⟨rfl, hb1⟩
  have hc1 : ∀ b o, b < w.heap.size + 1 + 1 → w1.cell? ⟨b, o, none⟩ = _ := fun b o h => hb1.cell (p := ⟨b, o, none⟩) (by simpa using h)
  have hz1 := hb1.size
  simp only [World.size_alloc] at hz1
  have hB1 : Below w.heap.size w w1 := (hb0 _ _).trans (hb1.mono (by simp; omega))
  go_wp2_with fail
  refine (eqInt64S_any B _ _ x.kids _ (H.out.kids.below (hB1.mono hB)) (H'.out.kids.below (hB1.mono hB)) (by omega)).mono ?_
  rintro e w2 ⟨rfl, hb2⟩
  go_wp2_with fail
  go_ret
  exact ⟨rfl, hB1.trans (hb2.mono (by omega))⟩

set_option maxHeartbeats 1600000 in
theorem eqVNodeS_any (B : Nat) (v1 v2 : Value) (vs : List VN) (w : World) (h1 : NodesAt B w v1 vs) (h2 : NodesAt B w v2 vs) (hB : B ≤ w.heap.size) :
    Calls Tryz.prog 18 #[v1, v2] w fun e w' => e = .returned (.bool true) ∧ Below w.heap.size w w' := by
  obtain ⟨hlen, a1, cap1, rfl, hcell1⟩ := h1
  obtain ⟨_, a2, cap2, rfl, hcell2⟩ := h2
  have hne : ((vs.length : Int) != (vs.length : Int)) = false := by simp
  go_enter Tryz.func18, Tryz.ntmps18
  go_wp2_with fail
  go_loopw [5] (fun i wr => ∃ k : Nat, k ≤ vs.length ∧ i = .int .i64 k ∧ Below w.heap.size w wr) (fun i _ => vs.length - (intOf i).toNat)
  case atStart => exact ⟨0, Nat.zero_le _, rfl, Below.refl _ _⟩
  case round =>
    obtain ⟨k, hk, rfl, hbel⟩ := hrel
    by_cases hlt : k < vs.length
    · obtain ⟨b1, o1, rfl, hb1, hc1⟩ := hcell1 (by omega)
      obtain ⟨b2, o2, rfl, hb2, hc2⟩ := hcell2 (by omega)
      obtain ⟨ka, ki, hn⟩ := hc1 k hlt
      obtain ⟨ka', ki', hn'⟩ := hc2 k hlt
      have g := hn.below (hbel.mono hB) hb1
      have g' := hn'.below (hbel.mono hB) hb2
      have c0 := g.c0
      have c1 := g.c1
      have c2 := g.c2
      have c3 := g.c3
      have c4 := g.c4
      have d0 := g'.c0
      have d1 := g'.c1
      have d2 := g'.c2
      have d3 := g'.c3
      have d4 := g'.c4
      have hin := g.inn
      have hin' := g'.inn
      have hsize := hbel.size
      clear hc1 hc2 hcell1 hcell2 hn hn' g g'
      go_wp2_with fail
      go_region_with (go_at_call 36; refine (eqVNode_any B (nodeAt vs k) ka ki ka' ki' _ ?_ ?_ ?_).mono ?_; exact hin.below (bsame rfl rfl rfl rfl); exact hin'.below (bsame rfl rfl rfl rfl); exact (by simp; omega); rintro e w1 ⟨rfl, hq⟩)
      all_goals
        have hb2 : Below w.heap.size w w1 := hbel.drew.trans (hq.mono (by simpa using hsize))
        go_wp2_with fail
        go_roundw
        case rel => exact ⟨k + 1, by omega, by go_num, hb2⟩
        case measure => simp [intOf]; omega
    · go_wp2_with fail
      go_ret
      exact ⟨rfl, hbel⟩
end Go.Proofs.YtfijafbpdlakaaaGreatDoor

/-
  Copies that the laws make have memory of their own: they can be marked.
-/
namespace Go.Proofs.YtfijafbpdlakaaaGreatDoor
open Go.RowKit
set_option linter.unusedSimpArgs false
set_option linter.unusedVariables false

theorem rowW {w : World} {b t n : Nat} {f : Nat → Value} (h : w.rowIs b t n f) : WRow w b n := fun j hj => ⟨⟨_, h.cell hj⟩, h.frozen j⟩

theorem OwnAt.marky {w : World} {b : Nat} {vs : List VN} {KB KI : Nat → Nat} (h : OwnAt w b vs KB KI) (hn : vs.length ≤ 1048576) (hk : ∀ i, i < vs.length → (nodeAt vs i).keys.length ≤ 1048576 ∧ (nodeAt vs i).kids.length ≤ 1048576) :
    Marky b w b vs.length (fun i => (nodeAt vs i).keys.length) (fun i => (nodeAt vs i).kids.length) KB KI := by
  have mono : ∀ i j, i < vs.length → j < vs.length → i ≠ j → KI i < KB j ∨ KI j < KB i := by
    intro i j hi hj e
    rcases Nat.lt_or_gt_of_ne e with e | e
    · exact Or.inl (h.to.mono i j e hj)
    · exact Or.inr (h.to.mono j i e hi)
  refine ⟨Nat.le_refl _, h.row.lt, hn, rowW h.row, hk, fun i hi => ?_, fun i hi => ?_, fun i hi => ?_, fun i j hi hj e _ _ => ?_, fun i j hi hj _ _ => ?_, fun i j hi hj e _ _ => ?_⟩
  · refine ⟨_, _, by rw [h.row.cell (by omega), nodeCell3], fun _ => ⟨rfl, ?_, (h.to.rk i hi).lt, rowW (h.to.rk i hi)⟩⟩
    have := h.to.lo i hi
    omega
  · refine ⟨_, _, by rw [h.row.cell (by omega), nodeCell4], fun _ => ⟨rfl, ?_, (h.to.ri i hi).lt, rowW (h.to.ri i hi)⟩⟩
    have := h.to.lo i hi
    omega
  · have := h.to.lo i hi
    exact ⟨fun _ => by omega, fun _ => by omega⟩
  · have := h.to.lo i hi
    have := h.to.lo j hj
    have := mono i j hi hj e
    omega
  · have := h.to.lo i hi
    have := h.to.lo j hj
    by_cases e : i = j
    · subst e; omega
    · have := mono i j hi hj e
      omega
  · have := h.to.lo i hi
    have := h.to.lo j hj
    have := mono i j hi hj e
    omega

/-- The blocks that the marks of such a copy write: from its row on, and below its end. -/
theorem OwnAt.marked {w : World} {b x : Nat} {vs : List VN} {KB KI : Nat → Nat} (h : OwnAt w b vs KB KI) (hx : Marked b vs.length (fun i => (nodeAt vs i).keys.length) (fun i => (nodeAt vs i).kids.length) KB KI x) : b ≤ x ∧ x < w.heap.size := by
  obtain ⟨_, rfl | ⟨i, hi, ⟨_, rfl⟩ | ⟨_, rfl⟩⟩⟩ := hx
  · exact ⟨Nat.le_refl _, h.row.lt⟩
  · have := h.to.lo i hi
    exact ⟨by omega, (h.to.rk i hi).lt⟩
  · have := h.to.lo i hi
    exact ⟨by omega, (h.to.ri i hi).lt⟩
end Go.Proofs.YtfijafbpdlakaaaGreatDoor
