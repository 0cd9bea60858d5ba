/-
  impl.unlessWrong, and what a merger answers.
-/
import Derived.Test.YtbcbcmbheglfhaaGreatDoorKi
import Derived.Deep.QuietTactic
import Derived.BigQuiet
import Derived.Stop.LaidTwo
import Derived.Test.YtbcbcmbheglfhaaGreatDoorStbP
import Derived.Test.YtbcbcmbheglfhaaGreatDoorProg
namespace Go.Proofs.YtbcbcmbheglfhaaGreatDoor
open Go.RowKit
set_option linter.unusedSimpArgs false
set_option linter.unusedVariables false

theorem ta_bool_int (x : Value) (w : World) : (Instr.typeAssert (.iface 109 x) 61 81 true).run Tryz.prog w = .ok (.tuple #[.agg #[.int .i64 0], .bool false]) w := by kernel_rfl
theorem ta_bool_list (x : Value) (w : World) : (Instr.typeAssert (.iface 109 x) 61 84 true).run Tryz.prog w = .ok (.tuple #[.agg #[.slice none 0 0], .bool false]) w := by kernel_rfl
theorem ta_text_list (x : Value) (w : World) : (Instr.typeAssert (.iface 96 x) 61 84 true).run Tryz.prog w = .ok (.tuple #[.agg #[.slice none 0 0], .bool false]) w := by kernel_rfl
theorem ta_map_list (x : Value) (w : World) : (Instr.typeAssert (.iface 99 x) 61 84 true).run Tryz.prog w = .ok (.tuple #[.agg #[.slice none 0 0], .bool false]) w := by kernel_rfl
theorem ta_int_list (x : Value) (w : World) : (Instr.typeAssert (.iface 81 x) 61 84 true).run Tryz.prog w = .ok (.tuple #[.agg #[.slice none 0 0], .bool false]) w := by kernel_rfl
theorem ta_list_list (x : Value) (w : World) : (Instr.typeAssert (.iface 84 x) 61 84 true).run Tryz.prog w = .ok (.tuple #[x, .bool true]) w := by kernel_rfl

/-- What the package's variables hold, with the error for what is not right. -/
structure Errs2 (w : World) : Prop where
  errs : Errs w
  right : ∃ te xe, w.cell? ⟨1, 0, none⟩ = some (.iface te xe)

theorem Errs2.below {w w' : World} (h : Errs2 w) (hb : Below w.heap.size w w') : Errs2 w' := by
  obtain ⟨te, xe, hk⟩ := h.right
  exact ⟨h.errs.below hb, ⟨te, xe, (below_cell hb (cell_lt hk)).trans hk⟩⟩

/-- What a merger answers: a value with these nodes, or a refusal with this code. -/
def MergeAns (c : Int) (ns : List VN) (e : Ending) (w : World) : Prop :=
  (c = 0 ∧ ∃ f t ty xv, e = .returned (.tuple #[.iface ty xv, .nilIface]) ∧ TreeAt w.heap.size w f t (.iface ty xv) ∧ layT f t 0 = ns) ∨
  (ns = [] ∧ ∃ v, e = .returned (.tuple #[.nilIface, v]) ∧ Refuses c v)

/-- The code for nodes that may be not right. -/
def rightC (ns : List VN) : Int := if okB ns = true then 0 else 3

set_option maxRecDepth 100000 in
set_option maxHeartbeats 1600000 in
theorem unlessWrong_yes (f : Nat) (t : VT) (x : Value) (ns : List VN) (w : World) (ht : TreeAt w.heap.size w f t x) (hns : layT f t 0 = ns) (hn : ns.length ≤ 100000) (hf : ∀ i, i < ns.length → Fits (nodeAt ns i)) (hE : Errs2 w) (ok : okB ns = true) :
    Calls Tryz.prog 53 #[x] w fun e w' => e = .returned (.tuple #[x, .nilIface]) ∧ Below w.heap.size w w' := by
  obtain ⟨ty, xv, rfl⟩ := ht.iface
  have HT := hideIt ht
  have HNS := hideIt hns
  have HF := hideIt hf
  have HE := hideIt hE
  clear ht hns hf hE
  go_enter Tryz.func53, Tryz.ntmps53
  go_wp2_with fail
  refine (rightNodes_any f t _ ns w HT.out HNS.out hn HF.out).mono ?_
  rintro e w1 ⟨r, base, KV, IV, rfl, _, _, hn1, hb1⟩
  have HB1 := hideIt hb1
  have HE1 := hideIt (HE.out.below hb1)
  have HT1 := hideIt (TreeAt.keep (B' := w1.heap.size) (fun k hk => hb1.block k hk) hb1.size HT.out)
  obtain ⟨ar, cr, er⟩ := own_slice hn1.row
  obtain ⟨N, hN⟩ : ∃ N, (rightNs ns).length = N := ⟨_, rfl⟩
  rw [hN] at er
  subst er
  clear hn1 hb1 hN
  rw [ok]
  go_wp2_with fail
  go_ret2
  exact ⟨rfl, HB1.out⟩

set_option maxRecDepth 100000 in
set_option maxHeartbeats 1600000 in
theorem unlessWrong_no (f : Nat) (t : VT) (x : Value) (ns : List VN) (w : World) (ht : TreeAt w.heap.size w f t x) (hns : layT f t 0 = ns) (hn : ns.length ≤ 100000) (hf : ∀ i, i < ns.length → Fits (nodeAt ns i)) (hE : Errs2 w) (ok : okB ns = false) :
    Calls Tryz.prog 53 #[x] w fun e w' => ∃ te xe, e = .returned (.tuple #[.nilIface, .iface 115 (.agg #[.int .i64 3, .iface te xe])]) ∧ Below w.heap.size w w' := by
  obtain ⟨ty, xv, rfl⟩ := ht.iface
  have HT := hideIt ht
  have HNS := hideIt hns
  have HF := hideIt hf
  have HE := hideIt hE
  clear ht hns hf hE
  go_enter Tryz.func53, Tryz.ntmps53
  go_wp2_with fail
  refine (rightNodes_any f t _ ns w HT.out HNS.out hn HF.out).mono ?_
  rintro e w1 ⟨r, base, KV, IV, rfl, _, _, hn1, hb1⟩
  have HB1 := hideIt hb1
  have HE1 := hideIt (HE.out.below hb1)
  have HT1 := hideIt (TreeAt.keep (B' := w1.heap.size) (fun k hk => hb1.block k hk) hb1.size HT.out)
  obtain ⟨ar, cr, er⟩ := own_slice hn1.row
  obtain ⟨N, hN⟩ : ∃ N, (rightNs ns).length = N := ⟨_, rfl⟩
  rw [hN] at er
  subst er
  clear hn1 hb1 hN
  rw [ok]
  obtain ⟨te, xe, hk⟩ := HE1.out.right
  go_wp2_with fail
  go_quiet (fail)
  go_wp2_with fail
  go_ret2
  exact ⟨te, xe, rfl, below_drewN HB1.out nq⟩

theorem call_unless (v : Value) : ∀ w, (callFunc 53 #[v]).run Tryz.prog w = .ok (.enter 53 #[v]) w := fun w => by kernel_rfl
end Go.Proofs.YtbcbcmbheglfhaaGreatDoor

/-
  What the listed variables give a walk, where there are two errors of the program.
-/
namespace Go.Proofs.YtbcbcmbheglfhaaGreatDoor
open Go.ChangeShapes Go.WideShapes Go.ChangeAt Go.RowKit
set_option linter.unusedVariables false

theorem ev_gn : Tryz.prog.globalNamed "loop.example/g00345/impl.errNotRight" = some 1 := by kernel_rfl
theorem ev_gnType : (Tryz.prog.globals[1]?).map (·.type) = some 76 := by kernel_rfl

theorem ev_cell0 {W : World} {x : Addr} (h : W.var? Tryz.prog "loop.example/g00345/impl.errKind" = some #[.iface 184 (.pointer (some x))]) : W.cell? ⟨0, 0, none⟩ = some (.iface 184 (.pointer (some x))) := by simpa using World.var?_cell ev_gk h 0
theorem ev_cell1 {W : World} {x : Addr} (h : W.var? Tryz.prog "loop.example/g00345/impl.errNotRight" = some #[.iface 184 (.pointer (some x))]) : W.cell? ⟨1, 0, none⟩ = some (.iface 184 (.pointer (some x))) := by simpa using World.var?_cell ev_gn h 0

theorem ev_errs2 {W : World} (h : laidMet Tryz.prog [("loop.example/g00345/impl.errKind", Rows.laid_loop_example_g00345_impl_errKind), ("loop.example/g00345/impl.errNotRight", Rows.laid_loop_example_g00345_impl_errNotRight)] W) (hh : handlesMet Tryz.prog [("errors.errorType", Rows.laid_errors_errorType)] W) :
    Errs2 W ∧ ∃ x0 x1 : Addr, W.var? Tryz.prog "loop.example/g00345/impl.errKind" = some #[.iface 184 (.pointer (some x0))] ∧ W.var? Tryz.prog "loop.example/g00345/impl.errNotRight" = some #[.iface 184 (.pointer (some x1))] := by
  obtain ⟨x0, x1, s0, s1, c0, c1, t0, t1, hv0, hv1, _⟩ := laid_sentinels2 h ev_gk ev_gkType ev_gn ev_gnType Tryz.underlying76 ev_row Tryz.underlying184 Tryz.underlying204 rfl rfl Tryz.underlying9 ev_cellsE ev_cellsS
  exact ⟨⟨⟨ev_handle hh, ⟨_, _, ev_cell0 hv0⟩⟩, ⟨_, _, ev_cell1 hv1⟩⟩, x0, x1, hv0, hv1⟩

theorem ev_read2 {H : Type} (enc : TypeId × Value → H) {W : World} {x0 x1 : Addr} (h0 : W.var? Tryz.prog "loop.example/g00345/impl.errKind" = some #[.iface 184 (.pointer (some x0))]) (h1 : W.var? Tryz.prog "loop.example/g00345/impl.errNotRight" = some #[.iface 184 (.pointer (some x1))]) (sp : Nat → Bool) :
    DataW.TrodVars enc Tryz.prog W sp ["loop.example/g00345/impl.errKind", "loop.example/g00345/impl.errNotRight"] [tok enc (.iface 184 (.pointer (some x0))), tok enc (.iface 184 (.pointer (some x1)))] [.cell 0 0, .cell 1 0] :=
  Go.vars_read2 enc ev_gk ev_gkType Tryz.underlying76 h0 trivial ev_gn ev_gnType Tryz.underlying76 h1 trivial sp
end Go.Proofs.YtbcbcmbheglfhaaGreatDoor

/-
  The four functions that take sizes from a budget: each returns a number and only makes new memory; where the number is not below 0, nothing is greater than the budget was.
-/
namespace Go.Proofs.YtbcbcmbheglfhaaGreatDoor
open Go.RowKit
set_option linter.unusedSimpArgs false
set_option linter.unusedVariables false

set_option maxHeartbeats 400000 in
theorem szInt64S_any (B : Nat) (v : Value) (l : List Int) (r : Int) (w : World) (h : RawInts B w v l) (h1 : 0 ≤ r) (h2 : r ≤ 1048576) :
    Calls Tryz.prog 43 #[v, .int .i64 r] w fun e w' => (∃ q, e = .returned (.int .i64 q) ∧ q ≤ 1048576 ∧ (0 ≤ q → l.length ≤ 1048576)) ∧ w' = w := by
  obtain ⟨hlen, _, a, cap, rfl, _⟩ := h
  go_enter Tryz.func43, Tryz.ntmps43
  go_wp2
  · go_ret
    exact ⟨⟨_, rfl, by omega, fun h => by omega⟩, rfl⟩
  · go_ret
    exact ⟨⟨_, rfl, by omega, fun h => by omega⟩, rfl⟩

set_option maxHeartbeats 400000 in
theorem szStringS_any (B : Nat) (v : Value) (l : List ByteArray) (r : Int) (w : World) (h : RawStrs B w v l) (h1 : 0 ≤ r) (h2 : r ≤ 1048576) :
    Calls Tryz.prog 42 #[v, .int .i64 r] w fun e w' => (∃ q, e = .returned (.int .i64 q) ∧ q ≤ 1048576 ∧ (0 ≤ q → l.length ≤ 1048576 ∧ ∀ i, i < l.length → (keyAt l i).size ≤ 1048576)) ∧ w' = w := by
  obtain ⟨hlen, hsz, a, cap, rfl, hcell⟩ := h
  go_enter Tryz.func42, Tryz.ntmps42
  go_wp2
  · go_ret
    exact ⟨⟨_, rfl, by omega, fun h => by omega⟩, rfl⟩
  · go_loop [1, 5] (fun t i => ∃ (k : Nat) (q : Int), k ≤ l.length ∧ i = .int .i64 k ∧ t = .int .i64 q ∧ 0 ≤ q ∧ q ≤ 1048576 ∧ Hid (∀ j, j < k → (keyAt l j).size ≤ 1048576)) (fun _ i => l.length - (intOf i).toNat)
    case atStart => exact ⟨0, _, Nat.zero_le _, rfl, rfl, by omega, by omega, fun j hj => by omega⟩
    case round =>
      obtain ⟨k, q, hk, rfl, rfl, hq0, hq1, HS⟩ := hrel
      by_cases hlt : k < l.length
      · obtain ⟨b, o, rfl, _, hc⟩ := hcell (by omega)
        have hck := hc k hlt
        have hs := hsz k hlt
        clear hc hcell hsz
        go_wp2
        · go_ret
          exact ⟨⟨_, rfl, by omega, fun h => by omega⟩, rfl⟩
        · go_round
          case rel =>
            refine ⟨k + 1, _, by omega, by go_num, rfl, by omega, by omega, fun j hj => ?_⟩
            by_cases e : j = k
            · subst e; omega
            · exact HS.out j (by omega)
          case measure => simp [intOf]; omega
      · obtain rfl : k = l.length := by omega
        go_wp2
        go_ret
        exact ⟨⟨_, rfl, by omega, fun _ => ⟨by omega, HS.out⟩⟩, rfl⟩

set_option maxHeartbeats 800000 in
theorem szVNode_any (B : Nat) (x : VN) (ka ki : Value) (r : Int) (w : World) (h : RawIn B w x ka ki) (hB : B ≤ w.heap.size) (h1 : 0 ≤ r) (h2 : r ≤ 1048576) :
    Calls Tryz.prog 21 #[.agg #[.int .i64 x.kind, .int .i64 x.n, .string x.s, ka, ki], .int .i64 r] w fun e w' => (∃ q, e = .returned (.int .i64 q) ∧ q ≤ 1048576 ∧ (0 ≤ q → Small x)) ∧ Below w.heap.size w w' := by
  have hsz := h.size
  obtain ⟨_, _, a1, c1, e1, _⟩ := h.keys
  obtain ⟨_, _, a2, c2, e2, _⟩ := h.kids
  have hbel : ∀ (o : Obj), Below w.heap.size w (w.alloc o) := fun o => (Below.refl _ _).alloc (Nat.le_refl _) o
  have H := hideIt h
  subst e1 e2
  clear h
  go_enter Tryz.func21, Tryz.ntmps21
  go_wp2_with fail
  · go_ret
    exact ⟨⟨_, rfl, by omega, fun h => by omega⟩, hbel _⟩
  · refine (szStringS_any B _ _ _ _ (H.out.keys.below ((hbel _).mono hB)) (by omega) (by omega)).mono ?_
    rintro e w' ⟨⟨q, rfl, hq, hk⟩, rfl⟩
    have HK := hideIt hk
    have hle : (x.s.size : Int) ≤ 1048576 := by omega
    clear hk
    go_wp2_with fail
    · go_ret
      exact ⟨⟨_, rfl, by omega, fun h => by omega⟩, hbel _⟩
    · refine (szInt64S_any B _ _ _ _ (H.out.kids.below ((hbel _).mono hB)) (by omega) (by omega)).mono ?_
      rintro e w' ⟨⟨q', rfl, hq', hk'⟩, rfl⟩
      have HK' := hideIt hk'
      clear hk'
      have h0 : 0 ≤ q := by omega
      go_wp2_with fail
      · go_ret
        exact ⟨⟨_, rfl, by omega, fun h => by omega⟩, hbel _⟩
      · go_ret
        exact ⟨⟨_, rfl, by omega, fun h => ⟨by omega, (HK.out h0).1, (HK.out h0).2, HK'.out h⟩⟩, hbel _⟩

set_option maxHeartbeats 800000 in
theorem szVNodeS_any (B : Nat) (v : Value) (vs : List VN) (r : Int) (w : World) (h : RawNodes B w v vs) (hB : B ≤ w.heap.size) (h1 : 0 ≤ r) (h2 : r ≤ 1048576) :
    Calls Tryz.prog 6 #[v, .int .i64 r] w fun e w' => (∃ q, e = .returned (.int .i64 q) ∧ q ≤ 1048576 ∧ (0 ≤ q → vs.length ≤ 1048576 ∧ ∀ i, i < vs.length → Small (nodeAt vs i))) ∧ Below w.heap.size w w' := by
  obtain ⟨hlen, a, cap, rfl, hcell⟩ := h
  go_enter Tryz.func6, Tryz.ntmps6
  go_wp2_with fail
  · go_ret
    exact ⟨⟨_, rfl, by omega, fun h => by omega⟩, Below.refl _ _⟩
  · go_loopw [1, 5] (fun t i wr => ∃ (k : Nat) (q : Int), k ≤ vs.length ∧ i = .int .i64 k ∧ t = .int .i64 q ∧ 0 ≤ q ∧ q ≤ 1048576 ∧ Hid (∀ j, j < k → Small (nodeAt vs j)) ∧ Below w.heap.size w wr) (fun _ i _ => vs.length - (intOf i).toNat)
    case atStart => exact ⟨0, _, Nat.zero_le _, rfl, rfl, by omega, by omega, fun j hj => by omega, Below.refl _ _⟩
    case round =>
      obtain ⟨k, q, hk, rfl, rfl, hq0, hq1, HS, hbel⟩ := hrel
      by_cases hlt : k < vs.length
      · obtain ⟨b, o, rfl, hbB, hc⟩ := hcell (by omega)
        obtain ⟨ka, ki, hn⟩ := hc k hlt
        have hn' := hn.below (hbel.mono hB) hbB
        have c0 := hn'.c0
        have c1 := hn'.c1
        have c2 := hn'.c2
        have c3 := hn'.c3
        have c4 := hn'.c4
        have hin := hideIt hn'.inn
        have hsize := hbel.size
        clear hc hcell hn hn'
        go_wp2_with fail
        refine (szVNode_any B (nodeAt vs k) ka ki _ _ hin.out (by omega) (by omega) (by omega)).mono ?_
        rintro e w' ⟨⟨q', rfl, hq', hsm⟩, hb'⟩
        have hb2 : Below w.heap.size w w' := hbel.trans (hb'.mono hsize)
        have HM := hideIt hsm
        clear hsm
        go_wp2_with fail
        · go_ret
          exact ⟨⟨_, rfl, by omega, fun h => by omega⟩, hb2⟩
        · go_roundw
          case rel =>
            refine ⟨k + 1, _, by omega, by go_num, rfl, by omega, by omega, fun j hj => ?_, hb2⟩
            by_cases e : j = k
            · subst e; exact HM.out (by omega)
            · exact HS.out j (by omega)
          case measure => simp [intOf]; omega
      · obtain rfl : k = vs.length := by omega
        go_wp2_with fail
        go_ret
        exact ⟨⟨_, rfl, by omega, fun _ => ⟨by omega, HS.out⟩⟩, hbel⟩
end Go.Proofs.YtbcbcmbheglfhaaGreatDoor
