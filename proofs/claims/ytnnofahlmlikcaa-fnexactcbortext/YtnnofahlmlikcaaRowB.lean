/-
  The functions that hold two lists, two nodes, two values against each other: of what holds the same they say true.
-/
import Derived.Test.YtnnofahlmlikcaaMem
import Derived.Test.YtnnofahlmlikcaaProg
import Derived.Deep.QuietTactic
import Derived.BigQuiet
import Derived.WalkSmall
import Derived.Deep.RegionWith
import Derived.Test.YtnnofahlmlikcaaStepT
import Derived.WideShapes
import Derived.Below
import Derived.Lib.FrozenHead
namespace Go.Proofs.Ytnnofahlmlikcaa
open Go.RowKit
set_option linter.unusedSimpArgs false
set_option linter.unusedVariables false

set_option maxHeartbeats 800000 in
theorem eqInt64S_any (B : Nat) (v1 v2 : Value) (l : List Int) (w : World) (h1 : IntsAt B w v1 l) (h2 : IntsAt B w v2 l) (hB : B ≤ w.heap.size) :
    Calls Try.prog 39 #[v1, v2] w fun e w' => e = .returned (.bool true) ∧ Below w.heap.size w w' := by
  obtain ⟨hlen, _, a1, cap1, rfl, hcell1⟩ := h1
  obtain ⟨_, _, a2, cap2, rfl, hcell2⟩ := h2
  have hne : ((l.length : Int) != (l.length : Int)) = false := by simp
  go_enter Try.func39, Try.ntmps39
  go_wp2_with fail
  go_loopw [5] (fun i wr => ∃ k : Nat, k ≤ l.length ∧ i = .int .i64 k ∧ Below w.heap.size w wr) (fun i _ => l.length - (intOf i).toNat)
  case atStart => exact ⟨0, Nat.zero_le _, rfl, Below.refl _ _⟩
  case round =>
    obtain ⟨k, hk, rfl, hbel⟩ := hrel
    by_cases hlt : k < l.length
    · obtain ⟨b1, o1, rfl, hb1, hc1⟩ := hcell1 (by omega)
      obtain ⟨b2, o2, rfl, hb2, hc2⟩ := hcell2 (by omega)
      have d1 := (below_cell (o := o1 + k) hbel (show b1 < w.heap.size by omega)).trans (hc1 k hlt)
      have d2 := (below_cell (o := o2 + k) hbel (show b2 < w.heap.size by omega)).trans (hc2 k hlt)
      clear hc1 hc2 hcell1 hcell2
      go_wp2_with fail
      go_quiet (fail)
      go_wp2_with fail
      go_roundw
      case rel => exact ⟨k + 1, by omega, by go_num, below_drewN hbel nq⟩
      case measure => simp [intOf]; omega
    · go_wp2_with fail
      go_ret
      exact ⟨rfl, hbel⟩

set_option maxHeartbeats 800000 in
theorem eqStringS_any (B : Nat) (v1 v2 : Value) (l : List ByteArray) (w : World) (h1 : StrsAt B w v1 l) (h2 : StrsAt B w v2 l) (hB : B ≤ w.heap.size) :
    Calls Try.prog 38 #[v1, v2] w fun e w' => e = .returned (.bool true) ∧ Below w.heap.size w w' := by
  obtain ⟨hlen, _, a1, cap1, rfl, hcell1⟩ := h1
  obtain ⟨_, _, a2, cap2, rfl, hcell2⟩ := h2
  have hne : ((l.length : Int) != (l.length : Int)) = false := by simp
  go_enter Try.func38, Try.ntmps38
  go_wp2_with fail
  go_loopw [5] (fun i wr => ∃ k : Nat, k ≤ l.length ∧ i = .int .i64 k ∧ Below w.heap.size w wr) (fun i _ => l.length - (intOf i).toNat)
  case atStart => exact ⟨0, Nat.zero_le _, rfl, Below.refl _ _⟩
  case round =>
    obtain ⟨k, hk, rfl, hbel⟩ := hrel
    by_cases hlt : k < l.length
    · obtain ⟨b1, o1, rfl, hb1, hc1⟩ := hcell1 (by omega)
      obtain ⟨b2, o2, rfl, hb2, hc2⟩ := hcell2 (by omega)
      have d1 := (below_cell (o := o1 + k) hbel (show b1 < w.heap.size by omega)).trans (hc1 k hlt)
      have d2 := (below_cell (o := o2 + k) hbel (show b2 < w.heap.size by omega)).trans (hc2 k hlt)
      clear hc1 hc2 hcell1 hcell2
      go_wp2_with fail
      go_quiet (fail)
      go_wp2_with fail
      go_roundw
      case rel => exact ⟨k + 1, by omega, by go_num, below_drewN hbel nq⟩
      case measure => simp [intOf]; omega
    · go_wp2_with fail
      go_ret
      exact ⟨rfl, hbel⟩

set_option maxHeartbeats 1600000 in
theorem eqVNode_any (B : Nat) (x : VN) (ka ki ka' ki' : Value) (w : World) (h : NodeIn B w x ka ki) (h' : NodeIn B w x ka' ki') (hB : B ≤ w.heap.size) :
    Calls Try.prog 19 #[.agg #[.int .i64 x.kind, .int .i64 x.n, .string x.s, ka, ki], .agg #[.int .i64 x.kind, .int .i64 x.n, .string x.s, ka', ki']] w fun e w' => e = .returned (.bool true) ∧ Below w.heap.size w w' := by
  obtain ⟨_, _, a1, c1, e1, _⟩ := h.keys
  obtain ⟨_, _, a2, c2, e2, _⟩ := h.kids
  obtain ⟨_, _, a3, c3, e3, _⟩ := h'.keys
  obtain ⟨_, _, a4, c4, e4, _⟩ := h'.kids
  have H : Hid (NodeIn B w x ka ki) := h
  have H' : Hid (NodeIn B w x ka' ki') := h'
  have f1 : (x.kind != x.kind) = false := by simp
  have f2 : (x.n != x.n) = false := by simp
  have f3 : (x.s.toList == x.s.toList) = true := by simp
  subst e1 e2 e3 e4
  clear h h'
  have hb0 : ∀ (o o' : Obj), Below w.heap.size w ((w.alloc o).alloc o') := fun o o' => ((Below.refl _ _).alloc (Nat.le_refl _) _).alloc (by simp) _
  go_enter Try.func19, Try.ntmps19
  go_wp2_with fail
  refine (eqStringS_any B _ _ x.keys _ (H.out.keys.below ((hb0 _ _).mono hB)) (H'.out.keys.below ((hb0 _ _).mono hB)) (by simp; omega)).mono ?_
  rintro e w1 ⟨rfl, hb1⟩
  have hc1 : ∀ b o, b < w.heap.size + 1 + 1 → w1.cell? ⟨b, o, none⟩ = _ := fun b o h => hb1.cell (p := ⟨b, o, none⟩) (by simpa using h)
  have hz1 := hb1.size
  simp only [World.size_alloc] at hz1
  have hB1 : Below w.heap.size w w1 := (hb0 _ _).trans (hb1.mono (by simp; omega))
  go_wp2_with fail
  refine (eqInt64S_any B _ _ x.kids _ (H.out.kids.below (hB1.mono hB)) (H'.out.kids.below (hB1.mono hB)) (by omega)).mono ?_
  rintro e w2 ⟨rfl, hb2⟩
  go_wp2_with fail
  go_ret
  exact ⟨rfl, hB1.trans (hb2.mono (by omega))⟩

set_option maxHeartbeats 1600000 in
theorem eqVNodeS_any (B : Nat) (v1 v2 : Value) (vs : List VN) (w : World) (h1 : NodesAt B w v1 vs) (h2 : NodesAt B w v2 vs) (hB : B ≤ w.heap.size) :
    Calls Try.prog 9 #[v1, v2] w fun e w' => e = .returned (.bool true) ∧ Below w.heap.size w w' := by
  obtain ⟨hlen, a1, cap1, rfl, hcell1⟩ := h1
  obtain ⟨_, a2, cap2, rfl, hcell2⟩ := h2
  have hne : ((vs.length : Int) != (vs.length : Int)) = false := by simp
  go_enter Try.func9, Try.ntmps9
  go_wp2_with fail
  go_loopw [5] (fun i wr => ∃ k : Nat, k ≤ vs.length ∧ i = .int .i64 k ∧ Below w.heap.size w wr) (fun i _ => vs.length - (intOf i).toNat)
  case atStart => exact ⟨0, Nat.zero_le _, rfl, Below.refl _ _⟩
  case round =>
    obtain ⟨k, hk, rfl, hbel⟩ := hrel
    by_cases hlt : k < vs.length
    · obtain ⟨b1, o1, rfl, hb1, hc1⟩ := hcell1 (by omega)
      obtain ⟨b2, o2, rfl, hb2, hc2⟩ := hcell2 (by omega)
      obtain ⟨ka, ki, hn⟩ := hc1 k hlt
      obtain ⟨ka', ki', hn'⟩ := hc2 k hlt
      have g := hn.below (hbel.mono hB) hb1
      have g' := hn'.below (hbel.mono hB) hb2
      have c0 := g.c0
      have c1 := g.c1
      have c2 := g.c2
      have c3 := g.c3
      have c4 := g.c4
      have d0 := g'.c0
      have d1 := g'.c1
      have d2 := g'.c2
      have d3 := g'.c3
      have d4 := g'.c4
      have hin := g.inn
      have hin' := g'.inn
      have hsize := hbel.size
      clear hc1 hc2 hcell1 hcell2 hn hn' g g'
      go_wp2_with fail
      go_region_with (go_at_call 19; refine (eqVNode_any B (nodeAt vs k) ka ki ka' ki' _ ?_ ?_ ?_).mono ?_; exact hin.below (bsame rfl rfl rfl rfl); exact hin'.below (bsame rfl rfl rfl rfl); exact (by simp; omega); rintro e w1 ⟨rfl, hq⟩)
      all_goals
        have hb2 : Below w.heap.size w w1 := hbel.drew.trans (hq.mono (by simpa using hsize))
        go_wp2_with fail
        go_roundw
        case rel => exact ⟨k + 1, by omega, by go_num, hb2⟩
        case measure => simp [intOf]; omega
    · go_wp2_with fail
      go_ret
      exact ⟨rfl, hbel⟩
end Go.Proofs.Ytnnofahlmlikcaa

/-
  Rows of bytes laid by appending.
-/
namespace Go.Proofs.Ytnnofahlmlikcaa
open Go.RowKit Go.WideShapes
set_option linter.unusedSimpArgs false
set_option linter.unusedVariables false

/-- 'v' is a row of one's own (its memory from block 'base' on) that holds the bytes 'l'. -/
def RowB (base : Nat) (w : World) (v : Value) (l : List UInt8) : Prop := w.ownsRow base 5 1 v l.length (Lib.byteCells l)
theorem RowB.slice {base : Nat} {w : World} {v : Value} {l : List UInt8} (h : RowB base w v l) : ∃ a c, v = .slice a l.length c := by
  rcases h.2 with ⟨rfl, h0⟩ | ⟨g, cap, cur, rfl, _⟩
  · rw [h0]; exact ⟨_, _, rfl⟩
  · exact ⟨_, _, rfl⟩
theorem rowB_new (w : World) : RowB w.heap.size (w.alloc (.cells #[] 5)) (.slice (some ⟨w.heap.size, 0, none⟩) 0 0) [] := by
  have := World.ownsRow_lit (base := w.heap.size) (e := 5) (size := 1) w #[] 0 (Nat.le_refl _) (by simp [maxLen]) rfl
  simpa [RowB, Lib.byteCells] using this
theorem info_byte : (Try.prog.info? 5).map (fun i => (i.zero, i.size, i.bytes)) = some (some (.int .u8 0), 1, 1) := by kernel_rfl
theorem info_three {P : Program} {t : TypeId} {z : Option Value} {s b : Nat} (h : (P.info? t).map (fun i => (i.zero, i.size, i.bytes)) = some (z, s, b)) : ∃ i, P.info? t = some i ∧ i.zero = z ∧ i.size = s ∧ i.bytes = b := by
  cases hi : P.info? t with
  | none => simp [hi] at h
  | some i => simp [hi] at h; exact ⟨i, rfl, h.1, h.2.1, h.2.2⟩
theorem byte_new (w : World) (c : UInt8) : ∀ j u, [Value.int .u8 (c.toNat : Int)][j]? = some u → (w.alloc (.cells #[.int .u8 (c.toNat : Int)] 5)).cell? ((⟨w.heap.size, 0, none⟩ : Addr).add j) = some u := by
  intro j u hj
  match j, hj with
  | 0, hj => simp at hj; subst hj; simp [Addr.add]
theorem row_end {base : Nat} {w w' : World} {v v' : Value} {l : List UInt8} {c : UInt8} (hbase : base ≤ w.heap.size) (hrow : RowB base w v l)
    (hown : w'.ownsRow base 5 1 v' (l.length + 1) (Lib.byteCells l ++ [.int .u8 (c.toNat : Int)])) (hgrow : (w.alloc (.cells #[.int .u8 (c.toNat : Int)] 5)).grownBy w' v.ownBlock) : RowB base w' v' (l ++ [c]) ∧ Below base w w' := by
  refine ⟨?_, ?_⟩
  · unfold RowB
    have e : Lib.byteCells (l ++ [c]) = Lib.byteCells l ++ [.int .u8 (c.toNat : Int)] := by simp [Lib.byteCells]
    rw [e, List.length_append]
    exact hown
  · exact ((Below.refl base w).alloc hbase _).grown hgrow (by simp; omega) (fun k hk => (hrow.lt k hk).1)
/-- append(row, c) -/
theorem wpList_push {ops : Array Oper} {rest : List Oper} {o : Oper} {a : Act} {Q : Exit → Act → World → Prop} {w : World} (hgd : o.guard = none) (s x : Operand)
    (ho : o.op = .call { callee := .builtin .append, args := #[s, x], argTypes := #[42, 42] }) (base : Nat) (l : List UInt8) (v : Value) (hs : a.eval s = v) (hrow : RowB base w v l) (c : UInt8)
    (hx : a.eval x = .slice (some ⟨w.heap.size, 0, none⟩) 1 1) (hlen : l.length + 1 ≤ 70368744177664) (hbase : base ≤ w.heap.size)
    (h : ∀ v' w', RowB base w' v' (l ++ [c]) → Below base w w' → wpList Try.prog ops Q rest (a.put o.dst v') w') : wpList Try.prog ops Q (o :: rest) a (w.alloc (.cells #[.int .u8 (c.toNat : Int)] 5)) := by
  obtain ⟨i0, hi0, hz0, hs0, hy0⟩ := info_three info_byte
  refine wpList_append_own _ hgd s x 42 ho base 5 i0 (.int .u8 0) 1 1 Try.underlying42 hi0 hz0 hs0 hy0 rfl (by decide) v l.length (Lib.byteCells l) hs (hrow.alloc _) ⟨w.heap.size, 0, none⟩ 1 1 [.int .u8 (c.toNat : Int)] hx rfl (byte_new w c) (by intro u hu; simp at hu; subst hu; rfl) (by unfold maxLen; omega) (by omega) (by simp; omega) ?_
  intro v' w' hown hgrow _
  have := row_end hbase hrow hown hgrow
  exact h v' w' this.1 this.2
/-- append(row, c), as a step of a statement whose order is open. -/
theorem step_push {ops : Array Oper} {o : Oper} {a : Act} {K : Act → World → Prop} {Q : Exit → Act → World → Prop} {E : Prop} {w : World} (hgd : o.guard = none) (s x : Operand)
    (ho : o.op = .call { callee := .builtin .append, args := #[s, x], argTypes := #[42, 42] }) (base : Nat) (l : List UInt8) (v : Value) (hs : a.eval s = v) (hrow : RowB base w v l) (c : UInt8)
    (hx : a.eval x = .slice (some ⟨w.heap.size, 0, none⟩) 1 1) (hlen : l.length + 1 ≤ 70368744177664) (hbase : base ≤ w.heap.size)
    (h : ∀ v' w', RowB base w' v' (l ++ [c]) → Below base w w' → K (a.put o.dst v') w') : if Region.wanted o (yielded ops a.tmps) = true then Oper.wp Try.prog o a (w.alloc (.cells #[.int .u8 (c.toNat : Int)] 5)) K Q else E := by
  obtain ⟨i0, hi0, hz0, hs0, hy0⟩ := info_three info_byte
  refine step_append_lies _ hgd s x 42 ho base 5 i0 (.int .u8 0) 1 1 Try.underlying42 hi0 hz0 hs0 hy0 rfl (by decide) v l.length (Lib.byteCells l) hs (hrow.alloc _) ⟨w.heap.size, 0, none⟩ 1 1 [.int .u8 (c.toNat : Int)] hx rfl (byte_new w c) (by intro u hu; simp at hu; subst hu; rfl) (by omega) (by unfold maxLen; omega) (by omega) (by simp; omega) (w.heap.size + 1) (by simp) ?_
  intro g cap w' hown hgrow _ _
  have := row_end hbase hrow hown hgrow
  exact h _ w' this.1 this.2
/-- string(row) -/
theorem RowB.text {base : Nat} {w : World} {a : Option Addr} {cap : Nat} {l : List UInt8} {n : Nat} (hn : l.length = n) (h : RowB base w (.slice a n cap) l) :
    (convert 42 9 (.slice a n cap)).run Try.prog w = .ok (.string (txt l)) w := by
  subst hn
  rcases h.2 with ⟨hv, h0⟩ | ⟨g, cap', cur, hv, _⟩
  · obtain rfl : l = [] := List.eq_nil_of_length_eq_zero h0
    cases hv
    kernel_rfl
  · cases hv
    exact run_convert_bytes_back (P := Try.prog) w 42 9 5 ⟨g, 0, none⟩ cap l Try.underlying42 Try.underlying5 Try.underlying9 (fun j hj => h.cells rfl j _ (by simp [Lib.byteCells, hj]))
theorem RowB.drew {base : Nat} {w : World} {v : Value} {l : List UInt8} (h : RowB base w v l) : RowB base w.drew v l := h
theorem RowB.below {base : Nat} {w w' : World} {v : Value} {l : List UInt8} (h : RowB base w v l) (hb : Below w.heap.size w w') : RowB base w' v l := by
  refine ⟨h.1, ?_⟩
  rcases h.2 with ⟨hv, h0⟩ | ⟨g, cap, cur, hv, h1, h2, h3⟩
  · exact .inl ⟨hv, h0⟩
  · refine .inr ⟨g, cap, cur, hv, h1, ?_, h3⟩
    rw [hb.block g ?_]
    · exact h2
    · rcases Nat.lt_or_ge g w.heap.size with h' | h'
      · exact h'
      · rw [Array.getElem?_eq_none h'] at h2; cases h2
end Go.Proofs.Ytnnofahlmlikcaa
