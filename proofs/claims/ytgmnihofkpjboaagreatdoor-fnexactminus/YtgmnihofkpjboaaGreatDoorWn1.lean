/-
  impl.withNodes at values without parts.
-/
import Derived.Test.YtgmnihofkpjboaaGreatDoorWnM
import Derived.Test.YtgmnihofkpjboaaGreatDoorTree
import Derived.Test.YtgmnihofkpjboaaGreatDoorKi
namespace Go.Proofs.YtgmnihofkpjboaaGreatDoor
open Go.RowKit
set_option linter.unusedSimpArgs false
set_option linter.unusedVariables false

theorem news5 (w : World) (c0 c1 c2 c3 c4 : Value) : ∀ j u, [c0, c1, c2, c3, c4][j]? = some u → (w.alloc (.cells #[c0, c1, c2, c3, c4] 37)).cell? ((⟨w.heap.size, 0, none⟩ : Addr).add j) = some u :=
  World.news_of_block (cs := #[c0, c1, c2, c3, c4]) (heap_alloc_new w _)

theorem news5_at (w : World) (b : Nat) (c0 c1 c2 c3 c4 : Value) (hb : w.heap.size = b) : ∀ j u, [c0, c1, c2, c3, c4][j]? = some u → (w.alloc (.cells #[c0, c1, c2, c3, c4] 37)).cell? ((⟨b, 0, none⟩ : Addr).add j) = some u := by
  subst hb; exact news5 w c0 c1 c2 c3 c4

set_option maxRecDepth 100000 in
set_option maxHeartbeats 3200000 in
theorem withNodes_null (base : Nat) (v : Value) (ns : List VN) (KV IV : Nat → Value) (w : World) (h : Nest base w v ns KV IV) (hb : base ≤ w.heap.size) (hn : ns.length ≤ 100000) :
    Calls Tryz.prog 49 #[v, .iface 103 (.agg #[])] w fun e w' => ∃ v' KV' IV', e = .returned v' ∧ Laid base w w' v v' ns [{ kind := 1, n := 0, s := ByteArray.empty, keys := [], kids := [] }] KV IV KV' IV' := by
  have H := hideIt h
  obtain ⟨av, cv, rfl⟩ := own_slice h.row
  clear h
  have tabool := ta_null_bool
  have taint := ta_null_int
  have tatext := ta_null_text
  have tamap := ta_null_map
  obtain ⟨i0, hi0, hz0, hs0, hy0⟩ := info_parts infoNode
  go_enter Tryz.func49, Tryz.ntmps49
  go_wp2_with fail
  refine (kind1_any _).mono ?_
  rintro e w1 ⟨rfl, hb1⟩
  have HB1 := hideIt hb1
  go_wp2_with fail
  refine (parts1_any _).mono ?_
  rintro e w2 ⟨rfl, hb2⟩
  have HM := hideIt (Mid.start H.out hb HB1.out hb2)
  have z2 : w1.heap.size < w2.heap.size := by have := hb2.size; simp at this; omega
  clear hb1 hb2
  go_wp2_with fail
  have y0 : w2.cell? ⟨w1.heap.size, 0, none⟩ = some (.int .i64 1) := HM.out.node.cellAt 0 (by omega)
  have y1 : w2.cell? ⟨w1.heap.size, 1, none⟩ = some (.int .i64 0) := HM.out.node.cellAt 1 (by omega)
  have y2 : w2.cell? ⟨w1.heap.size, 2, none⟩ = some (.string ⟨#[]⟩) := HM.out.node.cellAt 2 (by omega)
  have y3 : w2.cell? ⟨w1.heap.size, 3, none⟩ = some (.slice none 0 0) := HM.out.node.cellAt 3 (by omega)
  have y4 : w2.cell? ⟨w1.heap.size, 4, none⟩ = some (.slice none 0 0) := HM.out.node.cellAt 4 (by omega)
  have HN := hideIt (HM.out.nest.row.alloc (.cells #[.int .i64 1, .int .i64 0, .string ⟨#[]⟩, .slice none 0 0, .slice none 0 0] 37))
  go_loopw [0, 18] (fun o i wr => o = .slice av ns.length cv ∧ i = .int .i64 0 ∧ wr = w2) (fun _ _ _ => 0)
  case atStart => exact ⟨rfl, rfl, rfl⟩
  case round =>
    obtain ⟨rfl, rfl, hw⟩ := hrel
    rw [hw]
    clear hw
    go_wp2_with (at_builtin; refine wpList_append_own_at _ rfl _ _ 24 rfl base 37 i0 zeroNode 5 80 Tryz.underlying24 hi0 hz0 hs0 hy0 rfl (by decide) _ _ _ rfl HN.out ⟨w2.heap.size, 0, none⟩ 1 1 [.int .i64 1, .int .i64 0, .string ⟨#[]⟩, .slice none 0 0, .slice none 0 0] rfl rfl ?c1 ?c2 ?c3 ?c4 ?c5 ?_)
    case c1 => exact news5 _ _ _ _ _ _
    case c2 => intro u hu; simp at hu; rcases hu with rfl | rfl | rfl | rfl <;> rfl
    case c3 => simp [maxLen]; omega
    case c4 => simp; omega
    case c5 => simp; have := HM.out.frame.size; omega
    intro v' w6 hown hgrow _ hat
    have HL := hideIt (Mid.fin (x := { kind := 1, n := 0, s := ⟨#[]⟩, keys := [], kids := [] }) HM.out rfl (World.ownsRow_nil _ _ _ _) (fun j _ y hy => by simp [Value.ownBlock] at hy) (by simpa using hown) hgrow hat)
    clear hown hgrow hat
    go_wp2_with fail
    go_ret
    exact ⟨_, _, _, rfl, HL.out⟩

set_option maxRecDepth 100000 in
set_option maxHeartbeats 3200000 in
theorem withNodes_bool (n : Int) (base : Nat) (v : Value) (ns : List VN) (KV IV : Nat → Value) (w : World) (h : Nest base w v ns KV IV) (hb : base ≤ w.heap.size) (hn : ns.length ≤ 100000) :
    Calls Tryz.prog 49 #[v, .iface 97 (.agg #[.int .i64 n])] w fun e w' => ∃ v' KV' IV', e = .returned v' ∧ Laid base w w' v v' ns [{ kind := 2, n := n, s := ByteArray.empty, keys := [], kids := [] }] KV IV KV' IV' := by
  have H := hideIt h
  obtain ⟨av, cv, rfl⟩ := own_slice h.row
  clear h
  have ta0 := ta_bool_bool
  obtain ⟨i0, hi0, hz0, hs0, hy0⟩ := info_parts infoNode
  go_enter Tryz.func49, Tryz.ntmps49
  go_wp2_with fail
  refine (kind2_any _ _).mono ?_
  rintro e w1 ⟨rfl, hb1⟩
  have HB1 := hideIt hb1
  go_wp2_with fail
  refine (parts2_any _ _).mono ?_
  rintro e w2 ⟨rfl, hb2⟩
  have HM := hideIt (Mid.start H.out hb HB1.out hb2)
  have z2 : w1.heap.size < w2.heap.size := by have := hb2.size; simp at this; omega
  clear hb1 hb2
  go_wp2_with fail
  have y0 : w2.cell? ⟨w1.heap.size, 0, none⟩ = some (.int .i64 2) := HM.out.node.cellAt 0 (by omega)
  have y1 : w2.cell? ⟨w1.heap.size, 1, none⟩ = some (.int .i64 0) := HM.out.node.cellAt 1 (by omega)
  have y2 : w2.cell? ⟨w1.heap.size, 2, none⟩ = some (.string ⟨#[]⟩) := HM.out.node.cellAt 2 (by omega)
  have y3 : w2.cell? ⟨w1.heap.size, 3, none⟩ = some (.slice none 0 0) := HM.out.node.cellAt 3 (by omega)
  have y4 : w2.cell? ⟨w1.heap.size, 4, none⟩ = some (.slice none 0 0) := HM.out.node.cellAt 4 (by omega)
  have f1 : w2.frozen? ⟨w1.heap.size, 1, none⟩ = false := HM.out.node.frozenAt 1
  have HM2 := hideIt ((HM.out.put 1 (.int .i64 n)).grow (World.grownBy_alloc _ (.cells #[.int .i64 n] 97) none))
  have x0 : ((w2.setCell ⟨w1.heap.size, 1, none⟩ (.int .i64 n)).alloc (.cells #[.int .i64 n] 97)).cell? ⟨w1.heap.size, 0, none⟩ = some (.int .i64 2) := HM2.out.node.cellAt 0 (by omega)
  have x1 : ((w2.setCell ⟨w1.heap.size, 1, none⟩ (.int .i64 n)).alloc (.cells #[.int .i64 n] 97)).cell? ⟨w1.heap.size, 1, none⟩ = some (.int .i64 n) := HM2.out.node.cellAt 1 (by omega)
  have x2 : ((w2.setCell ⟨w1.heap.size, 1, none⟩ (.int .i64 n)).alloc (.cells #[.int .i64 n] 97)).cell? ⟨w1.heap.size, 2, none⟩ = some (.string ⟨#[]⟩) := HM2.out.node.cellAt 2 (by omega)
  have x3 : ((w2.setCell ⟨w1.heap.size, 1, none⟩ (.int .i64 n)).alloc (.cells #[.int .i64 n] 97)).cell? ⟨w1.heap.size, 3, none⟩ = some (.slice none 0 0) := HM2.out.node.cellAt 3 (by omega)
  have x4 : ((w2.setCell ⟨w1.heap.size, 1, none⟩ (.int .i64 n)).alloc (.cells #[.int .i64 n] 97)).cell? ⟨w1.heap.size, 4, none⟩ = some (.slice none 0 0) := HM2.out.node.cellAt 4 (by omega)
  have HN := hideIt (HM2.out.nest.row.alloc (.cells #[.int .i64 2, .int .i64 n, .string ⟨#[]⟩, .slice none 0 0, .slice none 0 0] 37))
  have HZ := hideIt HM2.out.frame.size
  go_loopw [0, 18] (fun o i wr => o = .slice av ns.length cv ∧ i = .int .i64 0 ∧ wr = w2) (fun _ _ _ => 0)
  case atStart => exact ⟨rfl, rfl, rfl⟩
  case round =>
    obtain ⟨rfl, rfl, hw⟩ := hrel
    rw [hw]
    clear hw
    go_wp2_with (at_builtin; refine wpList_append_own_at _ rfl _ _ 24 rfl base 37 i0 zeroNode 5 80 Tryz.underlying24 hi0 hz0 hs0 hy0 rfl (by decide) _ _ _ rfl HN.out ⟨w2.heap.size + 1, 0, none⟩ 1 1 [.int .i64 2, .int .i64 n, .string ⟨#[]⟩, .slice none 0 0, .slice none 0 0] rfl rfl ?c1 ?c2 ?c3 ?c4 ?c5 ?_)
    case c1 => exact news5_at _ _ _ _ _ _ _ (by simp)
    case c2 => intro u hu; simp at hu; rcases hu with rfl | rfl | rfl | rfl | rfl <;> rfl
    case c3 => simp [maxLen]; omega
    case c4 => simp; omega
    case c5 => have := HZ.out; simp at this ⊢; omega
    intro v' w6 hown hgrow _ hat
    have HL := hideIt (Mid.fin (x := { kind := 2, n := n, s := ⟨#[]⟩, keys := [], kids := [] }) HM2.out rfl (World.ownsRow_nil _ _ _ _) (fun j _ y hy => by simp [Value.ownBlock] at hy) (by simpa using hown) hgrow (by simpa using hat))
    clear hown hgrow hat
    go_wp2_with fail
    go_ret
    exact ⟨_, _, _, rfl, HL.out⟩

set_option maxRecDepth 100000 in
set_option maxHeartbeats 3200000 in
theorem withNodes_int (n : Int) (base : Nat) (v : Value) (ns : List VN) (KV IV : Nat → Value) (w : World) (h : Nest base w v ns KV IV) (hb : base ≤ w.heap.size) (hn : ns.length ≤ 100000) :
    Calls Tryz.prog 49 #[v, .iface 69 (.agg #[.int .i64 n])] w fun e w' => ∃ v' KV' IV', e = .returned v' ∧ Laid base w w' v v' ns [{ kind := 3, n := n, s := ByteArray.empty, keys := [], kids := [] }] KV IV KV' IV' := by
  have H := hideIt h
  obtain ⟨av, cv, rfl⟩ := own_slice h.row
  clear h
  have ta0 := ta_int_bool
  have ta1 := ta_int_int
  obtain ⟨i0, hi0, hz0, hs0, hy0⟩ := info_parts infoNode
  go_enter Tryz.func49, Tryz.ntmps49
  go_wp2_with fail
  refine (kind3_any _ _).mono ?_
  rintro e w1 ⟨rfl, hb1⟩
  have HB1 := hideIt hb1
  go_wp2_with fail
  refine (parts3_any _ _).mono ?_
  rintro e w2 ⟨rfl, hb2⟩
  have HM := hideIt (Mid.start H.out hb HB1.out hb2)
  have z2 : w1.heap.size < w2.heap.size := by have := hb2.size; simp at this; omega
  clear hb1 hb2
  go_wp2_with fail
  have y0 : w2.cell? ⟨w1.heap.size, 0, none⟩ = some (.int .i64 3) := HM.out.node.cellAt 0 (by omega)
  have y1 : w2.cell? ⟨w1.heap.size, 1, none⟩ = some (.int .i64 0) := HM.out.node.cellAt 1 (by omega)
  have y2 : w2.cell? ⟨w1.heap.size, 2, none⟩ = some (.string ⟨#[]⟩) := HM.out.node.cellAt 2 (by omega)
  have y3 : w2.cell? ⟨w1.heap.size, 3, none⟩ = some (.slice none 0 0) := HM.out.node.cellAt 3 (by omega)
  have y4 : w2.cell? ⟨w1.heap.size, 4, none⟩ = some (.slice none 0 0) := HM.out.node.cellAt 4 (by omega)
  have f1 : w2.frozen? ⟨w1.heap.size, 1, none⟩ = false := HM.out.node.frozenAt 1
  have HM2 := hideIt ((HM.out.put 1 (.int .i64 n)).grow (World.grownBy_alloc _ (.cells #[.int .i64 n] 69) none))
  have x0 : ((w2.setCell ⟨w1.heap.size, 1, none⟩ (.int .i64 n)).alloc (.cells #[.int .i64 n] 69)).cell? ⟨w1.heap.size, 0, none⟩ = some (.int .i64 3) := HM2.out.node.cellAt 0 (by omega)
  have x1 : ((w2.setCell ⟨w1.heap.size, 1, none⟩ (.int .i64 n)).alloc (.cells #[.int .i64 n] 69)).cell? ⟨w1.heap.size, 1, none⟩ = some (.int .i64 n) := HM2.out.node.cellAt 1 (by omega)
  have x2 : ((w2.setCell ⟨w1.heap.size, 1, none⟩ (.int .i64 n)).alloc (.cells #[.int .i64 n] 69)).cell? ⟨w1.heap.size, 2, none⟩ = some (.string ⟨#[]⟩) := HM2.out.node.cellAt 2 (by omega)
  have x3 : ((w2.setCell ⟨w1.heap.size, 1, none⟩ (.int .i64 n)).alloc (.cells #[.int .i64 n] 69)).cell? ⟨w1.heap.size, 3, none⟩ = some (.slice none 0 0) := HM2.out.node.cellAt 3 (by omega)
  have x4 : ((w2.setCell ⟨w1.heap.size, 1, none⟩ (.int .i64 n)).alloc (.cells #[.int .i64 n] 69)).cell? ⟨w1.heap.size, 4, none⟩ = some (.slice none 0 0) := HM2.out.node.cellAt 4 (by omega)
  have HN := hideIt (HM2.out.nest.row.alloc (.cells #[.int .i64 3, .int .i64 n, .string ⟨#[]⟩, .slice none 0 0, .slice none 0 0] 37))
  have HZ := hideIt HM2.out.frame.size
  go_loopw [0, 18] (fun o i wr => o = .slice av ns.length cv ∧ i = .int .i64 0 ∧ wr = w2) (fun _ _ _ => 0)
  case atStart => exact ⟨rfl, rfl, rfl⟩
  case round =>
    obtain ⟨rfl, rfl, hw⟩ := hrel
    rw [hw]
    clear hw
    go_wp2_with (at_builtin; refine wpList_append_own_at _ rfl _ _ 24 rfl base 37 i0 zeroNode 5 80 Tryz.underlying24 hi0 hz0 hs0 hy0 rfl (by decide) _ _ _ rfl HN.out ⟨w2.heap.size + 1, 0, none⟩ 1 1 [.int .i64 3, .int .i64 n, .string ⟨#[]⟩, .slice none 0 0, .slice none 0 0] rfl rfl ?c1 ?c2 ?c3 ?c4 ?c5 ?_)
    case c1 => exact news5_at _ _ _ _ _ _ _ (by simp)
    case c2 => intro u hu; simp at hu; rcases hu with rfl | rfl | rfl | rfl | rfl <;> rfl
    case c3 => simp [maxLen]; omega
    case c4 => simp; omega
    case c5 => have := HZ.out; simp at this ⊢; omega
    intro v' w6 hown hgrow _ hat
    have HL := hideIt (Mid.fin (x := { kind := 3, n := n, s := ⟨#[]⟩, keys := [], kids := [] }) HM2.out rfl (World.ownsRow_nil _ _ _ _) (fun j _ y hy => by simp [Value.ownBlock] at hy) (by simpa using hown) hgrow (by simpa using hat))
    clear hown hgrow hat
    go_wp2_with fail
    go_ret
    exact ⟨_, _, _, rfl, HL.out⟩

set_option maxRecDepth 100000 in
set_option maxHeartbeats 3200000 in
theorem withNodes_text (s : ByteArray) (base : Nat) (v : Value) (ns : List VN) (KV IV : Nat → Value) (w : World) (h : Nest base w v ns KV IV) (hb : base ≤ w.heap.size) (hn : ns.length ≤ 100000) :
    Calls Tryz.prog 49 #[v, .iface 99 (.agg #[.string s])] w fun e w' => ∃ v' KV' IV', e = .returned v' ∧ Laid base w w' v v' ns [{ kind := 4, n := 0, s := s, keys := [], kids := [] }] KV IV KV' IV' := by
  have H := hideIt h
  obtain ⟨av, cv, rfl⟩ := own_slice h.row
  clear h
  have ta0 := ta_text_bool
  have ta1 := ta_text_int
  have ta2 := ta_text_text
  obtain ⟨i0, hi0, hz0, hs0, hy0⟩ := info_parts infoNode
  go_enter Tryz.func49, Tryz.ntmps49
  go_wp2_with fail
  refine (kind4_any _ _).mono ?_
  rintro e w1 ⟨rfl, hb1⟩
  have HB1 := hideIt hb1
  go_wp2_with fail
  refine (parts4_any _ _).mono ?_
  rintro e w2 ⟨rfl, hb2⟩
  have HM := hideIt (Mid.start H.out hb HB1.out hb2)
  have z2 : w1.heap.size < w2.heap.size := by have := hb2.size; simp at this; omega
  clear hb1 hb2
  go_wp2_with fail
  have y0 : w2.cell? ⟨w1.heap.size, 0, none⟩ = some (.int .i64 4) := HM.out.node.cellAt 0 (by omega)
  have y1 : w2.cell? ⟨w1.heap.size, 1, none⟩ = some (.int .i64 0) := HM.out.node.cellAt 1 (by omega)
  have y2 : w2.cell? ⟨w1.heap.size, 2, none⟩ = some (.string ⟨#[]⟩) := HM.out.node.cellAt 2 (by omega)
  have y3 : w2.cell? ⟨w1.heap.size, 3, none⟩ = some (.slice none 0 0) := HM.out.node.cellAt 3 (by omega)
  have y4 : w2.cell? ⟨w1.heap.size, 4, none⟩ = some (.slice none 0 0) := HM.out.node.cellAt 4 (by omega)
  have f2 : w2.frozen? ⟨w1.heap.size, 2, none⟩ = false := HM.out.node.frozenAt 2
  have HM2 := hideIt ((HM.out.put 2 (.string s)).grow (World.grownBy_alloc _ (.cells #[.string s] 99) none))
  have x0 : ((w2.setCell ⟨w1.heap.size, 2, none⟩ (.string s)).alloc (.cells #[.string s] 99)).cell? ⟨w1.heap.size, 0, none⟩ = some (.int .i64 4) := HM2.out.node.cellAt 0 (by omega)
  have x1 : ((w2.setCell ⟨w1.heap.size, 2, none⟩ (.string s)).alloc (.cells #[.string s] 99)).cell? ⟨w1.heap.size, 1, none⟩ = some (.int .i64 0) := HM2.out.node.cellAt 1 (by omega)
  have x2 : ((w2.setCell ⟨w1.heap.size, 2, none⟩ (.string s)).alloc (.cells #[.string s] 99)).cell? ⟨w1.heap.size, 2, none⟩ = some (.string s) := HM2.out.node.cellAt 2 (by omega)
  have x3 : ((w2.setCell ⟨w1.heap.size, 2, none⟩ (.string s)).alloc (.cells #[.string s] 99)).cell? ⟨w1.heap.size, 3, none⟩ = some (.slice none 0 0) := HM2.out.node.cellAt 3 (by omega)
  have x4 : ((w2.setCell ⟨w1.heap.size, 2, none⟩ (.string s)).alloc (.cells #[.string s] 99)).cell? ⟨w1.heap.size, 4, none⟩ = some (.slice none 0 0) := HM2.out.node.cellAt 4 (by omega)
  have HN := hideIt (HM2.out.nest.row.alloc (.cells #[.int .i64 4, .int .i64 0, .string s, .slice none 0 0, .slice none 0 0] 37))
  have HZ := hideIt HM2.out.frame.size
  go_loopw [0, 18] (fun o i wr => o = .slice av ns.length cv ∧ i = .int .i64 0 ∧ wr = w2) (fun _ _ _ => 0)
  case atStart => exact ⟨rfl, rfl, rfl⟩
  case round =>
    obtain ⟨rfl, rfl, hw⟩ := hrel
    rw [hw]
    clear hw
    go_wp2_with (at_builtin; refine wpList_append_own_at _ rfl _ _ 24 rfl base 37 i0 zeroNode 5 80 Tryz.underlying24 hi0 hz0 hs0 hy0 rfl (by decide) _ _ _ rfl HN.out ⟨w2.heap.size + 1, 0, none⟩ 1 1 [.int .i64 4, .int .i64 0, .string s, .slice none 0 0, .slice none 0 0] rfl rfl ?c1 ?c2 ?c3 ?c4 ?c5 ?_)
    case c1 => exact news5_at _ _ _ _ _ _ _ (by simp)
    case c2 => intro u hu; simp at hu; rcases hu with rfl | rfl | rfl | rfl | rfl <;> rfl
    case c3 => simp [maxLen]; omega
    case c4 => simp; omega
    case c5 => have := HZ.out; simp at this ⊢; omega
    intro v' w6 hown hgrow _ hat
    have HL := hideIt (Mid.fin (x := { kind := 4, n := 0, s := s, keys := [], kids := [] }) HM2.out rfl (World.ownsRow_nil _ _ _ _) (fun j _ y hy => by simp [Value.ownBlock] at hy) (by simpa using hown) hgrow (by simpa using hat))
    clear hown hgrow hat
    go_wp2_with fail
    go_ret
    exact ⟨_, _, _, rfl, HL.out⟩
end Go.Proofs.YtgmnihofkpjboaaGreatDoor
