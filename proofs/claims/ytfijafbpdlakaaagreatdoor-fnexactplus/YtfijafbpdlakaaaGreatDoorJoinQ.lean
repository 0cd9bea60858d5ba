/-
  Paths that come in: what takes their sizes from a budget; what copies them into new memory; what holds two against each other.
-/
import Derived.Test.YtfijafbpdlakaaaGreatDoorStbP
import Derived.Test.YtfijafbpdlakaaaGreatDoorProg
import Derived.Deep.OwnRows
import Derived.KernelRfl
import Derived.Deep.QuietTactic
import Derived.BigQuiet
import Derived.WalkSmall
import Derived.Deep.RegionWith
import Derived.Test.YtfijafbpdlakaaaGreatDoorSpc2
import Derived.Test.YtfijafbpdlakaaaGreatDoorNs
import Derived.Test.YtfijafbpdlakaaaGreatDoorStbN
import Derived.Test.YtfijafbpdlakaaaGreatDoorKp
import Derived.Test.YtfijafbpdlakaaaGreatDoorBSrch
import Derived.Test.YtfijafbpdlakaaaGreatDoorStepN
import Derived.Deep.DrawnRows
import Derived.Test.YtfijafbpdlakaaaGreatDoorGotP
import Derived.Test.YtfijafbpdlakaaaGreatDoorVal
import Derived.Test.YtfijafbpdlakaaaGreatDoorSPart
import Derived.Test.YtfijafbpdlakaaaGreatDoorIPlsM
namespace Go.Proofs.YtfijafbpdlakaaaGreatDoor
open Go.RowKit
set_option linter.unusedSimpArgs false
set_option linter.unusedVariables false

abbrev RawSteps (B : Nat) (w : World) (v : Value) (ps : List PS) : Prop := StepsIn 9223372036854775807 9223372036854775807 B w v ps
abbrev StepsAt (B : Nat) (w : World) (v : Value) (ps : List PS) : Prop := StepsIn 1048576 1048576 B w v ps

def zeroStep : Value := .agg #[.bool false, .string ByteArray.empty, .int .i64 0]
theorem infoStep : (Tryz.prog.info? 100).map (fun i => (i.zero, i.size, i.bytes)) = some (some zeroStep, 3, 32) := by kernel_rfl
def madeSteps (n : Nat) : Array Value := madeCells zeroStep.cells (n * 3)
theorem size_madeSteps (n : Nat) : (madeSteps n).size = n * 3 := size_madeCells _ _

def stepCell (ps : List PS) (j : Nat) : Value :=
  if j % 3 = 0 then .bool (stepAt ps (j / 3)).named
  else if j % 3 = 1 then .string (stepAt ps (j / 3)).key
  else .int .i64 (stepAt ps (j / 3)).pl
theorem stepCell0 (ps : List PS) (i : Nat) : stepCell ps (i * 3) = .bool (stepAt ps i).named := by
  unfold stepCell
  rw [if_pos (by omega), show i * 3 / 3 = i by omega]
theorem stepCell1 (ps : List PS) (i : Nat) : stepCell ps (i * 3 + 1) = .string (stepAt ps i).key := by
  unfold stepCell
  rw [if_neg (by omega), if_pos (by omega), show (i * 3 + 1) / 3 = i by omega]
theorem stepCell2 (ps : List PS) (i : Nat) : stepCell ps (i * 3 + 2) = .int .i64 (stepAt ps i).pl := by
  unfold stepCell
  rw [if_neg (by omega), if_neg (by omega), show (i * 3 + 2) / 3 = i by omega]

def fillStep (ps : List PS) (z : Nat → Value) (k j : Nat) : Value := if j < k * 3 then stepCell ps j else z j

theorem fillStep_step {w : World} {b t m k : Nat} {ps : List PS} {z : Nat → Value} (h : w.rowIs b t m (fillStep ps z k)) :
    (((w.setCell ⟨b, k * 3, none⟩ (.bool (stepAt ps k).named)).setCell ⟨b, k * 3 + 1, none⟩ (.string (stepAt ps k).key)).setCell ⟨b, k * 3 + 2, none⟩ (.int .i64 (stepAt ps k).pl)).rowIs b t m (fillStep ps z (k + 1)) := by
  refine (((h.set (k * 3) _).set (k * 3 + 1) _).set (k * 3 + 2) _).congr fun j _ => ?_
  by_cases e2 : j = k * 3 + 2
  · subst e2
    rw [if_pos rfl, fillStep, if_pos (by omega), stepCell2]
  rw [if_neg e2]
  by_cases e1 : j = k * 3 + 1
  · subst e1
    rw [if_pos rfl, fillStep, if_pos (by omega), stepCell1]
  rw [if_neg e1]
  by_cases e0 : j = k * 3
  · subst e0
    rw [if_pos rfl, fillStep, if_pos (by omega), stepCell0]
  rw [if_neg e0]
  unfold fillStep
  by_cases hj : j < k * 3
  · rw [if_pos hj, if_pos (by omega)]
  · rw [if_neg hj, if_neg (by omega)]

theorem rowIs_below' {B b t n : Nat} {w w' : World} {f : Nat → Value} (h : w.rowIs b t n f) (hb : Below B w w') (hB : b < B) : w'.rowIs b t n f := h.of_block (hb.block b hB)

theorem ownSteps {w : World} {b : Nat} {ps : List PS} (h : w.rowIs b 100 (ps.length * 3) (stepCell ps)) (h1 : ps.length ≤ 1048576) (h2 : ∀ i, i < ps.length → (stepAt ps i).key.size ≤ 1048576 ∧ -9223372036854775808 ≤ (stepAt ps i).pl ∧ (stepAt ps i).pl ≤ 9223372036854775807) :
    StepsAt w.heap.size w (.slice (some ⟨b, 0, none⟩) ps.length ps.length) ps := by
  refine ⟨h1, h2, _, _, rfl, fun _ => ⟨b, 0, rfl, h.lt, fun i hi => ?_⟩⟩
  rw [Nat.zero_add]
  refine ⟨?_, ?_, ?_⟩
  · rw [h.cell (by omega), stepCell0]
  · rw [h.cell (by omega), stepCell1]
  · rw [h.cell (by omega), stepCell2]

end Go.Proofs.YtfijafbpdlakaaaGreatDoor

/-
  PathOk of the specification and of the program: both say the same of every path.
-/
namespace Go.Proofs.YtfijafbpdlakaaaGreatDoor
open Go.RowKit
set_option linter.unusedSimpArgs false
set_option linter.unusedVariables false

theorem stepB_named {x : PS} (h : x.named = true) : stepB x = (textB x.key && decide (x.pl = 0)) := by simp [stepB, h]
theorem stepB_plain {x : PS} (h : x.named = false) : stepB x = (decide (x.key.toList = []) && inB x.pl 0 80) := by simp [stepB, h, inB]

end Go.Proofs.YtfijafbpdlakaaaGreatDoor

/-
  impl.treeOf: the parts of a value as pointers.
-/
namespace Go.Proofs.YtfijafbpdlakaaaGreatDoor
open Go.RowKit
set_option linter.unusedSimpArgs false
set_option linter.unusedVariables false
attribute [local go_sem ↓] Go.wp_at_zero Go.wp_at_succ

theorem ta_bool_map (x : Value) (w : World) : (Instr.typeAssert (.iface 105 x) 54 94 true).run Tryz.prog w = .ok (.tuple #[.agg #[.slice none 0 0, .slice none 0 0], .bool false]) w := by kernel_rfl
theorem ta_int_map (x : Value) (w : World) : (Instr.typeAssert (.iface 86 x) 54 94 true).run Tryz.prog w = .ok (.tuple #[.agg #[.slice none 0 0, .slice none 0 0], .bool false]) w := by kernel_rfl
theorem ta_text_map (x : Value) (w : World) : (Instr.typeAssert (.iface 89 x) 54 94 true).run Tryz.prog w = .ok (.tuple #[.agg #[.slice none 0 0, .slice none 0 0], .bool false]) w := by kernel_rfl

theorem mp_1 (x : Value) (w : World) : (method 316 132 x "loop.example/g00345/impl.parts").run Tryz.prog w = .ok (155, x) w := by kernel_rfl
theorem mp_2 (x : Value) (w : World) : (method 316 105 x "loop.example/g00345/impl.parts").run Tryz.prog w = .ok (151, x) w := by kernel_rfl
theorem mp_3 (x : Value) (w : World) : (method 316 86 x "loop.example/g00345/impl.parts").run Tryz.prog w = .ok (143, x) w := by kernel_rfl
theorem mp_4 (x : Value) (w : World) : (method 316 89 x "loop.example/g00345/impl.parts").run Tryz.prog w = .ok (145, x) w := by kernel_rfl
theorem mp_5 (x : Value) (w : World) : (method 316 91 x "loop.example/g00345/impl.parts").run Tryz.prog w = .ok (147, x) w := by kernel_rfl
theorem mp_6 (x : Value) (w : World) : (method 316 94 x "loop.example/g00345/impl.parts").run Tryz.prog w = .ok (149, x) w := by kernel_rfl

end Go.Proofs.YtfijafbpdlakaaaGreatDoor

/-
  impl.treeOf at maps, and at every value.
-/
namespace Go.Proofs.YtfijafbpdlakaaaGreatDoor
open Go.RowKit
set_option linter.unusedSimpArgs false
set_option linter.unusedVariables false
attribute [local go_sem ↓] Go.wp_at_zero Go.wp_at_succ

end Go.Proofs.YtfijafbpdlakaaaGreatDoor

/-
  (*impl.treePart).find: where a step leads, in a part.
-/
namespace Go.Proofs.YtfijafbpdlakaaaGreatDoor
open Go.RowKit
set_option linter.unusedSimpArgs false
set_option linter.unusedVariables false

def findR (kind : Int) (keys : List ByteArray) (n : Nat) (x : PS) : Int × Bool :=
  if kind = 5 then (if x.named = false ∧ x.pl ≤ (n : Int) then (x.pl, decide (x.pl < (n : Int))) else (-1, false))
  else if kind = 6 ∧ x.named = true then ((posK keys x.key : Nat), hasK keys x.key)
  else (-1, false)

theorem findR_some {kind : Int} {keys : List ByteArray} {n k : Nat} {x : PS} (h0 : x.named = true ∨ 0 ≤ x.pl) (h : stepTo kind keys n x = some k) : findR kind keys n x = ((k : Int), true) := by
  unfold stepTo at h
  unfold findR
  split at h
  · rename_i hn
    split at h
    · rename_i h1
      simp only [Option.some.injEq] at h
      subst h
      rw [if_neg (by omega), if_pos ⟨h1.1, hn⟩, h1.2]
    · cases h
  · rename_i hn
    split at h
    · rename_i h1
      simp only [Option.some.injEq] at h
      subst h
      have hn2 : x.named = false := by simpa using hn
      have h0' : 0 ≤ x.pl := by rcases h0 with e | e; exact absurd e hn; exact e
      rw [if_pos h1.1, if_pos ⟨hn2, by omega⟩, decide_eq_true h1.2]
      congr 1
      omega
    · cases h

theorem findR_none {kind : Int} {keys : List ByteArray} {n : Nat} {x : PS} (h : stepTo kind keys n x = none) : (findR kind keys n x).2 = false := by
  unfold stepTo at h
  unfold findR
  split at h
  · rename_i hn
    split at h
    · cases h
    · rename_i h1
      by_cases h5 : kind = 5
      · rw [if_pos h5, if_neg (by rw [hn]; simp)]
      · rw [if_neg h5]
        by_cases h6 : kind = 6
        · rw [if_pos ⟨h6, hn⟩]
          cases e : hasK keys x.key
          · rfl
          · exact absurd ⟨h6, e⟩ h1
        · rw [if_neg (by rintro ⟨a, _⟩; exact h6 a)]
  · rename_i hn
    split at h
    · cases h
    · rename_i h1
      by_cases h5 : kind = 5
      · rw [if_pos h5]
        by_cases h2 : x.named = false ∧ x.pl ≤ (n : Int)
        · rw [if_pos h2]
          simp
          by_cases h3 : x.pl < (n : Int)
          · exact absurd ⟨h5, h3⟩ h1
          · omega
        · rw [if_neg h2]
      · rw [if_neg h5, if_neg (by rintro ⟨_, b⟩; exact hn b)]

theorem taf_null_list (x : Value) (w : World) : (Instr.typeAssert (.iface 132 x) 54 91 true).run Tryz.prog w = .ok (.tuple #[.agg #[.slice none 0 0], .bool false]) w := by kernel_rfl
theorem taf_bool_list (x : Value) (w : World) : (Instr.typeAssert (.iface 105 x) 54 91 true).run Tryz.prog w = .ok (.tuple #[.agg #[.slice none 0 0], .bool false]) w := by kernel_rfl
theorem taf_int_list (x : Value) (w : World) : (Instr.typeAssert (.iface 86 x) 54 91 true).run Tryz.prog w = .ok (.tuple #[.agg #[.slice none 0 0], .bool false]) w := by kernel_rfl
theorem taf_text_list (x : Value) (w : World) : (Instr.typeAssert (.iface 89 x) 54 91 true).run Tryz.prog w = .ok (.tuple #[.agg #[.slice none 0 0], .bool false]) w := by kernel_rfl
theorem taf_map_list (x : Value) (w : World) : (Instr.typeAssert (.iface 94 x) 54 91 true).run Tryz.prog w = .ok (.tuple #[.agg #[.slice none 0 0], .bool false]) w := by kernel_rfl
theorem taf_list_list (x : Value) (w : World) : (Instr.typeAssert (.iface 91 x) 54 91 true).run Tryz.prog w = .ok (.tuple #[x, .bool true]) w := by kernel_rfl

end Go.Proofs.YtfijafbpdlakaaaGreatDoor

/-
  (*impl.treePart).follow: the part to which steps lead.
-/
namespace Go.Proofs.YtfijafbpdlakaaaGreatDoor
open Go.RowKit
set_option linter.unusedSimpArgs false
set_option linter.unusedVariables false

theorem own_strs_ks {base : Nat} {w : World} {v : Value} {l : List ByteArray} (h : w.ownsRow base 9 1 v l.length (l.map .string)) (h1 : l.length ≤ 1048576) (h2 : ∀ i, i < l.length → (keyAt l i).size ≤ 140737488355328) : StrsAt w.heap.size w v l := own_strs h (by omega) h2

theorem tree_mk (vs : List VN) (f i : Nat) : treeOf vs (f + 1) i = .mk (nodeAt vs i).kind (nodeAt vs i).n (nodeAt vs i).s (nodeAt vs i).keys ((nodeAt vs i).kids.map fun k => treeOf vs f k.toNat) := rfl

/-- A node of kind 6 has keys that rise, as many as parts. -/
theorem node6 {vs : List VN} (hok : okB vs = true) {i : Nat} (hi : i < vs.length) (h6 : (nodeAt vs i).kind = 6) : Rise (nodeAt vs i).keys ∧ (nodeAt vs i).keys.length = (nodeAt vs i).kids.length ∧ (nodeAt vs i).keys.length ≤ 80 ∧ ∀ j, j < (nodeAt vs i).keys.length → (keyAt (nodeAt vs i).keys j).size ≤ 140737488355328 := by
  have hn := ((okB_parts hok).2.1 i hi).1
  have hk := keys_few hok i hi
  unfold nodeB namedB at hn
  simp [h6] at hn
  refine ⟨riseB_rise hn.2.2, hn.2.1, hk.2.2, fun j hj => ?_⟩
  have hr := hn.2.2
  unfold riseB at hr
  rw [List.all_eq_true] at hr
  have := hr j (List.mem_range.2 hj)
  unfold riseAt textB at this
  simp only [Bool.and_eq_true, decide_eq_true_eq] at this
  omega

/-- The node, if there is one, as the answer of follow. -/
def folPtr (o : Option Nat) (p : Nat) : Value := match o with
  | none => .pointer none
  | some _ => .pointer (some ⟨p, 0, none⟩)

end Go.Proofs.YtfijafbpdlakaaaGreatDoor

/-
  spec.Got: the nodes of the part to which the steps lead.
-/
namespace Go.Proofs.YtfijafbpdlakaaaGreatDoor
open Go.RowKit
set_option linter.unusedSimpArgs false
set_option linter.unusedVariables false

def kidR (o : Option Nat) : Int := match o with
  | none => -1
  | some k => k

set_option maxRecDepth 100000 in
set_option maxHeartbeats 1600000 in
theorem l6Kid_any (B : Nat) (x : VN) (ka ki : Value) (s : PS) (w : World) (h : NodeIn B w x ka ki) (hB : B ≤ w.heap.size) (h6 : x.kind = 6 → Rise x.keys ∧ x.keys.length ≤ 80) (hs : s.named = true ∨ 0 ≤ s.pl) (hl : x.kids.length ≤ 1048576) (hpl : -9223372036854775808 ≤ s.pl ∧ s.pl ≤ 9223372036854775807) :
    Calls Tryz.prog 59 #[.agg #[.int .i64 x.kind, .int .i64 x.n, .string x.s, ka, ki], .agg #[.bool s.named, .string s.key, .int .i64 s.pl]] w fun e w' => e = .returned (.int .i64 (kidR (stepN x s))) ∧ Below w.heap.size w w' := by
  obtain ⟨hkn, hks, a1, c1, e1, hkc⟩ := h.keys
  obtain ⟨_, _, a2, c2, e2, _⟩ := h.kids
  have HKC := hideIt hkc
  have H6 := hideIt h6
  subst e1 e2
  clear h hkc h6
  obtain ⟨nm, ky, pl⟩ := s
  simp only at hs hpl ⊢
  obtain ⟨hp1, hp2⟩ := hpl
  have hba : Below w.heap.size w ((w.alloc (.cells #[.int .i64 x.kind, .int .i64 x.n, .string x.s, .slice a1 x.keys.length c1, .slice a2 x.kids.length c2] 34)).alloc (.cells #[.bool nm, .string ky, .int .i64 pl] 100)) := ((Below.refl _ _).alloc (Nat.le_refl _) _).alloc (by simp) _
  cases nm
  · have h0 : 0 ≤ pl := by rcases hs with e | e; cases e; exact e
    by_cases h5 : x.kind = 5
    · by_cases hlt : pl < (x.kids.length : Int)
      · have HR : Hid (kidR (stepN x ⟨false, ky, pl⟩) = pl) := by unfold Hid stepN stepTo; simp [h5, hlt, kidR]; omega
        go_enter Tryz.func59, Tryz.ntmps59
        go_wp2_with fail
        go_ret
        exact ⟨ret_int HR.out.symm, ((Below.refl _ _).alloc (Nat.le_refl _) _).alloc (by simp) _⟩
      · have HR : Hid (kidR (stepN x ⟨false, ky, pl⟩) = -1) := by unfold Hid stepN stepTo; simp [hlt, kidR]
        go_enter Tryz.func59, Tryz.ntmps59
        go_wp2_with fail
        go_ret
        exact ⟨ret_int HR.out.symm, ((Below.refl _ _).alloc (Nat.le_refl _) _).alloc (by simp) _⟩
    · have HR : Hid (kidR (stepN x ⟨false, ky, pl⟩) = -1) := by unfold Hid stepN stepTo; simp [h5, kidR]
      have h5' : (x.kind == 5) = false := by simpa using h5
      go_enter Tryz.func59, Tryz.ntmps59
      go_wp2_with fail
      go_ret
      exact ⟨ret_int HR.out.symm, hba⟩
  · have HBA := hideIt hba
    have x0 : ((w.alloc (.cells #[.int .i64 x.kind, .int .i64 x.n, .string x.s, .slice a1 x.keys.length c1, .slice a2 x.kids.length c2] 34)).alloc (.cells #[.bool true, .string ky, .int .i64 pl] 100)).cell? ⟨w.heap.size, 0, none⟩ = some (.int .i64 x.kind) := by simp
    have x3 : ((w.alloc (.cells #[.int .i64 x.kind, .int .i64 x.n, .string x.s, .slice a1 x.keys.length c1, .slice a2 x.kids.length c2] 34)).alloc (.cells #[.bool true, .string ky, .int .i64 pl] 100)).cell? ⟨w.heap.size, 3, none⟩ = some (.slice a1 x.keys.length c1) := by simp
    have y1 : ((w.alloc (.cells #[.int .i64 x.kind, .int .i64 x.n, .string x.s, .slice a1 x.keys.length c1, .slice a2 x.kids.length c2] 34)).alloc (.cells #[.bool true, .string ky, .int .i64 pl] 100)).cell? ⟨w.heap.size + 1, 1, none⟩ = some (.string ky) := by simp
    have sz : ((w.alloc (.cells #[.int .i64 x.kind, .int .i64 x.n, .string x.s, .slice a1 x.keys.length c1, .slice a2 x.kids.length c2] 34)).alloc (.cells #[.bool true, .string ky, .int .i64 pl] 100)).heap.size = w.heap.size + 1 + 1 := by simp
    clear hba
    go_enter Tryz.func59, Tryz.ntmps59
    go_wp2_with fail
    generalize ((w.alloc (.cells #[.int .i64 x.kind, .int .i64 x.n, .string x.s, .slice a1 x.keys.length c1, .slice a2 x.kids.length c2] 34)).alloc (.cells #[.bool true, .string ky, .int .i64 pl] 100)) = W1 at *
    have hW : w.heap.size + 1 < W1.heap.size := by omega
    have HX := hideIt (And.intro x0 (And.intro x3 y1))
    clear x0 x3 y1 sz
    go_loopw [5] (fun i wr => ∃ (k : Nat), i = .int .i64 k ∧ (x.kind = 6 → k ≤ x.keys.length) ∧ Hid (∀ j, j < k → (keyAt x.keys j).toList ≠ ky.toList) ∧ Below W1.heap.size W1 wr) (fun i _ => x.keys.length + 1 - (intOf i).toNat)
    case atStart => exact ⟨0, rfl, fun _ => Nat.zero_le _, fun j hj => by omega, Below.refl _ _⟩
    case round =>
      obtain ⟨k, rfl, hk, HF, hbl⟩ := hrel
      have z0 : wr.cell? ⟨w.heap.size, 0, none⟩ = some (.int .i64 x.kind) := (below_cell hbl (by omega)).trans HX.out.1
      have z3 : wr.cell? ⟨w.heap.size, 3, none⟩ = some (.slice a1 x.keys.length c1) := (below_cell hbl (by omega)).trans HX.out.2.1
      have z1 : wr.cell? ⟨w.heap.size + 1, 1, none⟩ = some (.string ky) := (below_cell hbl (by omega)).trans HX.out.2.2
      have HB2 : Hid (Below w.heap.size w wr) := HBA.out.trans (hbl.mono (by omega))
      by_cases e6 : x.kind = 6
      · have hk6 := hk e6
        by_cases hlt : k < x.keys.length
        · obtain ⟨b, o, rfl, hbB, hc⟩ := HKC.out (by omega)
          have hck : wr.cell? ⟨b, o + k, none⟩ = some (.string (keyAt x.keys k)) := (below_cell hbl (by omega)).trans ((below_cell HBA.out (by omega)).trans (hc k hlt))
          clear hc hk
          by_cases he : (keyAt x.keys k).toList = ky.toList
          · have HR : Hid (kidR (stepN x ⟨true, ky, pl⟩) = (k : Int)) := by
              obtain ⟨g1, g2⟩ := hasK_first (H6.out e6).1 hlt he HF.out
              unfold Hid stepN stepTo
              simp [e6, g1, g2, kidR]
            have hz : ((keyAt x.keys k).toList == ky.toList) = true := by simp [he]
            go_wp2_with fail
            go_quiet (fail)
            go_wp2_with fail
            go_ret
            exact ⟨ret_int HR.out.symm, below_drewN HB2.out nq⟩
          · have HF2 : Hid (∀ j, j < k + 1 → (keyAt x.keys j).toList ≠ ky.toList) := fun j hj => by
              by_cases e : j = k
              · subst e; exact he
              · exact HF.out j (by omega)
            have hz : ((keyAt x.keys k).toList == ky.toList) = false := by simpa using he
            go_wp2_with fail
            go_quiet (fail)
            go_wp2_with fail
            go_roundw
            case rel => exact ⟨k + 1, by go_num, fun _ => by omega, HF2, below_drewN hbl nq⟩
            case measure => simp [intOf]; omega
        · obtain rfl : k = x.keys.length := by omega
          have HR : Hid (kidR (stepN x ⟨true, ky, pl⟩) = -1) := by unfold Hid stepN stepTo; simp [hasK_none HF.out, kidR]
          have hlt' : ¬ ((x.keys.length : Int) < (x.keys.length : Int)) := by omega
          go_wp2_with fail
          go_ret
          exact ⟨ret_int HR.out.symm, HB2.out⟩
      · have HR : Hid (kidR (stepN x ⟨true, ky, pl⟩) = -1) := by unfold Hid stepN stepTo; simp [e6, kidR]
        have e6' : (x.kind == 6) = false := by simpa using e6
        go_wp2_with fail
        go_ret
        exact ⟨ret_int HR.out.symm, HB2.out⟩

/-- The nodes that come of it. -/
def gotPart (vs : List VN) (o : Option Nat) : List VN := match o with
  | none => []
  | some q => partOf vs q
def gotB (vs : List VN) (ps : List PS) : Bool := okB vs && pathB ps && (gotN vs (vs.length - 1) ps).isSome
def gotNs (vs : List VN) (ps : List PS) : List VN := if okB vs && pathB ps then (gotPart vs (gotN vs (vs.length - 1) ps)) else []

theorem pathB_steps {ps : List PS} (h : pathB ps = true) : ∀ k, k < ps.length → stepB (stepAt ps k) = true := by
  unfold pathB at h
  simp only [Bool.and_eq_true, List.all_eq_true] at h
  exact fun k hk => h.2 k (List.mem_range.2 hk)

theorem stepB_nonneg {x : PS} (h : stepB x = true) : x.named = true ∨ 0 ≤ x.pl := by
  unfold stepB at h
  cases hnm : x.named
  · right; simp [hnm] at h; omega
  · exact Or.inl rfl

end Go.Proofs.YtfijafbpdlakaaaGreatDoor

/-
  Two maps in one, for the specification's side: what l6Kid says of a key; bounds of the joined nodes.
-/
namespace Go.Proofs.YtfijafbpdlakaaaGreatDoor
open Go.RowKit
set_option linter.unusedSimpArgs false
set_option linter.unusedVariables false

theorem kid_has {x : VN} {key : ByteArray} (h6 : x.kind = 6) : decide (kidR (stepN x ⟨true, key, 0⟩) < 0) = !hasK x.keys key := by
  unfold stepN stepTo
  simp only [h6]
  cases h : hasK x.keys key
  · simp [kidR, h]
  · simp [kidR, h]
    try omega

/-- The joined nodes, in the order that is said by ns and ps. -/
theorem join_bounds {us vs : List VN} (h1 : okB us = true) (h2 : okB vs = true) (hk1 : (rootN us).kind = 6) (hk2 : (rootN vs).kind = 6) (hfu : ∀ i, i < us.length → Fits (nodeAt us i)) (hfv : ∀ i, i < vs.length → Fits (nodeAt vs i)) {ns : List ByteArray} {ps : List Nat}
    (hs : sortIn (joinK us vs) (joinK us vs).length = some (ns, ps)) (hs1 : ∀ i, i < ns.length → (keyAt ns i).size ≤ 140737488355328) :
    joinNs us vs = makeNs 6 ns (fun j => joinL us vs (ps.getD j 0)) (joinN us vs) ∧ (∀ i, i < joinN us vs → ps.getD i 0 < joinN us vs) ∧ (joinNs us vs).length ≤ 16001 ∧ ∀ i, i < (joinNs us vs).length → Nice2 (nodeAt (joinNs us vs) i) := by
  have hl := join_len (us := us) h2 hk2
  have h160 := join_few h1 h2 hk1 hk2
  have e : joinNs us vs = makeNs 6 ns (fun j => joinL us vs (ps.getD j 0)) (joinN us vs) := by unfold joinNs; rw [hs]
  have hln := sortIn_len hs
  rw [hl] at hln
  have hp : ∀ i, i < joinN us vs → ps.getD i 0 < joinN us vs := fun i hi => by
    have := sortIn_mem hs (ps.getD i 0) (by
      rw [List.getD_eq_getElem?_getD, List.getElem?_eq_getElem (by omega)]
      exact List.getElem_mem _)
    omega
  have p1 := PL_few hfu
  have p2 := PL_few hfv
  have e1 : partsN us = (rootKids us).length := by unfold partsN; rw [if_pos h1]
  have e2 : partsN vs = (rootKids vs).length := by unfold partsN; rw [if_pos h2]
  rw [e1] at p1
  rw [e2] at p2
  refine ⟨e, hp, ?_⟩
  rw [e]
  refine make_nice2 (by omega) (fun i hi => join_okB h1 h2 hk1 _ (hp i hi)) (fun i hi => ?_) (by omega) (by omega) (by omega) hs1
  have hq := hp i hi
  unfold joinN at hq
  unfold joinL
  split
  · rename_i h; exact (p2.2 _ h).2
  · rename_i h; exact (p1.2 _ (more_lt h1 hk1 (by omega))).2
end Go.Proofs.YtfijafbpdlakaaaGreatDoor
