/-
  The copy of all nodes of a filter: it lies in new memory and holds what came in.
-/
import Derived.Test.YtbclgogolimbgaaFTo
namespace Go.Proofs.Ytbclgogolimbgaa
open Go.RowKit
set_option linter.unusedSimpArgs false
set_option linter.unusedVariables false

def zeroFNode : Value := .agg #[.int .i64 0, .string ByteArray.empty, .int .i64 0, .slice none 0 0, .slice none 0 0, .slice none 0 0]
theorem infoFNode : (Try.prog.info? 104).map (fun i => (i.zero, i.size, i.bytes)) = some (some zeroFNode, 6, 104) := by kernel_rfl

def madeFNodes (n : Nat) : Array Value := madeCells zeroFNode.cells (n * 6)
theorem size_madeFNodes (n : Nat) : (madeFNodes n).size = n * 6 := size_madeCells _ _

theorem run_make_fnodes (n : Nat) (hb : 104 * n ≤ 281474976710656) (w : World) :
    (Instr.makeSlice 53 (.int .i64 (n : Int)) (.int .i64 (n : Int))).run Try.prog w = .ok (.slice (some ⟨w.heap.size, 0, none⟩) n n) (w.alloc (.cells (madeFNodes n) 104)) := by
  obtain ⟨i, hi, hzz⟩ := Option.map_eq_some_iff.1 infoFNode
  simp only [Prod.mk.injEq] at hzz
  obtain ⟨hz, hs, hby⟩ := hzz
  have hr := run_make (P := Try.prog) w 53 104 i zeroFNode Try.underlying53 hi hz .i64 .i64 n n (by omega) (Int.le_refl _) (by rw [hby]; omega) (by omega)
  simp only [Int.toNat_natCast, hs] at hr
  exact hr

/-- Where the rows of a node lie. -/
structure FBq where
  bc : Nat
  kb : Nat → Nat
  ki : Nat → Nat
  bk : Nat
  bi : Nat

def fCell (fs : List FN) (Q : Nat → FBq) (j : Nat) : Value :=
  if j % 6 = 0 then .int .i64 (fnAt fs (j / 6)).kind
  else if j % 6 = 1 then .string (fnAt fs (j / 6)).name
  else if j % 6 = 2 then .int .i64 (fnAt fs (j / 6)).place
  else if j % 6 = 3 then .slice (some ⟨(Q (j / 6)).bc, 0, none⟩) (fnAt fs (j / 6)).cst.length (fnAt fs (j / 6)).cst.length
  else if j % 6 = 4 then .slice (some ⟨(Q (j / 6)).bk, 0, none⟩) (fnAt fs (j / 6)).names.length (fnAt fs (j / 6)).names.length
  else .slice (some ⟨(Q (j / 6)).bi, 0, none⟩) (fnAt fs (j / 6)).kids.length (fnAt fs (j / 6)).kids.length

theorem fCell0 (fs : List FN) (Q : Nat → FBq) (i : Nat) : fCell fs Q (i * 6) = .int .i64 (fnAt fs i).kind := by
  unfold fCell
  rw [if_pos (by omega), show i * 6 / 6 = i by omega]
theorem fCell1 (fs : List FN) (Q : Nat → FBq) (i : Nat) : fCell fs Q (i * 6 + 1) = .string (fnAt fs i).name := by
  unfold fCell
  rw [if_neg (by omega), if_pos (by omega), show (i * 6 + 1) / 6 = i by omega]
theorem fCell2 (fs : List FN) (Q : Nat → FBq) (i : Nat) : fCell fs Q (i * 6 + 2) = .int .i64 (fnAt fs i).place := by
  unfold fCell
  rw [if_neg (by omega), if_neg (by omega), if_pos (by omega), show (i * 6 + 2) / 6 = i by omega]
theorem fCell3 (fs : List FN) (Q : Nat → FBq) (i : Nat) : fCell fs Q (i * 6 + 3) = .slice (some ⟨(Q i).bc, 0, none⟩) (fnAt fs i).cst.length (fnAt fs i).cst.length := by
  unfold fCell
  rw [if_neg (by omega), if_neg (by omega), if_neg (by omega), if_pos (by omega), show (i * 6 + 3) / 6 = i by omega]
theorem fCell4 (fs : List FN) (Q : Nat → FBq) (i : Nat) : fCell fs Q (i * 6 + 4) = .slice (some ⟨(Q i).bk, 0, none⟩) (fnAt fs i).names.length (fnAt fs i).names.length := by
  unfold fCell
  rw [if_neg (by omega), if_neg (by omega), if_neg (by omega), if_neg (by omega), if_pos (by omega), show (i * 6 + 4) / 6 = i by omega]
theorem fCell5 (fs : List FN) (Q : Nat → FBq) (i : Nat) : fCell fs Q (i * 6 + 5) = .slice (some ⟨(Q i).bi, 0, none⟩) (fnAt fs i).kids.length (fnAt fs i).kids.length := by
  unfold fCell
  rw [if_neg (by omega), if_neg (by omega), if_neg (by omega), if_neg (by omega), if_neg (by omega), show (i * 6 + 5) / 6 = i by omega]

def fillF (fs : List FN) (Q : Nat → FBq) (z : Nat → Value) (k j : Nat) : Value := if j < k * 6 then fCell fs Q j else z j
def updB (Q : Nat → FBq) (k : Nat) (q : FBq) (i : Nat) : FBq := if i = k then q else Q i
theorem updB_same (Q : Nat → FBq) (k : Nat) (q : FBq) : updB Q k q k = q := if_pos rfl
theorem updB_other (Q : Nat → FBq) {k i : Nat} (q : FBq) (h : i ≠ k) : updB Q k q i = Q i := if_neg h

theorem fCell_upd {fs : List FN} {Q : Nat → FBq} {k j : Nat} {q : FBq} (h : j < k * 6) : fCell fs (updB Q k q) j = fCell fs Q j := by
  unfold fCell
  simp only [updB_other Q q (show j / 6 ≠ k by omega)]

theorem fillF_step {w : World} {b t m k : Nat} {fs : List FN} {Q : Nat → FBq} {z : Nat → Value} (q : FBq) (h : w.rowIs b t m (fillF fs Q z k)) :
    ((((((w.setCell ⟨b, k * 6, none⟩ (.int .i64 (fnAt fs k).kind)).setCell ⟨b, k * 6 + 1, none⟩ (.string (fnAt fs k).name)).setCell ⟨b, k * 6 + 2, none⟩ (.int .i64 (fnAt fs k).place)).setCell ⟨b, k * 6 + 3, none⟩
      (.slice (some ⟨q.bc, 0, none⟩) (fnAt fs k).cst.length (fnAt fs k).cst.length)).setCell ⟨b, k * 6 + 4, none⟩ (.slice (some ⟨q.bk, 0, none⟩) (fnAt fs k).names.length (fnAt fs k).names.length)).setCell ⟨b, k * 6 + 5, none⟩ (.slice (some ⟨q.bi, 0, none⟩) (fnAt fs k).kids.length (fnAt fs k).kids.length)).rowIs b t m
      (fillF fs (updB Q k q) z (k + 1)) := by
  refine ((((((h.set (k * 6) _).set (k * 6 + 1) _).set (k * 6 + 2) _).set (k * 6 + 3) _).set (k * 6 + 4) _).set (k * 6 + 5) _).congr fun j _ => ?_
  by_cases e5 : j = k * 6 + 5
  · subst e5
    rw [if_pos rfl, fillF, if_pos (by omega), fCell5, updB_same]
  rw [if_neg e5]
  by_cases e4 : j = k * 6 + 4
  · subst e4
    rw [if_pos rfl, fillF, if_pos (by omega), fCell4, updB_same]
  rw [if_neg e4]
  by_cases e3 : j = k * 6 + 3
  · subst e3
    rw [if_pos rfl, fillF, if_pos (by omega), fCell3, updB_same]
  rw [if_neg e3]
  by_cases e2 : j = k * 6 + 2
  · subst e2
    rw [if_pos rfl, fillF, if_pos (by omega), fCell2]
  rw [if_neg e2]
  by_cases e1 : j = k * 6 + 1
  · subst e1
    rw [if_pos rfl, fillF, if_pos (by omega), fCell1]
  rw [if_neg e1]
  by_cases e0 : j = k * 6
  · subst e0
    rw [if_pos rfl, fillF, if_pos (by omega), fCell0]
  rw [if_neg e0]
  unfold fillF
  by_cases hj : j < k * 6
  · rw [if_pos hj, if_pos (by omega), fCell_upd hj]
  · rw [if_neg hj, if_neg (by omega)]

/-- The rows of the first k nodes lie in new memory from block lo on. -/
def OwnsF (w : World) (fs : List FN) (lo : Nat) (Q : Nat → FBq) (k : Nat) : Prop := ∀ i, i < k → OwnF w (fnAt fs i) lo (Q i).bc (Q i).kb (Q i).ki (Q i).bk (Q i).bi

theorem OwnsF.below {w w' : World} {fs : List FN} {lo k : Nat} {Q : Nat → FBq} (h : OwnsF w fs lo Q k) (hb : Below w.heap.size w w') : OwnsF w' fs lo Q k := fun i hi => (h i hi).below hb
theorem OwnsF.other {w : World} {fs : List FN} {lo k c o : Nat} {Q : Nat → FBq} (h : OwnsF w fs lo Q k) (hc : c < lo) (v : Value) : OwnsF (w.setCell ⟨c, o, none⟩ v) fs lo Q k := fun i hi => (h i hi).other hc v
theorem OwnsF.step {w : World} {fs : List FN} {lo k : Nat} {Q : Nat → FBq} (h : OwnsF w fs lo Q k) (q : FBq) (hq : OwnF w (fnAt fs k) lo q.bc q.kb q.ki q.bk q.bi) : OwnsF w fs lo (updB Q k q) (k + 1) := by
  intro i hi
  by_cases e : i = k
  · subst e; rw [updB_same]; exact hq
  · rw [updB_other Q q e]; exact h i (by omega)

set_option maxHeartbeats 1600000 in
theorem toFNodeS_any (B : Nat) (v : Value) (fs : List FN) (w : World) (h : FNodesAt B w v fs) (hB : B ≤ w.heap.size) :
    Calls Try.prog 33 #[v] w fun e w' => e = .returned (.slice (some ⟨w.heap.size, 0, none⟩) fs.length fs.length) ∧
      FNodesAt w'.heap.size w' (.slice (some ⟨w.heap.size, 0, none⟩) fs.length fs.length) fs ∧ Below w.heap.size w w' := by
  obtain ⟨hlen, a, cap, rfl, hcell⟩ := h
  have hmk := run_make_fnodes fs.length (by omega)
  have HC := hideIt hcell
  clear hcell
  go_enter Try.func33, Try.ntmps33
  go_wp2_with fail
  clear hmk
  obtain ⟨z, hz⟩ : ∃ z : Nat → Value, ∀ i, i < (madeFNodes fs.length).size → (madeFNodes fs.length)[i]? = some (z i) := ⟨fun i => ((madeFNodes fs.length)[i]?).getD undef, fun i hi => by simp [hi]⟩
  have hr0 := World.rowIs_alloc w _ 104 z hz
  rw [size_madeFNodes] at hr0
  have hr1 : (w.alloc (.cells (madeFNodes fs.length) 104)).rowIs w.heap.size 104 (fs.length * 6) (fillF fs (fun _ => ⟨0, fun _ => 0, fun _ => 0, 0, 0⟩) z 0) := hr0.congr fun i _ => by simp [fillF]
  have hb0 : Below w.heap.size w (w.alloc (.cells (madeFNodes fs.length) 104)) := (Below.refl _ _).alloc (Nat.le_refl _) _
  clear hz hr0
  go_loopw [4] (fun i wr => ∃ (k : Nat) (Q : Nat → FBq), k ≤ fs.length ∧ i = .int .i64 k ∧ wr.rowIs w.heap.size 104 (fs.length * 6) (fillF fs Q z k) ∧ OwnsF wr fs (w.heap.size + 1) Q k ∧ Below w.heap.size w wr) (fun i _ => fs.length - (intOf i).toNat)
  case atStart => exact ⟨0, _, Nat.zero_le _, rfl, hr1, fun i hi => by omega, hb0⟩
  case round =>
    obtain ⟨k, Q, hk, rfl, hrow, hown, hbel⟩ := hrel
    clear hr1 hb0
    by_cases hlt : k < fs.length
    · obtain ⟨b, o, rfl, hbB, hc⟩ := HC.out (by omega)
      obtain ⟨kc, kn, ki, hn⟩ := hc k hlt
      have hn' := hn.below (hbel.mono hB) hbB
      have c0 := hn'.c0
      have c1 := hn'.c1
      have c2 := hn'.c2
      have c3 := hn'.c3
      have c4 := hn'.c4
      have c5 := hn'.c5
      have hin := hideIt hn'.inn
      have hsize := hbel.size
      have hlt0 := hrow.lt
      clear hc hn hn'
      go_wp2_with fail
      refine (toFNode_any B (fnAt fs k) kc kn ki _ hin.out (by omega)).mono ?_
      rintro e w1 ⟨bc, KB, KI, bk, bi, rfl, hof, hb1⟩
      have hrow1 := rowIs_below hrow hb1 hlt0
      have hcs0 := hrow1.cell (i := k * 6) (by omega)
      have hcs1 := hrow1.cell (i := k * 6 + 1) (by omega)
      have hcs2 := hrow1.cell (i := k * 6 + 2) (by omega)
      have hcs3 := hrow1.cell (i := k * 6 + 3) (by omega)
      have hcs4 := hrow1.cell (i := k * 6 + 4) (by omega)
      have hcs5 := hrow1.cell (i := k * 6 + 5) (by omega)
      have hfs := hrow1.frozen
      have hnew := hideIt (fillF_step ⟨bc, KB, KI, bk, bi⟩ hrow1)
      have hst := hideIt ((hown.below hb1).step ⟨bc, KB, KI, bk, bi⟩ (hof.lower (by omega)))
      have hbel1 : Below w.heap.size w w1 := hbel.trans (hb1.mono hsize)
      clear hof hown hrow hrow1
      go_wp2_with fail
      go_roundw
      case rel =>
        refine ⟨k + 1, _, by omega, by go_num, hnew.out, ?_, ?_⟩
        · refine OwnsF.other ?_ (by omega) _
          refine OwnsF.other ?_ (by omega) _
          refine OwnsF.other ?_ (by omega) _
          refine OwnsF.other ?_ (by omega) _
          refine OwnsF.other ?_ (by omega) _
          refine OwnsF.other ?_ (by omega) _
          exact hst.out
        · refine Below.setCell (Below.setCell (Below.setCell (Below.setCell (Below.setCell (Below.setCell hbel1 ?_ _) ?_ _) ?_ _) ?_ _) ?_ _) ?_ _ <;> simp
      case measure => simp [intOf]; omega
    · obtain rfl : k = fs.length := by omega
      have HR := hideIt hrow
      have HOW := hideIt hown
      clear hrow hown
      go_wp2_with fail
      go_ret
      refine ⟨rfl, ⟨hlen, _, _, rfl, fun hp => ⟨w.heap.size, 0, rfl, HR.out.lt, fun i hi => ?_⟩⟩, hbel⟩
      obtain ⟨b, o, _, hbB, hc⟩ := HC.out hp
      obtain ⟨kc, kn, ki, hn⟩ := hc i hi
      refine ⟨_, _, _, ?_, ?_, ?_, ?_, ?_, ?_, (HOW.out i hi).inn hn.inn⟩
      · rw [Nat.zero_add, HR.out.cell (by omega), fillF, if_pos (by omega), fCell0]
      · rw [Nat.zero_add, HR.out.cell (by omega), fillF, if_pos (by omega), fCell1]
      · rw [Nat.zero_add, HR.out.cell (by omega), fillF, if_pos (by omega), fCell2]
      · rw [Nat.zero_add, HR.out.cell (by omega), fillF, if_pos (by omega), fCell3]; rfl
      · rw [Nat.zero_add, HR.out.cell (by omega), fillF, if_pos (by omega), fCell4]; rfl
      · rw [Nat.zero_add, HR.out.cell (by omega), fillF, if_pos (by omega), fCell5]; rfl
end Go.Proofs.Ytbclgogolimbgaa
