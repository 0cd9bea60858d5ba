/-
  The program's check of a whole value: it answers as the specification's.
-/
import Derived.Test.YtgmnihofkpjboaaDoorImp1
import Derived.Test.YtgmnihofkpjboaaDoorImp2
namespace Go.Proofs.YtgmnihofkpjboaaDoor
open Go.RowKit
set_option linter.unusedSimpArgs false
set_option linter.unusedVariables false

theorem infoSl : (Tryd.prog.info? 37).map (fun i => (i.zero, i.size, i.bytes)) = some (some (.slice none 0 0), 1, 24) := by kernel_rfl

def fillV (KV : Nat → Value) (k j : Nat) : Value := if j < k then KV j else .slice none 0 0
theorem fillV_step {w : World} {b t n k : Nat} {KV : Nat → Value} {v : Value} (h : w.rowIs b t n (fillV KV k)) : (w.setCell ⟨b, k, none⟩ v).rowIs b t n (fillV (fun j => if j = k then v else KV j) (k + 1)) := by
  refine (h.set k _).congr fun i _ => ?_
  unfold fillV
  by_cases e : i = k
  · subst e; rw [if_pos rfl, if_pos (by omega)]; simp
  · rw [if_neg e]; by_cases g : i < k
    · rw [if_pos g, if_pos (by omega)]; simp [e]
    · rw [if_neg g, if_neg (by omega)]

theorem tabB_size {vs : List VN} (h : vs.length < 1 ∨ 80 < vs.length) : tabB vs = false := by
  have : sizeB vs = false := by simp [sizeB]; omega
  simp [tabB, this]

theorem tabB_node {vs : List VN} {k : Nat} (hk : k < vs.length) (h : nodeB (nodeAt vs k) = false) : tabB vs = false := by
  unfold tabB
  rw [show ((List.range vs.length).all fun i => nodeB (nodeAt vs i)) = false from ?_, Bool.and_false, Bool.false_and]
  rw [List.all_eq_false]
  exact ⟨k, List.mem_range.2 hk, by simp [h]⟩

theorem tabB_all {vs : List VN} (h1 : 1 ≤ vs.length) (h2 : vs.length ≤ 80) (h : ∀ k, k < vs.length → nodeB (nodeAt vs k) = true) : tabB vs = standB (kidsOf vs) vs.length 8 := by
  unfold tabB
  rw [show ((List.range vs.length).all fun i => nodeB (nodeAt vs i)) = true from ?_]
  · rw [show sizeB vs = true by simp [sizeB, h1, h2], Bool.true_and, Bool.true_and, standB]
    have hr : rootB vs = rootK (kidsOf vs) vs.length 8 := by
      unfold rootB rootK
      cases tr (kidsOf vs) (vs.length - 1) with
      | none => rfl
      | some p =>
        have : ((p.2 : Int) ≤ 8) ↔ p.2 ≤ 8 := by omega
        simp only [this]
    rw [hr]
  · rw [List.all_eq_true]
    exact fun k hk => h k (List.mem_range.1 hk)

set_option maxRecDepth 100000 in
set_option maxHeartbeats 3200000 in
theorem implOk_any (B : Nat) (v : Value) (vs : List VN) (w : World) (h : NodesAt B w v vs) (hB : B ≤ w.heap.size) :
    Calls Tryd.prog 47 #[v] w fun e w' => e = .returned (.bool (okB vs)) ∧ Below w.heap.size w w' := by
  have HE : Hid (tabB vs = okB vs) := okB_eq vs
  obtain ⟨hlen, a, cap, rfl, hcell⟩ := h
  by_cases h1 : vs.length < 1
  · have HO : Hid (okB vs = false) := okB_size (Or.inl h1)
    have h1' : (vs.length : Int) < 1 := by omega
    go_enter Tryd.func47, Tryd.ntmps47
    go_wp2_with fail
    go_ret
    exact ⟨ret_bool HO.out.symm, Below.refl _ _⟩
  by_cases h2 : 80 < vs.length
  · have HO : Hid (okB vs = false) := okB_size (Or.inr h2)
    have h1' : ¬ (vs.length : Int) < 1 := by omega
    have h2' : (80 : Int) < (vs.length : Int) := by omega
    go_enter Tryd.func47, Tryd.ntmps47
    go_wp2_with fail
    go_ret
    exact ⟨ret_bool HO.out.symm, Below.refl _ _⟩
  have h1' : ¬ (vs.length : Int) < 1 := by omega
  have h2' : ¬ (80 : Int) < (vs.length : Int) := by omega
  obtain ⟨b0, o0, rfl, hb0, hc⟩ := hcell (by omega)
  clear hcell
  have hmk := run_make_row' (P := Tryd.prog) 94 37 (.slice none 0 0) 24 Tryd.underlying94 infoSl rfl .i64 .i64 vs.length (by omega) (by omega)
  go_enter Tryd.func47, Tryd.ntmps47
  go_wp2_with fail
  clear hmk
  have hr0 : (w.alloc (.cells (madeCells #[Value.slice none 0 0] vs.length) 37)).rowIs w.heap.size 37 vs.length (fillV (fun _ => undef) 0) := (World.rowIs_made w _ _ _).congr fun i _ => by simp [fillV]
  have hbz : Below w.heap.size w (w.alloc (.cells (madeCells #[Value.slice none 0 0] vs.length) 37)) := (Below.refl _ _).alloc (Nat.le_refl _) _
  go_loopw [19] (fun i wr => ∃ (k : Nat) (KV : Nat → Value), k ≤ vs.length ∧ i = .int .i64 k ∧ wr.rowIs w.heap.size 37 vs.length (fillV KV k) ∧ (∀ j, j < k → nodeB (nodeAt vs j) = true ∧ IntsAt B w (KV j) (kidsOf vs j)) ∧ Below w.heap.size w wr) (fun i _ => vs.length - (intOf i).toNat)
  case atStart => exact ⟨0, _, Nat.zero_le _, rfl, hr0, fun j hj => by omega, hbz⟩
  case round =>
    obtain ⟨k, KV, hk, rfl, hrow, hall, hbel⟩ := hrel
    have HA := hideIt hall
    have HC := hideIt hc
    clear hall hr0 hbz hc
    by_cases hlt : k < vs.length
    · obtain ⟨ka, ki, hn⟩ := HC.out k hlt
      have hn' := hn.below (hbel.mono hB) hb0
      have c0 := hn'.c0
      have c1 := hn'.c1
      have c2 := hn'.c2
      have c3 := hn'.c3
      have c4 := hn'.c4
      have hin := hideIt hn'.inn
      have hinw := hideIt hn.inn.kids
      have hsize := hbel.size
      have hlt0 := hrow.lt
      obtain ⟨_, _, aK, cK, eK, _⟩ := hn'.inn.keys
      obtain ⟨_, _, aI, cI, eI, _⟩ := hn'.inn.kids
      subst eK eI
      have HR := hideIt hrow
      clear hn hn' hrow
      have hbx : Below w.heap.size w (wr.alloc (.cells #[.int .i64 (nodeAt vs k).kind, .int .i64 (nodeAt vs k).n, .string (nodeAt vs k).s, .slice aK (nodeAt vs k).keys.length cK, .slice aI (nodeAt vs k).kids.length cI] 41)) := hbel.alloc hsize _
      have hba : Below wr.heap.size wr (wr.alloc (.cells #[.int .i64 (nodeAt vs k).kind, .int .i64 (nodeAt vs k).n, .string (nodeAt vs k).s, .slice aK (nodeAt vs k).keys.length cK, .slice aI (nodeAt vs k).kids.length cI] 41)) := (Below.refl _ _).alloc (Nat.le_refl _) _
      have hinx := hideIt (hin.out.below (hba.mono (by omega)))
      by_cases hu : unnamedB (nodeAt vs k) = true
      · go_wp2_with fail
        refine (unnamedZero_any B (nodeAt vs k) _ _ _ hinx.out).mono ?_
        rintro e w1 ⟨rfl, hb1⟩
        have hc1 : ∀ o, w1.cell? ⟨wr.heap.size, o, none⟩ = (wr.alloc (.cells #[.int .i64 (nodeAt vs k).kind, .int .i64 (nodeAt vs k).n, .string (nodeAt vs k).s, .slice aK (nodeAt vs k).keys.length cK, .slice aI (nodeAt vs k).kids.length cI] 41)).cell? ⟨wr.heap.size, o, none⟩ := fun o => hb1.cell (p := ⟨wr.heap.size, o, none⟩) (by simp)
        have hz1 := hb1.size
        simp only [World.size_alloc] at hz1
        have hbx1 : Below w.heap.size w w1 := hbx.trans (hb1.mono (by simp; omega))
        have hinx1 := hideIt (hinx.out.below (hb1.mono (by simp; omega)))
        by_cases hm : namedB (nodeAt vs k) = true
        · have HN : Hid (nodeB (nodeAt vs k) = true) := by rw [Hid, nodeB, hu, hm]; rfl
          go_wp2_with fail
          refine (namedOk_any B (nodeAt vs k) _ _ _ hinx1.out (by omega)).mono ?_
          rintro e w2 ⟨rfl, hb2⟩
          have hc2 : ∀ o, w2.cell? ⟨wr.heap.size, o, none⟩ = (wr.alloc (.cells #[.int .i64 (nodeAt vs k).kind, .int .i64 (nodeAt vs k).n, .string (nodeAt vs k).s, .slice aK (nodeAt vs k).keys.length cK, .slice aI (nodeAt vs k).kids.length cI] 41)).cell? ⟨wr.heap.size, o, none⟩ := fun o => (hb2.cell (p := ⟨wr.heap.size, o, none⟩) (by show wr.heap.size < w1.heap.size; omega)).trans (hc1 o)
          have hbx2 : Below w.heap.size w w2 := hbx1.trans (hb2.mono (by omega))
          have hrow2 : w2.rowIs w.heap.size 37 vs.length (fillV KV k) := rowIs_below (rowIs_below (HR.out.alloc _) hb1 (by simp; omega)) hb2 (by omega)
          have hcs := hrow2.cell hlt
          have hfs := hrow2.frozen k
          have hnew := hideIt (fillV_step (v := .slice aI (nodeAt vs k).kids.length cI) hrow2)
          have hbn := hideIt (hbx2.setCell (p := ⟨w.heap.size, k, none⟩) (Nat.le_refl _) (.slice aI (nodeAt vs k).kids.length cI))
          have HA2 : Hid (∀ j, j < k + 1 → nodeB (nodeAt vs j) = true ∧ IntsAt B w (if j = k then .slice aI (nodeAt vs k).kids.length cI else KV j) (kidsOf vs j)) := fun j hj => by
            by_cases e : j = k
            · subst e; rw [if_pos rfl]; exact ⟨HN.out, hinw.out⟩
            · rw [if_neg e]; exact HA.out j (by omega)
          clear hrow2
          go_wp2_with fail
          go_roundw
          case rel => exact ⟨k + 1, _, by omega, by go_num, hnew.out, HA2.out, hbn.out⟩
          case measure => simp [intOf]; omega
        · have hm' : namedB (nodeAt vs k) = false := by simpa using hm
          have HO : Hid (okB vs = false) := okB_node hlt (by rw [nodeB, hm', Bool.and_false])
          clear hm
          go_wp2_with fail
          refine (namedOk_any B (nodeAt vs k) _ _ _ hinx1.out (by omega)).mono ?_
          rintro e w2 ⟨rfl, hb2⟩
          go_wp2_with fail
          go_ret
          exact ⟨ret_bool HO.out.symm, hbx1.trans (hb2.mono (by omega))⟩
      · have hu' : unnamedB (nodeAt vs k) = false := by simpa using hu
        have HO : Hid (okB vs = false) := okB_node hlt (by rw [nodeB, hu', Bool.false_and])
        clear hu
        go_wp2_with fail
        refine (unnamedZero_any B (nodeAt vs k) _ _ _ hinx.out).mono ?_
        rintro e w1 ⟨rfl, hb1⟩
        go_wp2_with fail
        go_ret
        exact ⟨ret_bool HO.out.symm, hbx.trans (hb1.mono (by simp; omega))⟩
    · obtain rfl : k = vs.length := by omega
      have HO : Hid (okB vs = standB (kidsOf vs) vs.length 8) := HE.out.symm.trans (tabB_all (by omega) (by omega) (fun j hj => (HA.out j hj).1))
      have hlt0 := hrow.lt
      have HR := hideIt hrow
      clear hrow
      go_wp2_with fail
      refine (nodesStand_any 8 (w.heap.size + 1) w.heap.size vs.length (kidsOf vs) KV _ (by omega) (by omega) (by omega) (by omega) (fun i hi => ⟨?_, ?_⟩)).mono ?_
      · rw [HR.out.cell hi, fillV, if_pos hi]
      · exact ((HA.out i hi).2.below (hbel.mono hB)).wide (by omega)
      · rintro e w1 ⟨rfl, hb1⟩
        go_wp2_with fail
        go_ret
        exact ⟨ret_bool HO.out.symm, hbel.trans (hb1.mono (by omega))⟩
end Go.Proofs.YtgmnihofkpjboaaDoor
