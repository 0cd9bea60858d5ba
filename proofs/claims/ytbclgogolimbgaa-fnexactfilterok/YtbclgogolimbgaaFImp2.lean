/-
  The program's check of a whole filter: it answers as okF.
-/
import Derived.Test.YtbclgogolimbgaaFImp1
namespace Go.Proofs.Ytbclgogolimbgaa
open Go.RowKit
set_option linter.unusedSimpArgs false
set_option linter.unusedVariables false

set_option maxRecDepth 100000 in
set_option maxHeartbeats 3200000 in
theorem implFilterOk_any (B : Nat) (v : Value) (fs : List FN) (w : World) (h : FNodesAt B w v fs) (hB : B ≤ w.heap.size) :
    Calls Try.prog 34 #[v] w fun e w' => e = .returned (.bool (okF fs)) ∧ Below w.heap.size w w' := by
  have HE : Hid (tabF fs = okF fs) := okF_eq fs
  obtain ⟨hlen, a, cap, rfl, hcell⟩ := h
  by_cases h1 : fs.length < 1
  · have HO : Hid (okF fs = false) := okF_size (Or.inl h1)
    have h1' : (fs.length : Int) < 1 := by omega
    go_enter Try.func34, Try.ntmps34
    go_wp2_with fail
    go_ret
    exact ⟨ret_bool HO.out.symm, Below.refl _ _⟩
  by_cases h2 : 40 < fs.length
  · have HO : Hid (okF fs = false) := okF_size (Or.inr h2)
    have h1' : ¬ (fs.length : Int) < 1 := by omega
    have h2' : (40 : Int) < (fs.length : Int) := by omega
    go_enter Try.func34, Try.ntmps34
    go_wp2_with fail
    go_ret
    exact ⟨ret_bool HO.out.symm, Below.refl _ _⟩
  have h1' : ¬ (fs.length : Int) < 1 := by omega
  have h2' : ¬ (40 : Int) < (fs.length : Int) := by omega
  obtain ⟨b0, o0, rfl, hb0, hc⟩ := hcell (by omega)
  clear hcell
  have hmk := run_make_row' (P := Try.prog) 107 70 (.slice none 0 0) 24 Try.underlying107 infoSl rfl .i64 .i64 fs.length (by omega) (by omega)
  go_enter Try.func34, Try.ntmps34
  go_wp2_with fail
  clear hmk
  have hr0 : (w.alloc (.cells (madeCells #[Value.slice none 0 0] fs.length) 70)).rowIs w.heap.size 70 fs.length (fillV (fun _ => undef) 0) := (World.rowIs_made w _ _ _).congr fun i _ => by simp [fillV]
  have hbz : Below w.heap.size w (w.alloc (.cells (madeCells #[Value.slice none 0 0] fs.length) 70)) := (Below.refl _ _).alloc (Nat.le_refl _) _
  go_loopw [19] (fun i wr => ∃ (k : Nat) (KV : Nat → Value), k ≤ fs.length ∧ i = .int .i64 k ∧ wr.rowIs w.heap.size 70 fs.length (fillV KV k) ∧ (∀ j, j < k → fnodeB (fnAt fs j) = true ∧ IntsAt B w (KV j) (fkids fs j)) ∧ Below w.heap.size w wr) (fun i _ => fs.length - (intOf i).toNat)
  case atStart => exact ⟨0, _, Nat.zero_le _, rfl, hr0, fun j hj => by omega, hbz⟩
  case round =>
    obtain ⟨k, KV, hk, rfl, hrow, hall, hbel⟩ := hrel
    have HA := hideIt hall
    have HC := hideIt hc
    clear hall hr0 hbz hc
    by_cases hlt : k < fs.length
    · obtain ⟨kc, kn, ki, hn⟩ := HC.out k hlt
      have hn' := hn.below (hbel.mono hB) hb0
      have c0 := hn'.c0
      have c1 := hn'.c1
      have c2 := hn'.c2
      have c3 := hn'.c3
      have c4 := hn'.c4
      have c5 := hn'.c5
      have hin := hideIt hn'.inn
      have hinw := hideIt hn.inn.kids
      have hsize := hbel.size
      have hlt0 := hrow.lt
      obtain ⟨_, aC, cC, eC, _⟩ := hn'.inn.cst
      obtain ⟨_, _, aK, cK, eK, _⟩ := hn'.inn.names
      obtain ⟨_, _, aI, cI, eI, _⟩ := hn'.inn.kids
      subst eC eK eI
      have HR := hideIt hrow
      clear hn hn' hrow
      obtain ⟨O, hO⟩ : ∃ O, O = Obj.cells #[.int .i64 (fnAt fs k).kind, .string (fnAt fs k).name, .int .i64 (fnAt fs k).place, .slice aC (fnAt fs k).cst.length cC, .slice aK (fnAt fs k).names.length cK, .slice aI (fnAt fs k).kids.length cI] 104 := ⟨_, rfl⟩
      have hbx : Below w.heap.size w (wr.alloc O) := hbel.alloc hsize _
      have hba : Below wr.heap.size wr (wr.alloc O) := (Below.refl _ _).alloc (Nat.le_refl _) _
      rw [hO] at hbx hba
      have hinx := hideIt (hin.out.below (hba.mono (by omega)))
      clear hO
      by_cases hz : zeroF (fnAt fs k) = true
      case neg =>
        have hz' : zeroF (fnAt fs k) = false := by simpa using hz
        have HO : Hid (okF fs = false) := okF_node hlt (by rw [fnodeB, hz', Bool.false_and, Bool.false_and])
        clear hz
        go_wp2_with fail
        refine (othersZero_any B (fnAt fs k) _ _ _ _ hinx.out).mono ?_
        rintro e w1 ⟨rfl, hb1⟩
        go_wp2_with fail
        go_ret
        exact ⟨ret_bool HO.out.symm, hbx.trans (hb1.mono (by simp; omega))⟩
      case pos =>
      go_wp2_with fail
      refine (othersZero_any B (fnAt fs k) _ _ _ _ hinx.out).mono ?_
      rintro e w1 ⟨rfl, hb1⟩
      have hc1 : ∀ o, w1.cell? ⟨wr.heap.size, o, none⟩ = _ := fun o => hb1.cell (p := ⟨wr.heap.size, o, none⟩) (by simp)
      have hz1 := hb1.size
      simp only [World.size_alloc] at hz1
      have hbx1 : Below w.heap.size w w1 := hbx.trans (hb1.mono (by simp; omega))
      have hinx1 := hideIt (hinx.out.below (hb1.mono (by simp; omega)))
      by_cases ho : ownF (fnAt fs k) = true
      case neg =>
        have ho' : ownF (fnAt fs k) = false := by simpa using ho
        have HO : Hid (okF fs = false) := okF_node hlt (by rw [fnodeB, ho', Bool.and_false, Bool.false_and])
        clear ho
        go_wp2_with fail
        refine (ownFieldsOk_any B (fnAt fs k) _ _ _ _ hinx1.out (by omega)).mono ?_
        rintro e w2 ⟨rfl, hb2⟩
        go_wp2_with fail
        go_ret
        exact ⟨ret_bool HO.out.symm, hbx1.trans (hb2.mono (by omega))⟩
      case pos =>
      go_wp2_with fail
      refine (ownFieldsOk_any B (fnAt fs k) _ _ _ _ hinx1.out (by omega)).mono ?_
      rintro e w2 ⟨rfl, hb2⟩
      have hc2 : ∀ o, w2.cell? ⟨wr.heap.size, o, none⟩ = _ := fun o => (hb2.cell (p := ⟨wr.heap.size, o, none⟩) (by show wr.heap.size < w1.heap.size; omega)).trans (hc1 o)
      have hz2 := hb2.size
      have hbx2 : Below w.heap.size w w2 := hbx1.trans (hb2.mono (by omega))
      have hinx2 := hideIt (hinx1.out.below (hb2.mono (by omega)))
      have hrow2 : w2.rowIs w.heap.size 70 fs.length (fillV KV k) := rowIs_below (rowIs_below (HR.out.alloc _) hb1 (by simp; omega)) hb2 (by omega)
      have HR2 := hideIt hrow2
      clear hc1 hrow2
      by_cases hf : fitF (fnAt fs k) = true
      case neg =>
        have hf' : fitF (fnAt fs k) = false := by simpa using hf
        have HO : Hid (okF fs = false) := okF_node hlt (by rw [fnodeB, hf', Bool.and_false])
        clear hf
        go_wp2_with fail
        refine (kidsFit_any B (fnAt fs k) _ _ _ _ hinx2.out).mono ?_
        rintro e w3 ⟨rfl, hb3⟩
        go_wp2_with fail
        go_ret
        exact ⟨ret_bool HO.out.symm, hbx2.trans (hb3.mono (by omega))⟩
      case pos =>
      have HN : Hid (fnodeB (fnAt fs k) = true) := by rw [Hid, fnodeB, hz, ho, hf]; rfl
      go_wp2_with fail
      refine (kidsFit_any B (fnAt fs k) _ _ _ _ hinx2.out).mono ?_
      rintro e w3 ⟨rfl, hb3⟩
      have hc3 : ∀ o, w3.cell? ⟨wr.heap.size, o, none⟩ = _ := fun o => (hb3.cell (p := ⟨wr.heap.size, o, none⟩) (by show wr.heap.size < w2.heap.size; omega)).trans (hc2 o)
      have hbx3 : Below w.heap.size w w3 := hbx2.trans (hb3.mono (by omega))
      have hrow3 : w3.rowIs w.heap.size 70 fs.length (fillV KV k) := rowIs_below HR2.out hb3 (by omega)
      have hcs := hrow3.cell hlt
      have hfs := hrow3.frozen k
      have hnew := hideIt (fillV_step (v := .slice aI (fnAt fs k).kids.length cI) hrow3)
      have hbn := hideIt (hbx3.setCell (p := ⟨w.heap.size, k, none⟩) (Nat.le_refl _) (.slice aI (fnAt fs k).kids.length cI))
      have HA2 : Hid (∀ j, j < k + 1 → fnodeB (fnAt fs j) = true ∧ IntsAt B w (if j = k then .slice aI (fnAt fs k).kids.length cI else KV j) (fkids fs j)) := fun j hj => by
        by_cases e : j = k
        · subst e; rw [if_pos rfl]; exact ⟨HN.out, hinw.out⟩
        · rw [if_neg e]; exact HA.out j (by omega)
      clear hrow3 hc2
      go_wp2_with fail
      go_roundw
      case rel => exact ⟨k + 1, _, by omega, by go_num, hnew.out, HA2.out, hbn.out⟩
      case measure => simp [intOf]; omega
    · obtain rfl : k = fs.length := by omega
      have HO : Hid (okF fs = standB (fkids fs) fs.length 12) := HE.out.symm.trans (tabF_all (by omega) (by omega) (fun j hj => (HA.out j hj).1))
      have hlt0 := hrow.lt
      have HR := hideIt hrow
      clear hrow
      go_wp2_with fail
      refine (nodesStand_any 12 (w.heap.size + 1) w.heap.size fs.length (fkids fs) KV _ (by omega) (by omega) (by omega) (by omega) (fun i hi => ⟨?_, ?_⟩)).mono ?_
      · rw [HR.out.cell hi, fillV, if_pos hi]
      · exact ((HA.out i hi).2.below (hbel.mono hB)).wide (by omega)
      · rintro e w1 ⟨rfl, hb1⟩
        go_wp2_with fail
        go_ret
        exact ⟨ret_bool HO.out.symm, hbel.trans (hb1.mono (by omega))⟩
end Go.Proofs.Ytbclgogolimbgaa
