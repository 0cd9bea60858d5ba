/-
  The program's filterWriter: writeWhole at any kind that binds most.
-/
import Derived.Test.YtehihemfepbmfaaGreatDoorIFyD
import Derived.Test.YtehihemfepbmfaaGreatDoorIFyE
import Derived.Test.YtehihemfepbmfaaGreatDoorFImp1
namespace Go.Proofs.YtehihemfepbmfaaGreatDoor
open Go.RowKit
set_option linter.unusedSimpArgs false
set_option linter.unusedVariables false

theorem kinds23w {k : Int} (h1 : 1 ≤ k) (h2 : k ≤ 23) : k = 1 ∨ k = 2 ∨ k = 3 ∨ k = 4 ∨ k = 5 ∨ k = 6 ∨ k = 7 ∨ k = 8 ∨ k = 9 ∨ k = 10 ∨ k = 11 ∨ k = 12 ∨ k = 13 ∨ k = 14 ∨ k = 15 ∨ k = 16 ∨ k = 17 ∨ k = 18 ∨ k = 19 ∨ k = 20 ∨ k = 21 ∨ k = 22 ∨ k = 23 := by omega
theorem kind_inw {x : FN} (h : fnodeB x = true) : 1 ≤ x.kind ∧ x.kind ≤ 23 := by
  obtain ⟨_, _, fo, _⟩ := fit_kids h
  by_cases h8 : x.kind = 8
  · omega
  by_cases h9 : x.kind = 9
  · omega
  exact ⟨(fo h8 h9).1, (fo h8 h9).2.1⟩

theorem bodyF_1 {R : Int → Int → List UInt8} {x : FN} (h : x.kind = 1) (hn : x.name.size = 0) : bodyF R x = [46] ++ x.name.data.toList := by
  have : x.name.data.toList = [] := List.eq_nil_of_length_eq_zero (by rw [len_is]; exact hn)
  rw [this]; unfold bodyF; rw [h]; rfl
theorem bodyF_2 {R : Int → Int → List UInt8} {x : FN} (h : x.kind = 2) : bodyF R x = [46] ++ x.name.data.toList := by unfold bodyF; rw [h]; rfl
theorem bodyF_3 {R : Int → Int → List UInt8} {x : FN} (h : x.kind = 3) : bodyF R x = [46, 91] ++ Lib.itoa x.place ++ [93] := by unfold bodyF; rw [h]; rfl
theorem bodyF_4 {R : Int → Int → List UInt8} {x : FN} (h : x.kind = 4) : bodyF R x = [46, 91, 93] := by unfold bodyF; rw [h]; rfl
theorem bodyF_5 {R : Int → Int → List UInt8} {x : FN} (h : x.kind = 5) : bodyF R x = cstT x.cst := by unfold bodyF; rw [h]; rfl
theorem bodyF_8 {R : Int → Int → List UInt8} {x : FN} (h : x.kind = 8) : bodyF R x = [91] ++ (if x.kids.length = 0 then [] else R (intAt x.kids 0) 1) ++ [93] := by unfold bodyF; rw [h]; rfl
theorem bodyF_9 {R : Int → Int → List UInt8} {x : FN} (h : x.kind = 9) : bodyF R x = [123] ++ rowF R x.names x.kids x.kids.length ++ [125] := by unfold bodyF; rw [h]; rfl
theorem bodyF_10 {R : Int → Int → List UInt8} {x : FN} (h : x.kind = 10) : bodyF R x = [115, 101, 108, 101, 99, 116, 40] ++ R (intAt x.kids 0) 1 ++ [41] := by unfold bodyF; rw [h]; rfl
theorem bodyF_11 {R : Int → Int → List UInt8} {x : FN} (h : x.kind = 11) : bodyF R x = [108, 101, 110, 103, 116, 104] := by unfold bodyF; rw [h]; rfl
theorem bodyF_12 {R : Int → Int → List UInt8} {x : FN} (h : x.kind = 12) : bodyF R x = [107, 101, 121, 115] := by unfold bodyF; rw [h]; rfl
theorem bodyF_13 {R : Int → Int → List UInt8} {x : FN} (h : x.kind = 13) : bodyF R x = [110, 111, 116] := by unfold bodyF; rw [h]; rfl
theorem bodyF_14 {R : Int → Int → List UInt8} {x : FN} (h : x.kind = 14) : bodyF R x = [101, 109, 112, 116, 121] := by unfold bodyF; rw [h]; rfl
theorem bodyF_22 {R : Int → Int → List UInt8} {x : FN} (h : x.kind = 22) : bodyF R x = [105, 102, 32] ++ R (intAt x.kids 0) 1 ++ [32, 116, 104, 101, 110, 32] ++ R (intAt x.kids 1) 1 ++ [32, 101, 108, 115, 101, 32] ++ R (intAt x.kids 2) 1 ++ [32, 101, 110, 100] := by unfold bodyF; rw [h]; rfl
theorem bodyF_23 {R : Int → Int → List UInt8} {x : FN} (h : x.kind = 23) : bodyF R x = R (intAt x.kids 0) 6 ++ [63] := by unfold bodyF; rw [h]; rfl
theorem isJ_kinds {k : Int} (h1 : 1 ≤ k) (h2 : k ≤ 23) (hJ : isJ k = true) : k = 6 ∨ k = 7 ∨ k = 15 ∨ k = 16 ∨ k = 17 ∨ k = 18 ∨ k = 19 ∨ k = 20 ∨ k = 21 ∨ k = 23 := by
  rcases kinds23w h1 h2 with h | h | h | h | h | h | h | h | h | h | h | h | h | h | h | h | h | h | h | h | h | h | h <;> subst h <;> first | (revert hJ; decide) | omega
theorem isJ_not {k : Int} (h1 : 1 ≤ k) (h2 : k ≤ 23) (hJ : isJ k = false) : k ≠ 6 ∧ k ≠ 7 ∧ k ≠ 15 ∧ k ≠ 16 ∧ k ≠ 17 ∧ k ≠ 18 ∧ k ≠ 19 ∧ k ≠ 20 ∧ k ≠ 21 ∧ k ≠ 23 := by
  refine ⟨?_, ?_, ?_, ?_, ?_, ?_, ?_, ?_, ?_, ?_⟩ <;> (rintro rfl; revert hJ; decide)
/-- A joint's text. -/
theorem bodyF_J {R : Int → Int → List UInt8} {x : FN} (h1 : 1 ≤ x.kind) (h2 : x.kind ≤ 23) (hJ : isJ x.kind = true) : bodyF R x = R (intAt x.kids 0) (lftJ x.kind) ++ sgnJ x.kind ++ (if 0 < rgtJ x.kind then R (intAt x.kids 1) (rgtJ x.kind) else []) := by
  rcases isJ_kinds h1 h2 hJ with h | h | h | h | h | h | h | h | h | h
  all_goals (unfold bodyF; rw [h]; first | rfl | simp [lftJ, sgnJ, rgtJ])

/-- The kids of a node are written. -/
def KidsR (B b : Nat) (F : Value) (fs : List FN) (f : Nat) (x : FN) : Prop := ∀ j, j < x.kids.length → ∃ q : Nat, intAt x.kids j = q ∧ ∀ least, 1 ≤ least → least ≤ 6 → FwR B b F fs q least (fTxt fs f (intAt x.kids j) least)

theorem whole_any {B b : Nat} {F : Value} {fs : List FN} {f : Nat} {x : FN} {aC aK aI : Option Addr} {cC cK cI : Nat} (hx : fnodeB x = true) (hJ : isJ x.kind = false) (ih : KidsR B b F fs f x)
    (l : List UInt8) (w : World) (hin : FNodeIn B w x (.slice aC x.cst.length cC) (.slice aK x.names.length cK) (.slice aI x.kids.length cI)) (hg : GF B b F l w) (hp : FwP B F fs w) (hlen : (l ++ bodyF (fTxt fs f) x).length ≤ 100000000) :
    Calls Tryz.prog 58 #[.pointer (some ⟨b, 0, none⟩), .agg #[.int .i64 x.kind, .string x.name, .int .i64 x.place, .slice aC x.cst.length cC, .slice aK x.names.length cK, .slice aI x.kids.length cI]] w fun e w' => e = .returned (.tuple #[]) ∧ GF B b F (l ++ bodyF (fTxt fs f) x) w' ∧ Below B w w' ∧ Beside b w w' := by
  obtain ⟨f8, f9, fo, f2, f3, f5, fn, fns⟩ := fit_kids hx
  obtain ⟨k1, k2⟩ := kind_inw hx
  have hno := isJ_not k1 k2 hJ
  have hk : KidsAt B w aI x.kids.length x.kids := by
    obtain ⟨_, _, a, c, e, hc⟩ := hin.kids
    injection e with e1 e2 e3
    subst e1
    exact ⟨rfl, hc⟩
  have hn : 0 < x.names.length → ∃ b o, aK = some ⟨b, o, none⟩ ∧ b < B ∧ ∀ i, i < x.names.length → w.cell? ⟨b, o + i, none⟩ = some (.string (keyAt x.names i)) := by
    obtain ⟨_, _, a, c, e, hc⟩ := hin.names
    injection e with e1 e2 e3
    subst e1
    exact hc
  rcases kinds23w k1 k2 with h | h | h | h | h | h | h | h | h | h | h | h | h | h | h | h | h | h | h | h | h | h | h
  · rw [bodyF_1 h (fn (by omega))] at hlen ⊢
    rw [h]
    exact ww_k1 (by have := fn (by omega); omega) l w hg hp hlen
  · rw [bodyF_2 h] at hlen ⊢
    rw [h]
    refine ww_k2 ?_ l w hg hp hlen
    have := f2 h; unfold nameB at this; simp only [Bool.and_eq_true, decide_eq_true_eq] at this; exact this.1.1.2
  · rw [bodyF_3 h] at hlen ⊢
    rw [h]
    exact ww_k3 (f3 h).1 (f3 h).2 l w hg hp hlen
  · rw [bodyF_4 h] at hlen ⊢
    rw [h]
    exact ww_k4 l w hg hp hlen
  · rw [bodyF_5 h] at hlen ⊢
    rw [h]
    exact ww_k5 (f5 h) l w hin.cst hg hp hlen
  · omega
  · omega
  · rw [bodyF_8 h] at hlen ⊢
    rw [h]
    refine ww_k8 (f8 h) (fun h0 => ?_) l w hk hg hp hlen
    obtain ⟨q, hq, hr⟩ := ih 0 h0
    exact ⟨q, hq, hr 1 (by omega) (by omega)⟩
  · obtain ⟨e1, e2, e3⟩ := f9 h
    rw [bodyF_9 h] at hlen ⊢
    rw [h, ← e1]
    refine ww_k9 (by omega) (fun j hj => e3 j (by omega)) (fun j hj => ?_) l w hk (fun h0 => ?_) hg hp hlen
    · obtain ⟨q, hq, hr⟩ := ih j hj
      exact ⟨q, hq, hr 3 (by omega) (by omega)⟩
    · obtain ⟨b', o', g1, g2, g3⟩ := hn (by omega)
      exact ⟨b', o', g1, g2, fun i hi => g3 i (by omega)⟩
  · have e := (fo (by omega) (by omega)).2.2
    rw [h] at e; simp [kidsN] at e
    rw [bodyF_10 h] at hlen ⊢
    rw [h]
    obtain ⟨q, hq, hr⟩ := ih 0 (by omega)
    exact ww_k10 hq (hr 1 (by omega) (by omega)) (by omega) l w hk hg hp hlen
  · rw [bodyF_11 h] at hlen ⊢
    rw [h]
    exact ww_k11 l w hg hp hlen
  · rw [bodyF_12 h] at hlen ⊢
    rw [h]
    exact ww_k12 l w hg hp hlen
  · rw [bodyF_13 h] at hlen ⊢
    rw [h]
    exact ww_k13 l w hg hp hlen
  · rw [bodyF_14 h] at hlen ⊢
    rw [h]
    exact ww_k14 l w hg hp hlen
  · omega
  · omega
  · omega
  · omega
  · omega
  · omega
  · omega
  · have e := (fo (by omega) (by omega)).2.2
    rw [h] at e; simp [kidsN] at e
    rw [bodyF_22 h] at hlen ⊢
    rw [h]
    obtain ⟨q0, hq0, hr0⟩ := ih 0 (by omega)
    obtain ⟨q1, hq1, hr1⟩ := ih 1 (by omega)
    obtain ⟨q2, hq2, hr2⟩ := ih 2 (by omega)
    exact ww_k22 hq0 (hr0 1 (by omega) (by omega)) hq1 (hr1 1 (by omega) (by omega)) hq2 (hr2 1 (by omega) (by omega)) (by omega) l w hk hg hp hlen
  · omega
end Go.Proofs.YtehihemfepbmfaaGreatDoor

/-
  The program's check of a whole filter: it answers as okF.
-/
namespace Go.Proofs.YtehihemfepbmfaaGreatDoor
open Go.RowKit
set_option linter.unusedSimpArgs false
set_option linter.unusedVariables false

set_option maxRecDepth 100000 in
set_option maxHeartbeats 3200000 in
theorem implFilterOk_any (B : Nat) (v : Value) (fs : List FN) (w : World) (h : FNodesAt B w v fs) (hB : B ≤ w.heap.size) :
    Calls Tryz.prog 11 #[v] w fun e w' => e = .returned (.bool (okF fs)) ∧ Below w.heap.size w w' := by
  have HE : Hid (tabF fs = okF fs) := okF_eq fs
  obtain ⟨hlen, a, cap, rfl, hcell⟩ := h
  by_cases h1 : fs.length < 1
  · have HO : Hid (okF fs = false) := okF_size (Or.inl h1)
    have h1' : (fs.length : Int) < 1 := by omega
    go_enter Tryz.func11, Tryz.ntmps11
    go_wp2_with fail
    go_ret
    exact ⟨ret_bool HO.out.symm, Below.refl _ _⟩
  by_cases h2 : 40 < fs.length
  · have HO : Hid (okF fs = false) := okF_size (Or.inr h2)
    have h1' : ¬ (fs.length : Int) < 1 := by omega
    have h2' : (40 : Int) < (fs.length : Int) := by omega
    go_enter Tryz.func11, Tryz.ntmps11
    go_wp2_with fail
    go_ret
    exact ⟨ret_bool HO.out.symm, Below.refl _ _⟩
  have h1' : ¬ (fs.length : Int) < 1 := by omega
  have h2' : ¬ (40 : Int) < (fs.length : Int) := by omega
  obtain ⟨b0, o0, rfl, hb0, hc⟩ := hcell (by omega)
  clear hcell
  have hmk := run_make_row' (P := Tryz.prog) 46 49 (.slice none 0 0) 24 Tryz.underlying46 infoSl rfl .i64 .i64 fs.length (by omega) (by omega)
  go_enter Tryz.func11, Tryz.ntmps11
  go_wp2_with fail
  clear hmk
  have hr0 : (w.alloc (.cells (madeCells #[Value.slice none 0 0] fs.length) 49)).rowIs w.heap.size 49 fs.length (fillV (fun _ => undef) 0) := (World.rowIs_made w _ _ _).congr fun i _ => by simp [fillV]
  have hbz : Below w.heap.size w (w.alloc (.cells (madeCells #[Value.slice none 0 0] fs.length) 49)) := (Below.refl _ _).alloc (Nat.le_refl _) _
  go_loopw [19] (fun i wr => ∃ (k : Nat) (KV : Nat → Value), k ≤ fs.length ∧ i = .int .i64 k ∧ wr.rowIs w.heap.size 49 fs.length (fillV KV k) ∧ (∀ j, j < k → fnodeB (fnAt fs j) = true ∧ IntsAt B w (KV j) (fkids fs j)) ∧ Below w.heap.size w wr) (fun i _ => fs.length - (intOf i).toNat)
  case atStart => exact ⟨0, _, Nat.zero_le _, rfl, hr0, fun j hj => by omega, hbz⟩
  case round =>
    obtain ⟨k, KV, hk, rfl, hrow, hall, hbel⟩ := hrel
    have HA := hideIt hall
    have HC := hideIt hc
    clear hall hr0 hbz hc
    by_cases hlt : k < fs.length
    · obtain ⟨kc, kn, ki, hn⟩ := HC.out k hlt
      have hn' := hn.below (hbel.mono hB) hb0
      have c0 := hn'.c0
      have c1 := hn'.c1
      have c2 := hn'.c2
      have c3 := hn'.c3
      have c4 := hn'.c4
      have c5 := hn'.c5
      have hin := hideIt hn'.inn
      have hinw := hideIt hn.inn.kids
      have hsize := hbel.size
      have hlt0 := hrow.lt
      obtain ⟨_, aC, cC, eC, _⟩ := hn'.inn.cst
      obtain ⟨_, _, aK, cK, eK, _⟩ := hn'.inn.names
      obtain ⟨_, _, aI, cI, eI, _⟩ := hn'.inn.kids
      subst eC eK eI
      have HR := hideIt hrow
      clear hn hn' hrow
      obtain ⟨O, hO⟩ : ∃ O, O = Obj.cells #[.int .i64 (fnAt fs k).kind, .string (fnAt fs k).name, .int .i64 (fnAt fs k).place, .slice aC (fnAt fs k).cst.length cC, .slice aK (fnAt fs k).names.length cK, .slice aI (fnAt fs k).kids.length cI] 51 := ⟨_, rfl⟩
      have hbx : Below w.heap.size w (wr.alloc O) := hbel.alloc hsize _
      have hba : Below wr.heap.size wr (wr.alloc O) := (Below.refl _ _).alloc (Nat.le_refl _) _
      rw [hO] at hbx hba
      have hinx := hideIt (hin.out.below (hba.mono (by omega)))
      clear hO
      by_cases hz : zeroF (fnAt fs k) = true
      case neg =>
        have hz' : zeroF (fnAt fs k) = false := by simpa using hz
        have HO : Hid (okF fs = false) := okF_node hlt (by rw [fnodeB, hz', Bool.false_and, Bool.false_and])
        clear hz
        go_wp2_with fail
        refine (othersZero_any B (fnAt fs k) _ _ _ _ hinx.out).mono ?_
        rintro e w1 ⟨rfl, hb1⟩
        go_wp2_with fail
        go_ret
        exact ⟨ret_bool HO.out.symm, hbx.trans (hb1.mono (by simp; omega))⟩
      case pos =>
      go_wp2_with fail
      refine (othersZero_any B (fnAt fs k) _ _ _ _ hinx.out).mono ?_
      rintro e w1 ⟨rfl, hb1⟩
      have hc1 : ∀ o, w1.cell? ⟨wr.heap.size, o, none⟩ = _ := fun o => hb1.cell (p := ⟨wr.heap.size, o, none⟩) (by simp)
      have hz1 := hb1.size
      simp only [World.size_alloc] at hz1
      have hbx1 : Below w.heap.size w w1 := hbx.trans (hb1.mono (by simp; omega))
      have hinx1 := hideIt (hinx.out.below (hb1.mono (by simp; omega)))
      by_cases ho : ownF (fnAt fs k) = true
      case neg =>
        have ho' : ownF (fnAt fs k) = false := by simpa using ho
        have HO : Hid (okF fs = false) := okF_node hlt (by rw [fnodeB, ho', Bool.and_false, Bool.false_and])
        clear ho
        go_wp2_with fail
        refine (ownFieldsOk_any B (fnAt fs k) _ _ _ _ hinx1.out (by omega)).mono ?_
        rintro e w2 ⟨rfl, hb2⟩
        go_wp2_with fail
        go_ret
        exact ⟨ret_bool HO.out.symm, hbx1.trans (hb2.mono (by omega))⟩
      case pos =>
      go_wp2_with fail
      refine (ownFieldsOk_any B (fnAt fs k) _ _ _ _ hinx1.out (by omega)).mono ?_
      rintro e w2 ⟨rfl, hb2⟩
      have hc2 : ∀ o, w2.cell? ⟨wr.heap.size, o, none⟩ = _ := fun o => (hb2.cell (p := ⟨wr.heap.size, o, none⟩) (by show wr.heap.size < w1.heap.size; omega)).trans (hc1 o)
      have hz2 := hb2.size
      have hbx2 : Below w.heap.size w w2 := hbx1.trans (hb2.mono (by omega))
      have hinx2 := hideIt (hinx1.out.below (hb2.mono (by omega)))
      have hrow2 : w2.rowIs w.heap.size 49 fs.length (fillV KV k) := rowIs_below (rowIs_below (HR.out.alloc _) hb1 (by simp; omega)) hb2 (by omega)
      have HR2 := hideIt hrow2
      clear hc1 hrow2
      by_cases hf : fitF (fnAt fs k) = true
      case neg =>
        have hf' : fitF (fnAt fs k) = false := by simpa using hf
        have HO : Hid (okF fs = false) := okF_node hlt (by rw [fnodeB, hf', Bool.and_false])
        clear hf
        go_wp2_with fail
        refine (kidsFit_any B (fnAt fs k) _ _ _ _ hinx2.out).mono ?_
        rintro e w3 ⟨rfl, hb3⟩
        go_wp2_with fail
        go_ret
        exact ⟨ret_bool HO.out.symm, hbx2.trans (hb3.mono (by omega))⟩
      case pos =>
      have HN : Hid (fnodeB (fnAt fs k) = true) := by rw [Hid, fnodeB, hz, ho, hf]; rfl
      go_wp2_with fail
      refine (kidsFit_any B (fnAt fs k) _ _ _ _ hinx2.out).mono ?_
      rintro e w3 ⟨rfl, hb3⟩
      have hc3 : ∀ o, w3.cell? ⟨wr.heap.size, o, none⟩ = _ := fun o => (hb3.cell (p := ⟨wr.heap.size, o, none⟩) (by show wr.heap.size < w2.heap.size; omega)).trans (hc2 o)
      have hbx3 : Below w.heap.size w w3 := hbx2.trans (hb3.mono (by omega))
      have hrow3 : w3.rowIs w.heap.size 49 fs.length (fillV KV k) := rowIs_below HR2.out hb3 (by omega)
      have hcs := hrow3.cell hlt
      have hfs := hrow3.frozen k
      have hnew := hideIt (fillV_step (v := .slice aI (fnAt fs k).kids.length cI) hrow3)
      have hbn := hideIt (hbx3.setCell (p := ⟨w.heap.size, k, none⟩) (Nat.le_refl _) (.slice aI (fnAt fs k).kids.length cI))
      have HA2 : Hid (∀ j, j < k + 1 → fnodeB (fnAt fs j) = true ∧ IntsAt B w (if j = k then .slice aI (fnAt fs k).kids.length cI else KV j) (fkids fs j)) := fun j hj => by
        by_cases e : j = k
        · subst e; rw [if_pos rfl]; exact ⟨HN.out, hinw.out⟩
        · rw [if_neg e]; exact HA.out j (by omega)
      clear hrow3 hc2
      go_wp2_with fail
      go_roundw
      case rel => exact ⟨k + 1, _, by omega, by go_num, hnew.out, HA2.out, hbn.out⟩
      case measure => simp [intOf]; omega
    · obtain rfl : k = fs.length := by omega
      have HO : Hid (okF fs = standB (fkids fs) fs.length 12) := HE.out.symm.trans (tabF_all (by omega) (by omega) (fun j hj => (HA.out j hj).1))
      have hlt0 := hrow.lt
      have HR := hideIt hrow
      clear hrow
      go_wp2_with fail
      refine (nodesStand_any 12 (w.heap.size + 1) w.heap.size fs.length (fkids fs) KV _ (by omega) (by omega) (by omega) (by omega) (fun i hi => ⟨?_, ?_⟩)).mono ?_
      · rw [HR.out.cell hi, fillV, if_pos hi]
      · exact ((HA.out i hi).2.below (hbel.mono hB)).wide (by omega)
      · rintro e w1 ⟨rfl, hb1⟩
        go_wp2_with fail
        go_ret
        exact ⟨ret_bool HO.out.symm, hbel.trans (hb1.mono (by omega))⟩
end Go.Proofs.YtehihemfepbmfaaGreatDoor
