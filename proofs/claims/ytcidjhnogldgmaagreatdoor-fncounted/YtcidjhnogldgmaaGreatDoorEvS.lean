import Derived.Test.YtcidjhnogldgmaaGreatDoorEvO
import Derived.Test.YtcidjhnogldgmaaGreatDoorLayG
import Derived.Test.YtcidjhnogldgmaaGreatDoorEvF
import Derived.Test.YtcidjhnogldgmaaGreatDoorTOk
namespace Go.Proofs.YtcidjhnogldgmaaGreatDoor
open Go.RowKit
set_option linter.unusedSimpArgs false
set_option linter.unusedVariables false
theorem unless_rep {f : Nat} {t : VT} {x : Value} {ns : List VN} {w : World} (ht : TreeAt w.heap.size w f t x) (hl : layT f t 0 = ns) (hn : ns.length ≤ 100000) (hf : ∀ i, i < ns.length → Fits (nodeAt ns i)) (hE : Errs2 w) : Calls Tryz.prog 116 #[x] w (OneAns (rightR ns) w) := by
  cases ok : okB ns
  · have e : rightR ns = (3, []) := by unfold rightR; rw [ok]; rfl
    rw [e]
    refine (unlessWrong_no f t x ns w ht hl hn hf hE ok).mono ?_
    rintro e w1 ⟨te, xe, rfl, hr, hb⟩
    exact ⟨.inr ⟨(show (3 : Int) ≠ 0 by decide), _, rfl, te, xe, rfl, hr⟩, hb⟩
  · have e : rightR ns = (0, ns) := by unfold rightR; rw [ok]; rfl
    rw [e]
    refine (unlessWrong_yes f t x ns w ht hl hn hf hE ok).mono ?_
    rintro e w1 ⟨rfl, hb⟩
    exact ⟨.inl ⟨rfl, x, rfl, (Rep.of ht hl ok).below hb⟩, hb⟩
theorem items_ok {w : World} {it : Value} {l : List (List VN)} (h : ItemsRep w it l) : ∀ j, j < l.length → okB (rowAt l j) = true := by
  intro j hj
  obtain ⟨b, c, t, x, _, _, hr⟩ := rep_part h hj
  exact hr.1
theorem items_tree {w : World} {it : Value} {l : List (List VN)} (h : ItemsRep w it l) : TItems w.heap.size w it (kidsL (rowAt l) l.length).length (fun j u => TreeAt w.heap.size w 80 (kidT (kidsL (rowAt l) l.length) j) u) := by
  obtain ⟨h0, a, c, rfl, hx⟩ := h
  rw [kidsL_len]
  refine ⟨h0, a, c, rfl, fun hp => ?_⟩
  obtain ⟨b, rfl, hc⟩ := hx hp
  refine ⟨b, rfl, ?_, fun j hj => ?_⟩
  · obtain ⟨t, x, h1, _⟩ := hc 0 hp
    exact cell_lt h1
  · obtain ⟨t, x, h1, h2⟩ := hc j hj
    refine ⟨t, x, h1, ?_⟩
    show TreeAt w.heap.size w 80 (kidT (kidsL (rowAt l) l.length) j) (.iface t x)
    rw [kidsL_at (rowAt l) hj]
    exact h2.2
theorem list_tree {w : World} {it : Value} {l : List (List VN)} (h : ItemsRep w it l) : TreeAt w.heap.size w 81 (.mk 5 0 ByteArray.empty [] (kidsL (rowAt l) l.length)) (.iface 107 (.agg #[it])) :=
  .inr (.inr (.inr (.inr (.inl ⟨rfl, rfl, rfl, rfl, it, rfl, items_tree h⟩))))
theorem list_rep {w : World} {it : Value} {l : List (List VN)} (h : ItemsRep w it l) (hl : l.length ≤ 200) (hE : Errs2 w) : Calls Tryz.prog 116 #[.iface 107 (.agg #[it])] w (OneAns (rightR (listNsO l)) w) := by
  have hok := items_ok h
  have hm := make_nice2 (L := rowAt l) (m := l.length) hl hok (fun i hi => ok_fits (hok i hi)) (kind := 5) (by omega) (by omega) (keys := []) (by simp) (fun i hi => absurd hi (by simp))
  exact unless_rep (list_tree h) (lay_list 5 [] (rowAt l) l.length hok) (Nat.le_trans hm.1 (by omega)) (fun i hi => (hm.2 i hi).1) hE
theorem out_items {Z : Nat} {w : World} {sv : Value} {xs : List Value} {l : List (List VN)} (h : OutRow Z w sv xs) (hl : xs.length = l.length) (h0 : l.length ≤ 100000) (hr : ∀ j, j < l.length → Rep w (rowAt l j) (xs.getD j undef)) : ItemsRep w sv l := by
  refine ⟨h0, ?_⟩
  rcases h with ⟨rfl, rfl⟩ | ⟨g, cap, rfl, hg, hh, hnc, _⟩
  · have e : l.length = 0 := by simpa using hl.symm
    exact ⟨none, 0, by rw [e], fun hp => absurd hp (by omega)⟩
  · refine ⟨some ⟨g, 0, none⟩, cap, by rw [hl], fun hp => ⟨g, rfl, fun j hj => ?_⟩⟩
    have hr := hr j hj
    obtain ⟨t, y, e⟩ := hr.iface
    refine ⟨t, y, ?_, by rw [← e]; exact hr⟩
    rw [heap_cell hh, List.getElem?_toArray, List.getElem?_append_left (by omega)]
    rw [List.getD_eq_getElem?_getD, List.getElem?_eq_getElem (show j < xs.length by omega)] at e
    rw [List.getElem?_eq_getElem (show j < xs.length by omega)]
    exact congrArg some e
theorem OutRow.below {Z : Nat} {w w' : World} {sv : Value} {xs : List Value} (h : OutRow Z w sv xs) (hb : Below w.heap.size w w') : OutRow Z w' sv xs := by
  rcases h with h | ⟨g, cap, e, h1, h2, h3⟩
  · exact .inl h
  · exact .inr ⟨g, cap, e, h1, (hb.block g (lt_heapE h2)).trans h2, h3⟩
theorem AppFr.below {Z : Nat} {w w' : World} (h : AppFr Z w w') : Below Z w w' := ⟨h.os, h.tape, h.output, h.size, h.block⟩
def numV (i : Nat) : Value := .iface 70 (.agg #[.int .i64 (i : Int)])
def wordV (s : ByteArray) : Value := .iface 72 (.agg #[.string s])
theorem rep_num (w : World) {i : Nat} (h : i ≤ 1000000) : Rep w (leafN 3 (i : Int) ByteArray.empty) (numV i) :=
  Rep.of (f := 1) (t := .mk 3 (i : Int) ByteArray.empty [] []) (.inr (.inr (.inl ⟨rfl, rfl, rfl, rfl, rfl⟩))) (leaf_lay _ _ _) (num_ok (by omega) (by omega))
theorem word_ok {s : ByteArray} (h : textB s = true) : okB (leafN 4 0 s) = true := leaf_ok (by unfold nodeB unnamedB namedB; simp [h])
theorem rep_word (w : World) {s : ByteArray} (h : textB s = true) : Rep w (leafN 4 0 s) (wordV s) :=
  Rep.of (f := 1) (t := .mk 4 0 s [] []) (.inr (.inr (.inr (.inl ⟨rfl, rfl, rfl, rfl, rfl⟩)))) (leaf_lay _ _ _) (word_ok h)
theorem keyL_len {ns : List VN} (ok : okB ns = true) (k : (rootN ns).kind = 5 ∨ (rootN ns).kind = 6) : (keyL ns).length = (rootKids ns).length := by
  unfold keyL
  rcases k with k | k
  · rw [if_neg (by omega)]; simp
  · rw [if_pos k, List.length_map]; exact (map_keys ok k).1
theorem keyL_num {ns : List VN} (k : (rootN ns).kind = 5) {j : Nat} (h : j < (rootKids ns).length) : rowAt (keyL ns) j = leafN 3 (j : Int) ByteArray.empty := by
  unfold rowAt keyL
  rw [if_neg (by omega), List.getD_eq_getElem?_getD, List.getElem?_map, List.getElem?_range h]
  rfl
theorem keyL_word {ns : List VN} (k : (rootN ns).kind = 6) {j : Nat} (h : j < (rootN ns).keys.length) : rowAt (keyL ns) j = leafN 4 0 (keyAt (rootN ns).keys j) := by
  unfold rowAt keyL keyAt
  rw [if_pos k, List.getD_eq_getElem?_getD, List.getElem?_map, List.getElem?_eq_getElem h, List.getD_eq_getElem?_getD, List.getElem?_eq_getElem h]
  rfl
set_option maxRecDepth 100000 in
set_option maxHeartbeats 6400000 in
theorem keysOf_any (ns : List VN) (x : Value) (w : World) (h : Rep w ns x) (hE : Errs2 w) : Calls Tryz.prog 130 #[x] w (OneAns (keysR ns) w) := by
  have z_null_list := tz_null_list
  have z_bool_list := tz_bool_list
  have z_int_list := tz_int_list
  have z_text_list := tz_text_list
  have z_list_list := tz_list_list
  have z_map_list := tz_map_list
  have z_null_map := tz_null_map
  have z_bool_map := tz_bool_map
  have z_int_map := tz_int_map
  have z_text_map := tz_text_map
  have z_list_map := tz_list_map
  have z_map_map := tz_map_map
  obtain ⟨R, hR⟩ : ∃ R, keysR ns = R := ⟨_, rfl⟩
  have HE := hideIt hE
  clear hE
  have no : ∀ w1, Below w.heap.size w w1 → ∀ e, R = (2, []) → ∀ v, Refuses w1 2 v → e = .returned (.tuple #[.nilIface, v]) → OneAns R w e w1 := fun w1 hb e hr v hv he => by
    subst hr
    exact ⟨.inr ⟨(show (2 : Int) ≠ 0 by decide), v, he, hv⟩, hb⟩
  have NO := hideIt no
  rw [hR]
  clear no
  have h80 : (rootKids ns).length ≤ 80 := by
    have p := okB_parts h.1
    have := p.2.2.2 (ns.length - 1) (by omega); unfold rootKids; omega
  have HOK := hideIt h.1
  rcases h.cases with ⟨k, rfl⟩ | ⟨k, rfl⟩ | ⟨k, rfl⟩ | ⟨k, rfl⟩ | ⟨k, it, rfl, hi⟩ | ⟨k, ks, it, rfl, hs, hi⟩
  case inr.inr.inr.inr.inl =>
    have HQ : Hid (R = rightR (listNsO (keyL ns))) := by rw [Hid, ← hR]; unfold keysR; rw [if_pos (.inl k)]
    obtain ⟨_, ai, ci, rfl, _⟩ := hi
    have HKL := hideIt (keyL_len h.1 (.inl k))
    have HKN : Hid (∀ j, j < (rootKids ns).length → rowAt (keyL ns) j = leafN 3 (j : Int) ByteArray.empty) := fun j hj => keyL_num k hj
    obtain ⟨M, hM⟩ : ∃ M, (partsL ns).length = M := ⟨_, rfl⟩
    have hMn : (rootKids ns).length = M := by rw [← hM, parts_len]
    rw [hM]
    rw [hMn] at HKL HKN h80
    clear h k hR hM hMn
    go_enter Tryz.func130, Tryz.ntmps130
    go_wp2_with fail
    go_loopw [4, 6, 19] (fun v _ i wr => ∃ (j : Nat) (xs : List Value), j ≤ M ∧ i = .int .i64 j ∧ OutRow w.heap.size wr v xs ∧ xs = (List.range j).map numV ∧ Below w.heap.size w wr) (fun _ _ i _ => M - (intOf i).toNat)
    case atStart => exact ⟨0, [], Nat.zero_le _, rfl, .inl ⟨rfl, rfl⟩, rfl, (Below.refl _ _).alloc (Nat.le_refl _) _⟩
    case round =>
      obtain ⟨j, xs, hj, rfl, hrow, hxs, hbel⟩ := hrel
      have HR := hideIt hrow
      have HXS := hideIt hxs
      have HB := hideIt hbel
      obtain ⟨av, cv, ev⟩ := hrow.slice
      have hxl : xs.length = j := by rw [hxs]; simp
      rw [hxl] at ev
      subst ev
      have hz := hbel.size
      have HXL := hideIt hxl
      clear hrow hxs hbel hxl
      by_cases hlt : j < M
      · have hlt' : (j : Int) < (M : Int) := by omega
        obtain ⟨W1, hW1⟩ : ∃ W1, wr.alloc (.cells #[.iface 70 (.agg #[.int .i64 (j : Int)])] 42) = W1 := ⟨_, rfl⟩
        have HB1 : Hid (Below wr.heap.size wr W1) := by rw [Hid, ← hW1]; exact (Below.refl _ _).alloc (Nat.le_refl _) _
        have k3 : Hid (W1.cell? ((⟨wr.heap.size, 0, none⟩ : Addr).add 0) = some (.iface 70 (.agg #[.int .i64 (j : Int)]))) := by rw [Hid, ← hW1]; simp [Addr.add]
        have HOR := hideIt (HR.out.below HB1.out)
        have HZ : Hid (w.heap.size ≤ W1.heap.size) := Nat.le_trans hz HB1.out.size
        have HNX : Hid (xs ++ [numV j] = (List.range (j + 1)).map numV) := by rw [Hid, List.range_succ, List.map_append, ← HXS.out]; rfl
        go_wp2_with (at_builtin; refine wpList_out (Z := w.heap.size) (xs := xs) rfl _ _ rfl rfl HOR.out ⟨wr.heap.size, 0, none⟩ 1 (.iface 70 (.agg #[.int .i64 (j : Int)])) rfl k3.out (iface_one _ _) (by have := HXL.out; omega) HZ.out ?_)
        intro sv' w2 hr2 hf2
        have HR2 := hideIt hr2
        have HB2 : Hid (Below w.heap.size w w2) := (HB.out.trans (HB1.out.mono hz)).trans hf2.below
        clear hr2 hf2
        go_wp2_with fail
        go_roundw
        case rel => exact ⟨j + 1, xs ++ [numV j], by omega, by go_num, HR2.out, HNX.out, HB2.out⟩
        case measure => simp [intOf]; omega
      · obtain rfl : j = M := by omega
        have HIT : Hid (ItemsRep wr (.slice av j cv) (keyL ns)) := by
          refine out_items HR.out (by rw [HXL.out, HKL.out]) (by rw [HKL.out]; omega) (fun i hi => ?_)
          rw [HKL.out] at hi
          rw [HKN.out i hi, HXS.out]
          have e : ((List.range j).map numV).getD i undef = numV i := by rw [List.getD_eq_getElem?_getD, List.getElem?_map, List.getElem?_range hi]; rfl
          rw [e]
          exact rep_num _ (by omega)
        have HE2 := hideIt (HE.out.below HB.out)
        go_wp2_with fail
        refine (list_rep HIT.out (by rw [HKL.out]; omega) HE2.out).mono ?_
        rw [← HQ.out]
        rintro e w2 ⟨ha, hb2⟩
        have HB2 : Hid (Below w.heap.size w w2) := HB.out.trans (hb2.mono hz)
        rcases ha with ⟨h1, y, rfl, hr⟩ | ⟨h1, y, rfl, te, xe, rfl, hr⟩
        · have H1 := hideIt h1
          have HRR := hideIt hr
          obtain ⟨t, yy, rfl⟩ := hr.iface
          clear h1 hr hb2
          go_wp2_with fail
          go_ret2
          exact ⟨.inl ⟨H1.out, _, rfl, HRR.out⟩, HB2.out⟩
        · obtain ⟨C, hC⟩ : ∃ C, R.1 = C := ⟨_, rfl⟩
          have HC := hideIt hC
          rw [hC] at h1 hr ⊢
          have H1 := hideIt h1
          have HRR := hideIt hr
          clear h1 hr hb2 hC
          go_wp2_with fail
          go_ret2
          exact ⟨.inr ⟨by rw [HC.out]; exact H1.out, _, rfl, by rw [HC.out]; exact ⟨te, xe, rfl, HRR.out⟩⟩, HB2.out⟩
  case inr.inr.inr.inr.inr =>
    have HQ : Hid (R = rightR (listNsO (keyL ns))) := by rw [Hid, ← hR]; unfold keysR; rw [if_pos (.inr k)]
    obtain ⟨_, ai, ci, rfl, _⟩ := hi
    have hmk := map_keys h.1 k
    have HKL := hideIt (keyL_len h.1 (.inr k))
    have HKN : Hid (∀ j, j < (rootKids ns).length → rowAt (keyL ns) j = leafN 4 0 (keyAt (rootN ns).keys j)) := fun j hj => keyL_word k (by rw [hmk.1]; exact hj)
    have HTX : Hid (∀ j, j < (rootKids ns).length → textB (keyAt (rootN ns).keys j) = true) := fun j hj => by
      have h1 := hmk.2
      unfold riseB at h1
      rw [List.all_eq_true] at h1
      have h2 := h1 j (List.mem_range.2 (by rw [hmk.1]; exact hj))
      unfold riseAt at h2
      rw [Bool.and_eq_true] at h2
      exact h2.1
    have HSS := hideIt hs
    obtain ⟨KL, hKL⟩ : ∃ KL, (rootN ns).keys = KL := ⟨_, rfl⟩
    have hkl : KL.length = (rootKids ns).length := by rw [← hKL]; exact hmk.1
    obtain ⟨_, _, a', c', rfl, hsc⟩ := hs
    rw [hKL] at HKN HTX hsc HSS ⊢
    rw [hkl] at hsc ⊢
    have HSC := hideIt hsc
    obtain ⟨M, hM⟩ : ∃ M, (partsL ns).length = M := ⟨_, rfl⟩
    have hMn : (rootKids ns).length = M := by rw [← hM, parts_len]
    rw [hM]
    rw [hMn] at HKL HKN HTX HSC h80 hkl ⊢
    have HKLL := hideIt hkl
    clear h k hR hM hMn hmk hkl hKL hsc
    go_enter Tryz.func130, Tryz.ntmps130
    go_wp2_with fail
    go_loopw [4, 9, 35] (fun v _ i wr => ∃ (j : Nat) (xs : List Value), j ≤ M ∧ i = .int .i64 j ∧ OutRow w.heap.size wr v xs ∧ xs = (List.range j).map (fun i => wordV (keyAt KL i)) ∧ Below w.heap.size w wr) (fun _ _ i _ => M - (intOf i).toNat)
    case atStart => exact ⟨0, [], Nat.zero_le _, rfl, .inl ⟨rfl, rfl⟩, rfl, (Below.refl _ _).alloc (Nat.le_refl _) _⟩
    case round =>
      obtain ⟨j, xs, hj, rfl, hrow, hxs, hbel⟩ := hrel
      have HR := hideIt hrow
      have HXS := hideIt hxs
      have HB := hideIt hbel
      obtain ⟨av, cv, ev⟩ := hrow.slice
      have hxl : xs.length = j := by rw [hxs]; simp
      rw [hxl] at ev
      subst ev
      have hz := hbel.size
      have HXL := hideIt hxl
      clear hrow hxs hbel hxl
      by_cases hlt : j < M
      · have hlt' : (j : Int) < (M : Int) := by omega
        obtain ⟨sb, so, rfl, hsb, hsc⟩ := HSC.out (by omega)
        have hck := (below_cell HB.out hsb).trans (hsc j hlt)
        clear hsc
        obtain ⟨W1, hW1⟩ : ∃ W1, wr.alloc (.cells #[.iface 72 (.agg #[.string (keyAt KL j)])] 42) = W1 := ⟨_, rfl⟩
        have HB1 : Hid (Below wr.heap.size wr W1) := by rw [Hid, ← hW1]; exact (Below.refl _ _).alloc (Nat.le_refl _) _
        have k3 : Hid (W1.cell? ((⟨wr.heap.size, 0, none⟩ : Addr).add 0) = some (.iface 72 (.agg #[.string (keyAt KL j)]))) := by rw [Hid, ← hW1]; simp [Addr.add]
        have HOR := hideIt (HR.out.below HB1.out)
        have HZ : Hid (w.heap.size ≤ W1.heap.size) := Nat.le_trans hz HB1.out.size
        have HNX : Hid (xs ++ [wordV (keyAt KL j)] = (List.range (j + 1)).map (fun i => wordV (keyAt KL i))) := by rw [Hid, List.range_succ, List.map_append, ← HXS.out]; rfl
        go_wp2_with (at_builtin; refine wpList_out (Z := w.heap.size) (xs := xs) rfl _ _ rfl rfl HOR.out ⟨wr.heap.size, 0, none⟩ 1 (.iface 72 (.agg #[.string (keyAt KL j)])) rfl k3.out (iface_one _ _) (by have := HXL.out; omega) HZ.out ?_)
        intro sv' w2 hr2 hf2
        have HR2 := hideIt hr2
        have HB2 : Hid (Below w.heap.size w w2) := (HB.out.trans (HB1.out.mono hz)).trans hf2.below
        clear hr2 hf2
        go_wp2_with fail
        go_roundw
        case rel => exact ⟨j + 1, xs ++ [wordV (keyAt KL j)], by omega, by go_num, HR2.out, HNX.out, HB2.out⟩
        case measure => simp [intOf]; omega
      · obtain rfl : j = M := by omega
        have HIT : Hid (ItemsRep wr (.slice av j cv) (keyL ns)) := by
          refine out_items HR.out (by rw [HXL.out, HKL.out]) (by rw [HKL.out]; omega) (fun i hi => ?_)
          rw [HKL.out] at hi
          rw [HKN.out i hi, HXS.out]
          have e : ((List.range j).map (fun i => wordV (keyAt KL i))).getD i undef = wordV (keyAt KL i) := by rw [List.getD_eq_getElem?_getD, List.getElem?_map, List.getElem?_range hi]; rfl
          rw [e]
          exact rep_word _ (HTX.out i hi)
        have HE2 := hideIt (HE.out.below HB.out)
        go_wp2_with fail
        refine (list_rep HIT.out (by rw [HKL.out]; omega) HE2.out).mono ?_
        rw [← HQ.out]
        rintro e w2 ⟨ha, hb2⟩
        have HB2 : Hid (Below w.heap.size w w2) := HB.out.trans (hb2.mono hz)
        rcases ha with ⟨h1, y, rfl, hr⟩ | ⟨h1, y, rfl, te, xe, rfl, hr⟩
        · have H1 := hideIt h1
          have HRR := hideIt hr
          obtain ⟨t, yy, rfl⟩ := hr.iface
          clear h1 hr hb2
          go_wp2_with fail
          go_ret2
          exact ⟨.inl ⟨H1.out, _, rfl, HRR.out⟩, HB2.out⟩
        · obtain ⟨C, hC⟩ : ∃ C, R.1 = C := ⟨_, rfl⟩
          have HC := hideIt hC
          rw [hC] at h1 hr ⊢
          have H1 := hideIt h1
          have HRR := hideIt hr
          clear h1 hr hb2 hC
          go_wp2_with fail
          go_ret2
          exact ⟨.inr ⟨by rw [HC.out]; exact H1.out, _, rfl, by rw [HC.out]; exact ⟨te, xe, rfl, HRR.out⟩⟩, HB2.out⟩
  all_goals
    have HQ : Hid (R = (2, [])) := by rw [Hid, ← hR]; unfold keysR; rw [if_neg (by omega)]
    clear h k hR
    go_enter Tryz.func130, Tryz.ntmps130
    go_wp2_with fail
    refine (wrongKind_any _ HE.out.errs).mono ?_
    rintro e w1 ⟨⟨v, rfl, te, xe, rfl, hrs⟩, rfl⟩
    have HRS := hideIt hrs
    clear hrs
    go_wp2_with fail
    go_ret2
    exact NO.out _ (Below.refl _ _) _ HQ.out _ ⟨te, xe, rfl, HRS.out⟩ rfl
end Go.Proofs.YtcidjhnogldgmaaGreatDoor

namespace Go.Proofs.YtcidjhnogldgmaaGreatDoor
open Go.RowKit
set_option linter.unusedSimpArgs false
set_option linter.unusedVariables false
abbrev nodeV (x : FN) (kc kn ki : Value) : Value := .agg #[.int .i64 x.kind, .string x.name, .int .i64 x.place, kc, kn, ki]
theorem cst_tree {cs : List VN} (hok : okB cs = true) (hl : cs.length = 1) {lo : Nat} {w : World} {v : Value} (hlo : lo ≤ w.heap.size) (h : ValIs lo w.heap.size w cs 1 0 v) : Rep w cs v := by
  obtain ⟨p1, p2, _, p4⟩ := okB_parts hok
  have ht := ValIs.tree hlo p2 p4 p1.2 (by omega) h
  have hw := whole_lay hok
  rw [hl] at hw
  exact Rep.of ht hw hok
set_option maxRecDepth 100000 in
set_option maxHeartbeats 25600000 in
theorem only_any {fs : List FN} {x : FN} (hx : NodeOk fs x) (B : Nat) (kc kn ki v : Value) (ns : List VN) (w : World) (hn : FNodeIn B w x kc kn ki) (hB : B ≤ w.heap.size) (hv : Rep w ns v) (hE : Errs2 w) (hk : x.kind = 1 ∨ x.kind = 2 ∨ x.kind = 3 ∨ x.kind = 5 ∨ x.kind = 11 ∨ x.kind = 12 ∨ x.kind = 13) :
    Calls Tryz.prog 92 #[nodeV x kc kn ki, v] w (OneAns (oneR x ns) w) := by
  replace hk : x.kind = 1 ∨ x.kind = 5 ∨ x.kind = 13 ∨ x.kind = 2 ∨ x.kind = 3 ∨ x.kind = 11 ∨ x.kind = 12 := by clear hn hv hE hB; omega
  have HN := hideIt hn
  have HV := hideIt hv
  have HE := hideIt hE
  obtain ⟨_, aC, cC, rfl, _⟩ := hn.cst
  obtain ⟨_, _, aK, cK, rfl, _⟩ := hn.names
  obtain ⟨_, _, aI, cI, rfl, _⟩ := hn.kids
  obtain ⟨ty, y, rfl⟩ := hv.iface
  obtain ⟨LC, hLC⟩ : ∃ LC, x.cst.length = LC := ⟨_, rfl⟩
  obtain ⟨LN, hLN⟩ : ∃ LN, x.names.length = LN := ⟨_, rfl⟩
  obtain ⟨LK, hLK⟩ : ∃ LK, x.kids.length = LK := ⟨_, rfl⟩
  obtain ⟨nm, hnm⟩ : ∃ nm, x.name = nm := ⟨_, rfl⟩
  obtain ⟨pl, hpl⟩ : ∃ pl, x.place = pl := ⟨_, rfl⟩
  have HB3 : ∀ cs, Hid (Below w.heap.size w (w.alloc (.cells cs 125))) := fun cs => (Below.refl _ _).alloc (Nat.le_refl _) _
  have HBB := hideIt HB3
  clear hn hv hE HB3
  rcases hk with k | k | k | k | k | k | k
  · have HQ : Hid (oneR x ns = (0, ns)) := by unfold Hid oneR; rw [if_neg (by omega), if_neg (by omega), if_neg (by omega), if_neg (by omega), if_neg (by omega), if_neg (by omega)]
    unfold nodeV
    rw [k, HQ.out]
    clear k
    go_enter Tryz.func92, Tryz.ntmps92
    go_wp2_with fail
    go_ret2
    exact ⟨.inl ⟨rfl, _, rfl, HV.out.below (HBB.out _).out⟩, (HBB.out _).out⟩
  · have HQ : Hid (oneR x ns = (0, x.cst)) := by unfold Hid oneR; rw [if_neg (by omega), if_neg (by omega), if_pos k]
    obtain ⟨hc1, hcok⟩ := hx.cst k
    have HCC : Hid (NodesAt B w (.slice aC LC cC) x.cst) := by have := HN.out.cst; rw [hLC] at this; exact this
    obtain ⟨p1, p2, p3, p4⟩ := okB_parts hcok
    have HP2 := hideIt p2
    have HP4 := hideIt p4
    have HCOK := hideIt hcok
    unfold nodeV
    rw [k, HQ.out]
    rw [hLC] at hc1
    have HLC := hideIt hLC
    rw [hLC]
    subst hc1
    clear hLC
    clear k p1 p2 p3 p4 hcok
    go_enter Tryz.func92, Tryz.ntmps92
    go_wp2_with fail
    refine (valuesAt_any B _ x.cst _ (HCC.out.below ((HBB.out _).out.mono hB)) (Nat.le_trans hB (HBB.out _).out.size) (by rw [HLC.out]; omega) (by rw [HLC.out]; omega) HP2.out HP4.out).mono ?_
    rintro e w1 ⟨VV, rfl, hrow, hall, hb1⟩
    have HB1 := hideIt ((HBB.out _).out.trans (hb1.mono (HBB.out _).out.size))
    have HREP := hideIt (cst_tree HCOK.out HLC.out (by have := hb1.size; exact this) (hall 0 (by rw [HLC.out]; omega)))
    obtain ⟨t, yy, e0⟩ := HREP.out.iface
    have hcell := hrow.cell (i := 0) (by rw [HLC.out]; omega)
    rw [e0] at hcell HREP
    have hcell2 : w1.cell? ⟨w.heap.size + 1, 0, none⟩ = some (.iface t yy) := by simpa using hcell
    clear hcell
    rw [HLC.out]
    clear hrow hall hb1
    go_wp2_with fail
    go_ret2
    exact ⟨.inl ⟨rfl, _, rfl, HREP.out⟩, HB1.out⟩
  · have HQ : Hid (oneR x ns = (0, boolNs (!trueB ns))) := by unfold Hid oneR; rw [if_neg (by omega), if_neg (by omega), if_neg (by omega), if_neg (by omega), if_neg (by omega), if_pos k]
    obtain ⟨tb, htb⟩ : ∃ tb, trueB ns = tb := ⟨_, rfl⟩
    have HTB := hideIt htb
    unfold nodeV
    rw [k, HQ.out, htb]
    clear k htb
    go_enter Tryz.func92, Tryz.ntmps92
    go_wp2_with fail
    refine (counts_any ns _ _ (HV.out.below (HBB.out _).out)).mono ?_
    rw [HTB.out]
    rintro e w1 ⟨rfl, hb1⟩
    have HB1 := hideIt ((HBB.out _).out.trans (hb1.mono (HBB.out _).out.size))
    clear hb1
    go_wp2_with fail
    refine (truthOf_any (!tb) _).mono ?_
    rintro e w2 ⟨rfl, rfl⟩
    obtain ⟨bv, hbv⟩ : ∃ bv : Int, (if (!tb) = true then 1 else 0) = bv := ⟨_, rfl⟩
    have HBV : Hid (Rep w2 (boolNs (!tb)) (.iface 68 (.agg #[.int .i64 bv]))) := by rw [Hid, ← hbv]; exact rep_bool _ _
    rw [hbv]
    clear hbv
    go_wp2_with fail
    go_ret2
    exact ⟨.inl ⟨rfl, _, rfl, HBV.out⟩, HB1.out⟩
  all_goals
    first
    | have HQ : Hid (oneR x ns = keyR ns nm) := by unfold Hid oneR; rw [if_pos k, hnm]
      have hsz := hx.key k
      rw [hnm] at hsz
      obtain ⟨R, hR⟩ : ∃ R, keyR ns nm = R := ⟨_, rfl⟩
      have HR := hideIt hR
      unfold nodeV
      rw [k, HQ.out, hnm, hR]
      clear k hR
      go_enter Tryz.func92, Tryz.ntmps92
      go_wp2_with fail
      refine (atKey_any ns _ nm _ (HV.out.below (HBB.out _).out) (HE.out.below (HBB.out _).out).errs (by omega)).mono ?_
    | have HQ : Hid (oneR x ns = atR ns pl) := by unfold Hid oneR; rw [if_neg (by omega), if_pos k, hpl]
      have hsz := hx.place k
      rw [hpl] at hsz
      obtain ⟨R, hR⟩ : ∃ R, atR ns pl = R := ⟨_, rfl⟩
      have HR := hideIt hR
      unfold nodeV
      rw [k, HQ.out, hpl, hR]
      clear k hR
      go_enter Tryz.func92, Tryz.ntmps92
      go_wp2_with fail
      refine (atPlace_any ns _ pl _ (HV.out.below (HBB.out _).out) (HE.out.below (HBB.out _).out).errs (by omega) (by omega)).mono ?_
    | have HQ : Hid (oneR x ns = (lenC ns, lenNs ns)) := by unfold Hid oneR; rw [if_neg (by omega), if_neg (by omega), if_neg (by omega), if_pos k]
      obtain ⟨R, hR⟩ : ∃ R, (lenC ns, lenNs ns) = R := ⟨_, rfl⟩
      have HR := hideIt hR
      unfold nodeV
      rw [k, HQ.out, hR]
      clear k hR
      go_enter Tryz.func92, Tryz.ntmps92
      go_wp2_with fail
      refine (lengthE_any ns _ _ (HV.out.below (HBB.out _).out) (HE.out.below (HBB.out _).out).errs).mono ?_
    | have HQ : Hid (oneR x ns = keysR ns) := by unfold Hid oneR; rw [if_neg (by omega), if_neg (by omega), if_neg (by omega), if_neg (by omega), if_pos k]
      obtain ⟨R, hR⟩ : ∃ R, keysR ns = R := ⟨_, rfl⟩
      have HR := hideIt hR
      unfold nodeV
      rw [k, HQ.out, hR]
      clear k hR
      go_enter Tryz.func92, Tryz.ntmps92
      go_wp2_with fail
      refine (keysOf_any ns _ _ (HV.out.below (HBB.out _).out) (HE.out.below (HBB.out _).out)).mono ?_
    rw [HR.out]
    rintro e w1 ⟨ha, hb1⟩
    have HB1 := hideIt ((HBB.out _).out.trans (hb1.mono (HBB.out _).out.size))
    clear hb1
    rcases ha with ⟨h1, u, rfl, hr⟩ | ⟨h1, u, rfl, te, xe, rfl, hr⟩
    · have H1 := hideIt h1
      have HRR := hideIt hr
      obtain ⟨t, yy, rfl⟩ := hr.iface
      clear h1 hr
      go_wp2_with fail
      go_ret2
      exact ⟨.inl ⟨H1.out, _, rfl, HRR.out⟩, HB1.out⟩
    · obtain ⟨C, hC⟩ : ∃ C, R.1 = C := ⟨_, rfl⟩
      have HC := hideIt hC
      rw [hC] at h1 hr ⊢
      have H1 := hideIt h1
      have HRR := hideIt hr
      clear h1 hr hC
      go_wp2_with fail
      go_ret2
      exact ⟨.inr ⟨by rw [HC.out]; exact H1.out, _, rfl, by rw [HC.out]; exact ⟨te, xe, rfl, HRR.out⟩⟩, HB1.out⟩
end Go.Proofs.YtcidjhnogldgmaaGreatDoor
