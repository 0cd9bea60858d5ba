/-
  The draw of FnSums: two values.
-/
import Derived.Test.YtfijafbpdlakaaaGreatDoorSParts
import Derived.Test.YtfijafbpdlakaaaGreatDoorPartOk
import Derived.Test.YtfijafbpdlakaaaGreatDoorPartQ
import Derived.Test.YtfijafbpdlakaaaGreatDoorJnM
import Derived.Test.YtfijafbpdlakaaaGreatDoorIPls0
namespace Go.Proofs.YtfijafbpdlakaaaGreatDoor
open Go.RowKit
set_option linter.unusedSimpArgs false
set_option linter.unusedVariables false

theorem below_dr (w : World) (n : Nat) : Below w.heap.size w (w.drewN n) := ⟨rfl, rfl, rfl, Nat.le_refl _, fun _ _ => rfl⟩

set_option maxRecDepth 100000 in
set_option maxHeartbeats 3200000 in
theorem drawPlus_any (B : Nat) (v : Value) (n : Nat) (w : World) (h : CodeAt B w v n) (hB : B ≤ w.heap.size) :
    Calls Tryz.prog 7 #[v] w fun e w' => ∃ r vs KV IV r2 us KV2 IV2, e = .returned (.tuple #[r, r2]) ∧ Fine 40 vs ∧ Fine 40 us ∧ Nest w.heap.size w' r vs KV IV ∧ Nest w.heap.size w' r2 us KV2 IV2 ∧ Below w.heap.size w w' := by
  have H := hideIt h
  obtain ⟨_, a, cap, rfl, _⟩ := h
  obtain ⟨rb, hrb⟩ : ∃ rb, w.heap.size = rb := ⟨_, rfl⟩
  have HRB := hideIt hrb
  clear hrb
  go_enter Tryz.func7, Tryz.ntmps7
  go_wp2_with fail
  refine (l1Open_any B _ n w H.out hB).mono ?_
  rintro e w1 ⟨rfl, hr, hb⟩
  rw [HRB.out] at hr ⊢
  have HB := hideIt hb
  have z1 := hb.size
  have hrb1 : rb < w1.heap.size := hr.lt
  have HD := hideIt (Drawn.refl hr)
  clear hr hb
  go_wp2_with fail
  refine (rdValue_any rb n 2 (by omega) w1 HD.out.rd).mono ?_
  rintro e w2 ⟨⟨r, vs, KV, IV, rfl, hf, hn⟩, hd⟩
  have HF := hideIt (hf.wide (show capD 2 ≤ 40 by decide))
  have HN := hideIt hn
  have HD2 := hideIt (HD.out.trans hd)
  have z2 := hd.only.1
  obtain ⟨ar, cr, er⟩ := own_slice hn.row
  obtain ⟨M, hM⟩ : ∃ M, vs.length = M := ⟨_, rfl⟩
  rw [hM] at er
  subst er
  clear hf hn hd hM
  go_wp2_with fail
  go_loopw [5, 6] (fun o i wr => ∃ (k : Nat) (us : List VN) (KV IV : Nat → Value), k ≤ 6 ∧ i = .int .i64 k ∧ Nest w1.heap.size wr o us KV IV ∧ Fine 40 us ∧ Drawn rb n w1 wr ∧ w1.heap.size ≤ wr.heap.size) (fun _ i _ => 6 - (intOf i).toNat)
  case atStart => exact ⟨0, vs, KV, IV, by omega, rfl, HN.out, HF.out, HD2.out, z2⟩
  case round =>
    obtain ⟨k, us, KV1, IV1, hk, rfl, hn1, hf1, hd1, zr⟩ := hrel
    have HN1 := hideIt hn1
    have HF1 := hideIt hf1
    have HD1 := hideIt hd1
    obtain ⟨a1, c1, e1⟩ := own_slice hn1.row
    obtain ⟨M1, hM1⟩ : ∃ M1, us.length = M1 := ⟨_, rfl⟩
    have hM1p : 0 < M1 := by have := hf1.1; omega
    have hM40 : M1 ≤ 40 := by have := hf1.2.1; omega
    have HM1 := hideIt hM1
    rw [hM1] at e1
    subst e1
    clear hn1 hf1 hd1 hM1
    obtain ⟨W0, rfl⟩ : ∃ W0, W0 = wr := ⟨_, rfl⟩
    by_cases hk6 : k < 6
    focus
      have hk' : (k : Int) < 6 := by omega
      go_wp2_with fail
      refine (rdOnce_any rb n 2 W0 HD1.out.rd (by omega) (by omega)).mono ?_
      rintro e w3 ⟨⟨b, rfl⟩, hd3⟩
      have HD3 := hideIt (HD1.out.trans hd3)
      have HN3 := hideIt (HN1.out.from (hd3.from hrb1))
      have z3 : w1.heap.size ≤ w3.heap.size := Nat.le_trans zr hd3.only.1
      clear hd3
      cases b
      rotate_left
      · go_wp2_with fail
        refine (rdValue_any rb n 2 (by omega) w3 HD3.out.rd).mono ?_
        rintro e w4 ⟨⟨r4, us4, KV4, IV4, rfl, hf4, hn4⟩, hd4⟩
        have HF4 := hideIt (hf4.wide (show capD 2 ≤ 40 by decide))
        have HN4 := hideIt (hn4.low z3)
        have HD4 := hideIt (HD3.out.trans hd4)
        have z4 := hd4.only.1
        obtain ⟨a4, c4, e4⟩ := own_slice hn4.row
        obtain ⟨M4, hM4⟩ : ∃ M4, us4.length = M4 := ⟨_, rfl⟩
        rw [hM4] at e4
        subst e4
        clear hf4 hn4 hd4 hM4
        go_wp2_with fail
        go_roundw
        case rel => exact ⟨k + 1, us4, KV4, IV4, by omega, by go_num, HN4.out, HF4.out, HD4.out, by omega⟩
        case measure => simp [intOf]; omega
    rotate_left
    focus
      have hk' : ¬ (k : Int) < 6 := by omega
      obtain ⟨w3, hw3⟩ : ∃ w3, w3 = W0 := ⟨_, rfl⟩
      subst hw3
      have HD3 := HD1
      have HN3 := HN1
      have z3 := zr
    all_goals
      clear HD1 HN1
      go_wp2_with fail
      refine (rdValue_any rb n 2 (by omega) w3 HD3.out.rd).mono ?_
      rintro e w4 ⟨⟨r4, us4, KV4, IV4, rfl, hf4, hn4⟩, hd4⟩
      have HF4 := hideIt (hf4.wide (show capD 2 ≤ 40 by decide))
      have HN4 := hideIt (hn4.low z3)
      have HD4 := hideIt (HD3.out.trans hd4)
      have HA4 := hideIt (HN3.out.from (hd4.from hrb1))
      have z4 : w1.heap.size ≤ w4.heap.size := Nat.le_trans z3 hd4.only.1
      obtain ⟨a4, c4, e4⟩ := own_slice hn4.row
      obtain ⟨M4, hM4⟩ : ∃ M4, us4.length = M4 := ⟨_, rfl⟩
      rw [hM4] at e4
      subst e4
      clear hf4 hn4 hd4 hM4
      go_wp2_with fail
      go_loopw [7, 8] (fun o i wr => ∃ (j : Nat) (ws : List VN) (KW IW : Nat → Value), j ≤ 6 ∧ i = .int .i64 j ∧ Nest w1.heap.size wr o ws KW IW ∧ Fine 40 ws ∧ Nest w1.heap.size wr (.slice a1 M1 c1) us KV1 IV1 ∧ Drawn rb n w1 wr ∧ w1.heap.size ≤ wr.heap.size) (fun _ i _ => 6 - (intOf i).toNat)
      case atStart => exact ⟨0, us4, KV4, IV4, by omega, rfl, HN4.out, HF4.out, HA4.out, HD4.out, z4⟩
      case round =>
        obtain ⟨j, ws, KW, IW, hj, rfl, hn5, hf5, ha5, hd5, z5⟩ := hrel
        have HN5 := hideIt hn5
        have HF5 := hideIt hf5
        have HA5 := hideIt ha5
        have HD5 := hideIt hd5
        obtain ⟨a5, c5, e5⟩ := own_slice hn5.row
        obtain ⟨M5, hM5⟩ : ∃ M5, ws.length = M5 := ⟨_, rfl⟩
        have hM5p : 0 < M5 := by have := hf5.1; omega
        have hM5c : M5 ≤ 40 := by have := hf5.2.1; omega
        have HM5 := hideIt hM5
        rw [hM5] at e5
        subst e5
        have hna := ha5.nodes (by have := HF1.out.2.1; omega) (HF1.out.few (by omega)).2
        have hnb := hn5.nodes (by have := hf5.2.1; omega) (hf5.few (by omega)).2
        obtain ⟨_, aa, ca, ea, hca⟩ := hna
        obtain ⟨_, ab, cb, eb, hcb⟩ := hnb
        obtain ⟨ba, oa, rfl, hba, hca'⟩ := hca (by rw [HM1.out]; exact hM1p)
        obtain ⟨bb, ob, rfl, hbb, hcb'⟩ := hcb (by rw [HM5.out]; exact hM5p)
        obtain ⟨_, _, hda⟩ := hca' (M1 - 1) (by rw [HM1.out]; omega)
        obtain ⟨_, _, hdb⟩ := hcb' (M5 - 1) (by rw [HM5.out]; omega)
        have da := hda.c0
        have db := hdb.c0
        injection ea with ea1 ea2 ea3
        injection eb with eb1 eb2 eb3
        subst ea1 eb1
        obtain ⟨kna, hkna⟩ : ∃ kna, (nodeAt us (M1 - 1)).kind = kna := ⟨_, rfl⟩
        obtain ⟨knb, hknb⟩ : ∃ knb, (nodeAt ws (M5 - 1)).kind = knb := ⟨_, rfl⟩
        rw [hkna] at da
        rw [hknb] at db
        have t1 : ((M1 : Int) - 1).toNat = M1 - 1 := by omega
        have t2 : ((M5 : Int) - 1).toNat = M5 - 1 := by omega
        have t3 : (0 : Int) ≤ (M1 : Int) - 1 := by omega
        have t4 : (0 : Int) ≤ (M5 : Int) - 1 := by omega
        have t5 : (M1 : Int) - 1 < (M1 : Int) := by omega
        have t6 : (M5 : Int) - 1 < (M5 : Int) := by omega
        clear hn5 hf5 ha5 hd5 hM5 hca hcb hca' hcb' hda hdb ea2 ea3 eb2 eb3 hkna hknb
        by_cases hj6 : j < 6
        · have hj' : (j : Int) < 6 := by omega
          by_cases hkk : kna = knb
          · subst hkk
            go_wp2_with fail
            go_quiet (fail)
            have HB6 := hideIt (HB.out.trans (by rw [HRB.out]; exact (HD5.out.next (below_dr wr nq)).below))
            have HX1 := hideIt ((HA5.out.below (below_dr wr nq)).low (show rb ≤ w1.heap.size by omega))
            have HX2 := hideIt ((HN5.out.below (below_dr wr nq)).low (show rb ≤ w1.heap.size by omega))
            rw [← HRB.out] at HX1 HX2
            generalize wr.drewN nq = WQ at HB6 HX1 HX2 ⊢
            go_wp2_with fail
            go_ret2
            exact ⟨_, us, KV1, IV1, _, ws, KW, IW, rfl, HF1.out, HF5.out, HX1.out, HX2.out, HB6.out⟩
          · have hq1 : (kna == knb) = false := by simpa using hkk
            have hq2 : (kna != knb) = true := by simpa using hkk
            have hq3 : decide (kna = knb) = false := by simpa using hkk
            go_wp2_with fail
            go_quiet (fail)
            have HD6 := hideIt (HD5.out.next (below_dr wr nq))
            have HA6 := hideIt (HA5.out.below (below_dr wr nq))
            have z6 : w1.heap.size ≤ (wr.drewN nq).heap.size := z5
            generalize wr.drewN nq = WQ at HD6 HA6 z6 ⊢
            go_wp2_with fail
            refine (rdValue_any rb n 2 (by omega) WQ HD6.out.rd).mono ?_
            rintro e w7 ⟨⟨r7, us7, KV7, IV7, rfl, hf7, hn7⟩, hd7⟩
            have HF7 := hideIt (hf7.wide (show capD 2 ≤ 40 by decide))
            have HN7 := hideIt (hn7.low z6)
            have HD7 := hideIt (HD6.out.trans hd7)
            have HA7 := hideIt (HA6.out.from (hd7.from hrb1))
            have z7 := hd7.only.1
            obtain ⟨a7, c7, e7⟩ := own_slice hn7.row
            obtain ⟨M7, hM7⟩ : ∃ M7, us7.length = M7 := ⟨_, rfl⟩
            rw [hM7] at e7
            subst e7
            clear hf7 hn7 hd7 hM7
            go_wp2_with fail
            go_roundw
            case rel => exact ⟨j + 1, us7, KV7, IV7, by omega, by go_num, HN7.out, HF7.out, HA7.out, HD7.out, by omega⟩
            case measure => simp [intOf]; omega
        · have hj' : ¬ (j : Int) < 6 := by omega
          have hj2 : decide ((j : Int) < 6) = false := by simpa using hj'
          go_wp2_with fail
          go_quiet (fail)
          have HB6 := hideIt (HB.out.trans (by rw [HRB.out]; exact (HD5.out.next (below_dr wr nq)).below))
          have HX1 := hideIt ((HA5.out.below (below_dr wr nq)).low (show rb ≤ w1.heap.size by omega))
          have HX2 := hideIt ((HN5.out.below (below_dr wr nq)).low (show rb ≤ w1.heap.size by omega))
          rw [← HRB.out] at HX1 HX2
          generalize wr.drewN nq = WQ at HB6 HX1 HX2 ⊢
          go_wp2_with fail
          go_ret2
          exact ⟨_, us, KV1, IV1, _, ws, KW, IW, rfl, HF1.out, HF5.out, HX1.out, HX2.out, HB6.out⟩
end Go.Proofs.YtfijafbpdlakaaaGreatDoor

/-
  What is made of parts has them as its parts; a map that is made has each part by its key: plain mathematics.
-/
namespace Go.Proofs.YtfijafbpdlakaaaGreatDoor
open Go.RowKit
set_option linter.unusedSimpArgs false
set_option linter.unusedVariables false

theorem shiftN_inj {d : Int} {a b : List VN} (h : a.map (shiftN d) = b.map (shiftN d)) : a = b := by
  have e := congrArg (List.map (shiftN (-d))) h
  rw [List.map_map, List.map_map] at e
  have e2 : (shiftN (-d)) ∘ (shiftN d) = id := by
    funext x
    simp only [Function.comp, shiftN_shiftN, id]
    rw [show (-d + d) = 0 by omega, shiftN_zero]
  rw [e2, List.map_id, List.map_id] at e
  exact e

theorem catKs_nth (L : Nat → List VN) : ∀ (m i : Nat), i < m → (catKs L m)[i]? = some (((catNs L (i + 1)).length : Int) - 1) := by
  intro m
  induction m with
  | zero => intro i hi; omega
  | succ m ih =>
    intro i hi
    rw [catKs]
    by_cases e : i < m
    · rw [List.getElem?_append_left (by rw [catKs_len]; exact e)]
      exact ih i e
    · obtain rfl : i = m := by omega
      rw [List.getElem?_append_right (by rw [catKs_len]; exact Nat.le_refl _), catKs_len]
      simp

theorem catNs_take (L : Nat → List VN) {i m : Nat} (h : i ≤ m) : (catNs L m).take (catNs L i).length = catNs L i := by
  induction m with
  | zero => obtain rfl : i = 0 := by omega
            simp [catNs]
  | succ m ih =>
    by_cases e : i = m + 1
    · subst e; simp
    · have h2 : i ≤ m := by omega
      have h3 := catNs_mono L h2
      rw [catNs, List.take_append_of_le_length h3]
      exact ih h2

/-- Of the same nodes, the same parts. -/
theorem make_inj {kind : Int} {keys : List ByteArray} {L L' : Nat → List VN} {m m' : Nat} (h0 : ∀ i, i < m → 0 < (L i).length) (h : makeNs kind keys L m = makeNs kind keys L' m') : m = m' ∧ ∀ i, i < m → L i = L' i := by
  unfold makeNs at h
  obtain ⟨h1, h2⟩ := List.append_inj' h rfl
  simp only [List.cons.injEq, VN.mk.injEq, true_and, and_true] at h2
  have hm : m = m' := by have := congrArg List.length h2; rwa [catKs_len, catKs_len] at this
  subst hm
  refine ⟨rfl, fun i hi => ?_⟩
  have hl : ∀ k, k ≤ m → (catNs L k).length = (catNs L' k).length := by
    intro k hk
    cases k with
    | zero => rfl
    | succ k =>
      have e1 := catKs_nth L m k (by omega)
      have e2 := catKs_nth L' m k (by omega)
      rw [h2, e2] at e1
      simp at e1
      omega
  have t1 : catNs L i = catNs L' i := by rw [← catNs_take L (show i ≤ m by omega), ← catNs_take L' (show i ≤ m by omega), hl i (by omega), h1]
  have t2 : catNs L (i + 1) = catNs L' (i + 1) := by rw [← catNs_take L (show i + 1 ≤ m by omega), ← catNs_take L' (show i + 1 ≤ m by omega), hl (i + 1) (by omega), h1]
  rw [catNs, catNs, t1] at t2
  exact shiftN_inj (List.append_cancel_left t2)

theorem make_last (kind : Int) (keys : List ByteArray) (L : Nat → List VN) (m : Nat) : nodeAt (makeNs kind keys L m) ((makeNs kind keys L m).length - 1) = { kind := kind, n := 0, s := ByteArray.empty, keys := keys, kids := catKs L m } := by
  have e : (makeNs kind keys L m).length - 1 = (catNs L m).length := by unfold makeNs; simp
  rw [e]
  unfold makeNs
  exact nodeAt_snoc_end

/-- The parts of what is made. -/
theorem made_parts {kind : Int} {keys : List ByteArray} {L : Nat → List VN} {m : Nat} (hk : kind = 5 ∨ kind = 6) (hok : okB (makeNs kind keys L m) = true) (h0 : ∀ i, i < m → 0 < (L i).length) :
    (rootKids (makeNs kind keys L m)).length = m ∧ ∀ i, i < m → PL (makeNs kind keys L m) i = L i := by
  have hl := make_last kind keys L m
  have h := make_parts hok (by rw [hl]; exact hk)
  rw [hl] at h
  simp only at h
  obtain ⟨e1, e2⟩ := make_inj h0 h.symm
  exact ⟨e1.symm, fun i hi => (e2 i hi).symm⟩

/-- A list that is made has its values as its parts. -/
theorem list_made {L : Nat → List VN} {m : Nat} (h : listB L m = true) : okB (listNs L m) = true ∧ partsN (listNs L m) = m ∧ ∀ i, i < m → PL (listNs L m) i = L i := by
  have e : listNs L m = makeNs 5 [] L m := by unfold listNs; rw [if_pos h]
  unfold listB at h
  simp only [Bool.and_eq_true, decide_eq_true_eq] at h
  obtain ⟨⟨h1, h2⟩, h3⟩ := h
  have hm := made_parts (Or.inl rfl) h3 (fun i hi => by have := (okB_parts (allB_yes h1 i hi)).1; omega)
  rw [e]
  exact ⟨h3, by unfold partsN; rw [if_pos h3, hm.1], hm.2⟩

theorem perm_hit {l : List ByteArray} {ns : List ByteArray} {ps : List Nat} : ∀ {i : Nat}, sortIn l i = some (ns, ps) → ∀ j, j < i → j ∈ ps := by
  intro i
  induction i generalizing ns ps with
  | zero => intro _ j hj; omega
  | succ i ih =>
    intro h j hj
    rw [sortIn] at h
    split at h
    · cases h
    · rename_i ns0 ps0 h0
      split at h
      · cases h
      · injection h with h
        injection h with e1 e2
        subst e1 e2
        by_cases e : j = i
        · subst e; simp
        · have := ih h0 j (by omega)
          have h4 : j ∈ ps0.take (posK ns0 (keyAt l i)) ++ ps0.drop (posK ns0 (keyAt l i)) := by rw [List.take_append_drop]; exact this
          rw [List.mem_append] at h4
          simp only [List.mem_append, List.mem_singleton, List.mem_cons]
          rcases h4 with h4 | h4
          · exact Or.inl (Or.inl h4)
          · first | exact Or.inr h4 | exact Or.inr (Or.inr h4)

/-- A map that is made has each value by its key. -/
theorem map_made {l : List ByteArray} {L : Nat → List VN} {m : Nat} (h : mapB l L m = true) : okB (mapNs l L m) = true ∧ l.length = m ∧ ∀ i, i < m → textB (keyAt l i) = true ∧ (gotN (mapNs l L m) ((mapNs l L m).length - 1) [⟨true, keyAt l i, 0⟩]).isSome = true ∧ gotPart (mapNs l L m) (gotN (mapNs l L m) ((mapNs l L m).length - 1) [⟨true, keyAt l i, 0⟩]) = L i := by
  have hB := h
  unfold mapB at h
  simp only [Bool.and_eq_true, decide_eq_true_eq] at h
  obtain ⟨⟨⟨h1, h2⟩, h3⟩, h4⟩ := h
  cases hs : sortIn l l.length with
  | none => unfold sortNs at h4; rw [hs] at h4; cases h4
  | some q =>
    obtain ⟨ns, ps⟩ := q
    have hsn : sortNs l L m = some (makeNs 6 ns (fun j => L (ps.getD j 0)) m) := by unfold sortNs; rw [hs]
    rw [hsn] at h4
    simp only at h4
    have e : mapNs l L m = makeNs 6 ns (fun j => L (ps.getD j 0)) m := by unfold mapNs; rw [if_pos hB, hsn]; rfl
    have hpl := (sortIn_len hs)
    have hpm := sortIn_mem hs
    have h0 : ∀ i, i < m → 0 < (L (ps.getD i 0)).length := fun i hi => by
      have : ps.getD i 0 < m := by
        rw [List.getD_eq_getElem?_getD, List.getElem?_eq_getElem (by omega)]
        have := hpm _ (List.getElem_mem (show i < ps.length by omega))
        simp only [Option.getD_some]
        omega
      have := (okB_parts (allB_yes h1 _ this)).1
      omega
    have hm := made_parts (Or.inr rfl) h4 h0
    have hl := make_last 6 ns (fun j => L (ps.getD j 0)) m
    rw [e]
    refine ⟨h4, h3, fun i hi => ?_⟩
    have hin := perm_hit hs i (by omega)
    obtain ⟨p, hp, ep⟩ := List.getElem_of_mem hin
    have hnm := sortIn_map hs
    have hkp : keyAt ns p = keyAt l i := by
      rw [hnm]
      unfold keyAt
      rw [List.getD_eq_getElem?_getD, List.getElem?_map, List.getElem?_eq_getElem hp, ep]
      rfl
    have p1 := (okB_parts h4).1
    have hn := ((okB_parts h4).2.1 _ (show (makeNs 6 ns (fun j => L (ps.getD j 0)) m).length - 1 < _ by omega)).1
    rw [hl] at hn
    have hr : riseB ns = true := by
      unfold nodeB namedB at hn
      simp at hn
      exact hn.2.2
    have hrise := riseB_rise hr
    have hpn : p < ns.length := by omega
    have ht : textB (keyAt l i) = true := by
      unfold riseB at hr
      rw [List.all_eq_true] at hr
      have := hr p (List.mem_range.2 hpn)
      unfold riseAt at this
      simp only [Bool.and_eq_true] at this
      rw [← hkp]; exact this.1
    obtain ⟨g1, g2⟩ := hasK_first (l := ns) (key := keyAt l i) hrise hpn (by rw [hkp]) (fun j hj => by
      have := hrise j p hj hpn
      rw [hkp] at this
      exact less_ne this)
    have hst : stepN (nodeAt (makeNs 6 ns (fun j => L (ps.getD j 0)) m) ((makeNs 6 ns (fun j => L (ps.getD j 0)) m).length - 1)) ⟨true, keyAt l i, 0⟩ = some p := by
      rw [hl]
      unfold stepN stepTo
      simp [g1, g2]
    have hg : gotN (makeNs 6 ns (fun j => L (ps.getD j 0)) m) ((makeNs 6 ns (fun j => L (ps.getD j 0)) m).length - 1) [⟨true, keyAt l i, 0⟩] = some (intAt (rootKids (makeNs 6 ns (fun j => L (ps.getD j 0)) m)) p).toNat := by
      simp only [gotN, hst]
      rfl
    rw [hg]
    refine ⟨ht, rfl, ?_⟩
    have := hm.2 p (by omega)
    unfold PL at this
    unfold gotPart
    simp only
    rw [this, List.getD_eq_getElem?_getD, List.getElem?_eq_getElem hp, ep]
    rfl
end Go.Proofs.YtfijafbpdlakaaaGreatDoor

/-
  Plain: what FnSums asks of sums and differences.
-/
namespace Go.Proofs.YtfijafbpdlakaaaGreatDoor
open Go.RowKit
set_option linter.unusedSimpArgs false
set_option linter.unusedVariables false

/-- A right value whose root is null or a number is that node alone. -/
theorem leaf_root {vs : List VN} (hok : okB vs = true) (hk : (rootN vs).kind = 1 ∨ (rootN vs).kind = 3) : vs = leafN (rootN vs).kind (rootN vs).n ByteArray.empty ∧ ((rootN vs).kind = 1 → (rootN vs).n = 0) := by
  have hw := lay_whole hok
  rw [treeOf, layT_eq] at hw
  have p1 := (okB_parts hok).1
  have hn := ((okB_parts hok).2.1 (vs.length - 1) (by omega)).1
  change nodeB (rootN vs) = true at hn
  unfold nodeB unnamedB at hn
  have es : ∀ s : ByteArray, s.toList = [] → s = ByteArray.empty := fun s h => by
    cases s with | mk d => rw [ByteArray.toList_eq] at h; simp at h; subst h; rfl
  simp only [Bool.and_eq_true, Bool.not_eq_true', Bool.and_eq_false_iff, decide_eq_false_iff_not, Decidable.not_not, Nat.not_lt, Nat.le_zero, List.length_eq_zero_iff] at hn
  obtain ⟨⟨⟨⟨n1, n2⟩, n3⟩, n4⟩, _⟩ := hn
  have e1 : (nodeAt vs (vs.length - 1)).keys = [] := by rcases n3 with h | h; omega; exact h
  have e2 : (nodeAt vs (vs.length - 1)).kids = [] := by rcases n4 with (h | h) | h; omega; omega; exact h
  have e3 : (nodeAt vs (vs.length - 1)).s = ByteArray.empty := es _ (by rcases n2 with h | h; omega; exact h)
  rw [e1, e2, e3] at hw
  exact ⟨hw.symm, fun h => by omega⟩

/-- Nothing. -/
def nullV : List VN := leafN 1 0 ByteArray.empty
theorem null_ok : okB nullV = true := by decide +kernel
theorem null_root : (rootN nullV).kind = 1 := rfl
theorem plus_null_left {us : List VN} (h : okB us = true) : plusC nullV us = 0 ∧ plusNs nullV us = us := by
  unfold plusC plusNs
  simp only [null_ok, h, and_self, if_true, null_root]
theorem plus_null_right {us : List VN} (h : okB us = true) : plusC us nullV = 0 ∧ plusNs us nullV = us := by
  unfold plusC plusNs
  by_cases k : (rootN us).kind = 1
  · have e := leaf_root h (Or.inl k)
    have e2 : us = nullV := by rw [e.1, e.2 k, k]; rfl
    simp only [null_ok, h, and_self, if_true, if_pos k]
    exact ⟨trivial, e2.symm⟩
  · simp only [null_ok, h, and_self, if_true, if_neg k, null_root]

theorem root_leaf (k n : Int) (s : ByteArray) : rootN (leafN k n s) = { kind := k, n := n, s := s, keys := [], kids := [] } := rfl
/-- Numbers: the sum the other way round, and taken back. -/
theorem plus_num {us vs : List VN} (h1 : okB us = true) (h2 : okB vs = true) (k1 : (rootN us).kind = 3) (k2 : (rootN vs).kind = 3) (hc : plusC us vs = 0) :
    plusC vs us = 0 ∧ plusNs vs us = plusNs us vs ∧ minC (plusNs us vs) vs = 0 ∧ minNs (plusNs us vs) vs = us := by
  have k1' : ¬ (rootN us).kind = 1 := by omega
  have k2' : ¬ (rootN vs).kind = 1 := by omega
  have kk : (rootN us).kind = (rootN vs).kind ∧ (rootN us).kind ≠ 2 := ⟨by omega, by omega⟩
  have kk' : (rootN vs).kind = (rootN us).kind ∧ (rootN vs).kind ≠ 2 := ⟨by omega, by omega⟩
  have r1 : rawPlus us vs = sumNs us vs := by unfold rawPlus; rw [if_pos k1]
  have r2 : rawPlus vs us = sumNs vs us := by unfold rawPlus; rw [if_pos k2]
  have rr : sumNs vs us = sumNs us vs := by unfold sumNs; rw [Int.add_comm]
  have hs : okB (sumNs us vs) = true := by
    unfold plusC at hc
    rw [if_pos ⟨h1, h2⟩, if_neg k1', if_neg k2', if_pos kk, r1] at hc
    split at hc
    · assumption
    · cases hc
  have e1 : plusNs us vs = sumNs us vs := by
    unfold plusNs
    rw [if_pos ⟨h1, h2⟩, if_neg k1', if_neg k2', if_pos kk, r1, if_pos hs]
  have e2 : plusNs vs us = sumNs us vs := by
    unfold plusNs
    rw [if_pos ⟨h2, h1⟩, if_neg k2', if_neg k1', if_pos kk', r2, rr, if_pos hs]
  have e3 : plusC vs us = 0 := by
    unfold plusC
    rw [if_pos ⟨h2, h1⟩, if_neg k2', if_neg k1', if_pos kk', r2, rr, if_pos hs]
  have eu := (leaf_root h1 (Or.inr k1)).1
  have ed : diffNs (sumNs us vs) vs = us := by
    unfold diffNs
    rw [show (rootN (sumNs us vs)).n = (rootN us).n + (rootN vs).n from rfl]
    rw [show (rootN us).n + (rootN vs).n - (rootN vs).n = (rootN us).n by omega, ← k1]
    exact eu.symm
  have hd := min_diff hs h2 ⟨rfl, k2⟩
  rw [ed, if_pos h1, if_pos h1] at hd
  rw [e1]
  exact ⟨e3, e2, hd.1, hd.2⟩
/-- Lists: the parts of the sum. -/
theorem plus_parts {us vs : List VN} (h1 : okB us = true) (h2 : okB vs = true) (k1 : (rootN us).kind = 5) (k2 : (rootN vs).kind = 5) (hc : plusC us vs = 0) :
    okB (plusNs us vs) = true ∧ (rootKids (plusNs us vs)).length = (rootKids us).length + (rootKids vs).length ∧ ∀ i, i < (rootKids us).length + (rootKids vs).length → PL (plusNs us vs) i = bothL us vs i := by
  have k1' : ¬ (rootN us).kind = 1 := by omega
  have k2' : ¬ (rootN vs).kind = 1 := by omega
  have kk : (rootN us).kind = (rootN vs).kind ∧ (rootN us).kind ≠ 2 := ⟨by omega, by omega⟩
  have r1 : rawPlus us vs = bothNs us vs := by unfold rawPlus; rw [if_neg (by omega), if_neg (by omega), if_pos k1]
  have hs : okB (bothNs us vs) = true := by
    unfold plusC at hc
    rw [if_pos ⟨h1, h2⟩, if_neg k1', if_neg k2', if_pos kk, r1] at hc
    split at hc
    · assumption
    · cases hc
  have e1 : plusNs us vs = bothNs us vs := by
    unfold plusNs
    rw [if_pos ⟨h1, h2⟩, if_neg k1', if_neg k2', if_pos kk, r1, if_pos hs]
  rw [e1]
  have hm := made_parts (kind := 5) (keys := []) (L := bothL us vs) (m := (rootKids us).length + (rootKids vs).length) (Or.inl rfl) hs (fun i hi => by
    unfold bothL
    split
    · have := (okB_parts (allB_yes (parts_ok h1).1 i (by assumption))).1; omega
    · have := (okB_parts (allB_yes (parts_ok h2).1 (i - (rootKids us).length) (by omega))).1; omega)
  exact ⟨hs, hm.1, hm.2⟩
end Go.Proofs.YtfijafbpdlakaaaGreatDoor
