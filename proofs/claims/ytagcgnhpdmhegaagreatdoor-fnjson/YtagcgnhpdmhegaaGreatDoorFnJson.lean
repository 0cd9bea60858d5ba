/-
  Plain: the tree of right nodes is good; the nodes that are laid for a tree, and its tree again.
-/
import Derived.Test.YtagcgnhpdmhegaaGreatDoorRdT
import Derived.Test.YtagcgnhpdmhegaaGreatDoorJbQ
import Derived.Test.YtagcgnhpdmhegaaGreatDoorJrO
import Derived.Test.YtagcgnhpdmhegaaGreatDoorLowN
import Derived.Test.YtagcgnhpdmhegaaGreatDoorOrdS
import Derived.Test.YtagcgnhpdmhegaaGreatDoorSame
import Derived.Test.YtagcgnhpdmhegaaGreatDoorCards
import Derived.Test.YtagcgnhpdmhegaaGreatDoorTie
import Derived.ProofKit
import Derived.Lay
import Derived.ChangeMaps5
import Derived.OpenShut
import Derived.ShutString
import Derived.ChangeOld
import Derived.SevenTiedAt
namespace Go.Proofs.YtagcgnhpdmhegaaGreatDoor
open Go.RowKit
set_option linter.unusedSimpArgs false
set_option linter.unusedVariables false

theorem good_tree {vs : List VN} (hok : okB vs = true) : ∀ f i, i < vs.length → i < f → goodT f (treeOf vs f i) := by
  intro f
  induction f with
  | zero => intro i _ h; omega
  | succ f ih =>
    intro i hi hf
    obtain ⟨_, p2, _, _⟩ := okB_parts hok
    rw [treeOf]
    refine ⟨?_, fun j hj => ?_⟩
    · have := (p2 i hi).1
      rw [nodeT_eq] at this
      rw [List.length_map]
      exact this
    · rw [List.length_map] at hj
      have hki := kidsIn_get (p2 i hi).2 hj
      rw [kidT_map hj]
      exact ih _ (by omega) (by omega)
theorem whole_len {vs : List VN} (hok : okB vs = true) : (layT vs.length (treeOf vs vs.length (vs.length - 1)) 0).length = vs.length := by
  obtain ⟨p1, _⟩ := okB_parts hok
  obtain ⟨h, htr⟩ := root_first hok
  rw [← lay_tree, lay_run vs vs.length (vs.length - 1) 0 0 h (by omega) htr]
  unfold run
  rw [List.length_map, List.length_range']
  omega
theorem whole_lay {vs : List VN} (hok : okB vs = true) : layT vs.length (treeOf vs vs.length (vs.length - 1)) 0 = vs := by
  obtain ⟨p1, _⟩ := okB_parts hok
  obtain ⟨h, htr⟩ := root_first hok
  rw [← lay_tree, lay_run vs vs.length (vs.length - 1) 0 0 h (by omega) htr]
  rw [show vs.length - 1 + 1 - 0 = vs.length by omega, show (((0 : Nat) : Int) - ((0 : Nat) : Int)) = 0 by omega, run_all]
  have : (shiftN 0) = id := by funext x; exact shift_zero x
  rw [this, List.map_id]
theorem acc_at {f sh : Nat} {kids : List VT} {vs : List VN} {x : VN} (hk : ∀ j, j < (accT f sh kids kids.length ++ [x]).length → nodeAt vs (sh + j) = nodeAt (accT f sh kids kids.length ++ [x]) j) {k : Nat} (hkl : k < kids.length) :
    ∀ j, j < (layT f (kidT kids k) (sh + (accT f sh kids k).length)).length → nodeAt vs (sh + (accT f sh kids k).length + j) = nodeAt (layT f (kidT kids k) (sh + (accT f sh kids k).length)) j := by
  intro j hj
  have hlen : (accT f sh kids (k + 1)).length = (accT f sh kids k).length + (layT f (kidT kids k) (sh + (accT f sh kids k).length)).length := by rw [accT_succ f sh hkl, List.length_append]
  obtain ⟨t1, ht1⟩ := accT_pre f sh kids (show k + 1 ≤ kids.length by omega) (Nat.le_refl _)
  have hl1 := congrArg List.length ht1
  rw [List.length_append] at hl1
  have := hk ((accT f sh kids k).length + j) (by rw [List.length_append]; omega)
  rw [nodeAt_left (by omega), ht1, nodeAt_left (by omega), accT_succ f sh hkl, nodeAt_right (by omega)] at this
  rw [Nat.add_assoc, this, Nat.add_sub_cancel_left]
theorem tree_back : ∀ {f : Nat} {t : VT}, FullT f t → ∀ (vs : List VN) (sh g : Nat), f ≤ g → (∀ j, j < (layT f t sh).length → nodeAt vs (sh + j) = nodeAt (layT f t sh) j) → treeOf vs g (sh + (layT f t sh).length - 1) = t := by
  intro f
  induction f with
  | zero => intro t h; exact h.elim
  | succ f ih =>
    intro t h vs sh g hg hk
    obtain ⟨g, rfl⟩ : ∃ k, g = k + 1 := ⟨g - 1, by omega⟩
    obtain ⟨kind, n, s, keys, kids⟩ := t
    rw [layT_eq] at hk ⊢
    have hroot := hk (accT f sh kids kids.length).length (by rw [List.length_append, List.length_cons]; omega)
    rw [nodeAt_right (Nat.le_refl _), Nat.sub_self] at hroot
    have hroot' : nodeAt vs (sh + (accT f sh kids kids.length).length) = { kind := kind, n := n, s := s, keys := keys, kids := ksT f sh kids kids.length } := hroot
    rw [List.length_append, List.length_cons, List.length_nil, show sh + ((accT f sh kids kids.length).length + (0 + 1)) - 1 = sh + (accT f sh kids kids.length).length by omega, treeOf, hroot']
    have hf : ∀ k, k ≤ kids.length → (ksT f sh kids k).map (fun x => treeOf vs g x.toNat) = kids.take k := by
      intro k
      induction k with
      | zero => intro _; rw [ksT_zero]; rfl
      | succ k ihk =>
        intro hkl
        have hlen : (accT f sh kids (k + 1)).length = (accT f sh kids k).length + (layT f (kidT kids k) (sh + (accT f sh kids k).length)).length := by rw [accT_succ f sh (by omega), List.length_append]
        rw [ksT_succ f sh (by omega), List.map_append, ihk (by omega), take_kid (by omega)]
        have e := ih (h k (by omega)) vs (sh + (accT f sh kids k).length) g (by omega) (acc_at hk (by omega))
        congr 1
        rw [List.map_cons, List.map_nil, show (((sh + (accT f sh kids (k + 1)).length : Nat) : Int) - 1).toNat = sh + (accT f sh kids k).length + (layT f (kidT kids k) (sh + (accT f sh kids k).length)).length - 1 by omega, e]
    dsimp only
    rw [hf _ (Nat.le_refl _), List.take_length]
theorem full_len : ∀ {f : Nat} {t : VT}, FullT f t → ∀ sh, FullT (layT f t sh).length t := by
  intro f
  induction f with
  | zero => intro t h; exact h.elim
  | succ f ih =>
    intro t h sh
    obtain ⟨kind, n, s, keys, kids⟩ := t
    rw [layT_eq, List.length_append, List.length_cons, List.length_nil]
    intro j hj
    have hlen : (accT f sh kids (j + 1)).length = (accT f sh kids j).length + (layT f (kidT kids j) (sh + (accT f sh kids j).length)).length := by rw [accT_succ f sh hj, List.length_append]
    obtain ⟨t1, ht1⟩ := accT_pre f sh kids (show j + 1 ≤ kids.length by omega) (Nat.le_refl _)
    have hl1 := congrArg List.length ht1
    rw [List.length_append] at hl1
    exact (ih (h j hj) (sh + (accT f sh kids j).length)).more (by omega)
end Go.Proofs.YtagcgnhpdmhegaaGreatDoor

/-
  Plain: what JSON has written of a right value is read again.
-/
namespace Go.Proofs.YtagcgnhpdmhegaaGreatDoor
open Go.RowKit
set_option linter.unusedSimpArgs false
set_option linter.unusedVariables false

theorem partsJ_lines {F G : VT → List UInt8} (h : ∀ t, (F t).length ≤ (G t).length) (named : Bool) (d d' : Nat) (keys : List ByteArray) (kids : List VT) : ∀ k, (partsJ F false named d keys kids k).length ≤ (partsJ G true named d' keys kids k).length := by
  intro k
  induction k with
  | zero => exact Nat.le_refl _
  | succ k ih =>
    rw [partsJ, partsJ]
    simp only [List.length_append]
    have h1 : (lineJ false (d + 1)).length ≤ (lineJ true (d' + 1)).length := by unfold lineJ; simp
    have h2 : (if named = true then keyJ false (keyAt keys k) else []).length ≤ (if named = true then keyJ true (keyAt keys k) else []).length := by
      cases named
      · exact Nat.le_refl _
      · unfold keyJ; simp
    have h3 := h (kidT kids k)
    omega
theorem wholeJ_lines {F G : VT → List UInt8} (h : ∀ t, (F t).length ≤ (G t).length) (named : Bool) (d d' : Nat) (keys : List ByteArray) (kids : List VT) : (wholeJ F false named d keys kids).length ≤ (wholeJ G true named d' keys kids).length := by
  unfold wholeJ
  split
  · exact Nat.le_refl _
  · rw [List.length_append, List.length_append]
    have h1 := partsJ_lines h named d d' keys kids kids.length
    have h2 : (lineJ false d).length ≤ (lineJ true d').length := by unfold lineJ; simp
    omega
theorem jsonT_lines : ∀ (f d d' : Nat) (t : VT), (jsonT false f d t).length ≤ (jsonT true f d' t).length := by
  intro f
  induction f with
  | zero => intro d d' t; exact Nat.le_refl _
  | succ f ih =>
    intro d d' t
    obtain ⟨kind, n, s, keys, kids⟩ := t
    rw [jsonT, jsonT]
    split
    · exact Nat.le_refl _
    split
    · exact Nat.le_refl _
    split
    · exact Nat.le_refl _
    split
    · exact Nat.le_refl _
    have h := fun t => ih (d + 1) (d' + 1) t
    split
    · have := wholeJ_lines h false d d' keys kids
      simp only [List.length_cons, List.length_append, List.length_nil]; omega
    · have := wholeJ_lines h true d d' keys kids
      simp only [List.length_cons, List.length_append, List.length_nil]; omega
theorem jsonV_lines (vs : List VN) : (jsonV false vs).length ≤ (jsonV true vs).length := by
  unfold jsonV
  split
  · have := jsonT_lines vs.length 0 0 (treeOf vs vs.length (vs.length - 1))
    simp only [List.length_append, if_pos, Bool.false_eq_true, if_false, List.length_nil, List.length_cons]
    omega
  · exact Nat.le_refl _
theorem json_front {ns : List VN} {lines : Bool} (hok : okB ns = true) {s : ByteArray} (hs : s.size ≤ 4000) (he : s.data.toList = jsonV lines ns) : jsonF s = some (ns, s.size) := by
  have hl := len_is s
  rw [jsonV_yes hok] at he
  obtain ⟨p1, _⟩ := okB_parts hok
  have hg := good_tree hok ns.length (ns.length - 1) (by omega) (by omega)
  obtain ⟨T, hT⟩ : ∃ T, jsonT lines ns.length 0 (treeOf ns ns.length (ns.length - 1)) = T := ⟨_, rfl⟩
  rw [hT] at he
  have hsit0 : Sit s.data.toList 0 (T ++ (if lines = true then [10] else [])) := ⟨Nat.zero_le _, [], by rw [List.drop_zero, he, List.append_nil]⟩
  have hsit : Sit s.data.toList 0 (jsonT lines ns.length 0 (treeOf ns ns.length (ns.length - 1))) := by rw [hT]; exact hsit0.left
  have hlen : T.length + (if lines = true then [10] else ([] : List UInt8)).length = s.size := by rw [← hl, he, List.length_append]
  have hnd : NoDig s.data.toList (0 + (jsonT lines ns.length 0 (treeOf ns ns.length (ns.length - 1))).length) := by
    rw [hT, Nat.zero_add]
    cases lines
    · intro e; have := e.1; simp at hlen; omega
    · have h1 := hsit0.right
      rw [Nat.zero_add] at h1
      have h2 := Sit.one (x := 10) (B := []) h1
      exact nodig_of (by rw [h2.2]; rfl)
  have hsk : skipJ s.data.toList (0 + (jsonT lines ns.length 0 (treeOf ns ns.length (ns.length - 1))).length) = s.size := by
    rw [hT, Nat.zero_add]
    cases lines
    · simp at hlen
      rw [hlen]
      exact runJ_past (by omega)
    · have h1 := hsit0.right
      rw [Nat.zero_add] at h1
      have h2 := skip_blank (L := s.data.toList) (B := [10]) (p := T.length) (fun j x hx => by cases j with | zero => simp at hx; subst hx; rfl | succ j => simp at hx) h1 (fun e => by have := e.1; simp at hlen this; omega)
      rw [h2]
      simpa using hlen
  have h1 := (read_json (L := s.data.toList) lines ns.length ns.length 0 _ (Nat.le_refl _) hg 0 hsit).2 hnd
  obtain ⟨_, _, h4, _⟩ := rdJ_ok s.data.toList (by omega) ns.length 0 _ _ h1
  rw [whole_len hok] at h4
  have h3 := (read_json (L := s.data.toList) lines ns.length (s.size + 1) 0 _ (by omega) hg 0 hsit).2 hnd
  rw [hsk] at h3
  have h6 : layT (s.size + 1) (treeOf ns ns.length (ns.length - 1)) 0 = ns := by rw [layT_more hg.full (by omega), whole_lay hok]
  have h7 : allJ s.data.toList = some (treeOf ns ns.length (ns.length - 1), s.size) := allJ_yes (by rw [hl]; exact h3) (by omega)
  unfold jsonF frontV
  rw [if_neg (by omega), h7, hl]
  unfold okOf
  dsimp only
  rw [h6, if_pos hok]
end Go.Proofs.YtagcgnhpdmhegaaGreatDoor

/-
  The law FnJson: the call returns true and turns nothing that was there.
-/
namespace Go.Proofs.YtagcgnhpdmhegaaGreatDoor
open Go.RowKit
set_option linter.unusedSimpArgs false
set_option linter.unusedVariables false

set_option maxHeartbeats 800000 in
theorem drawJsonText_any (B : Nat) (v : Value) (n : Nat) (w : World) (h : CodeAt B w v n) (hB : B ≤ w.heap.size) :
    Calls Tryz.prog 6 #[v] w fun e w' => ∃ r vs KV IV, e = .returned r ∧ Fine 40 vs ∧ Nest w.heap.size w' r vs KV IV ∧ Below w.heap.size w w' := by
  have H := hideIt h
  obtain ⟨_, a, cap, rfl, _⟩ := h
  go_enter Tryz.func6, Tryz.ntmps6
  go_wp2_with fail
  refine (l1Open_any B _ n w H.out hB).mono ?_
  rintro e w1 ⟨rfl, hr, hb⟩
  have HR := hideIt hr
  have HB := hideIt hb
  have z1 := hb.size
  clear hr hb
  go_wp2_with fail
  refine (rdMaybe_any w.heap.size n w1 ⟨0, HR.out⟩).mono ?_
  rintro e w2 ⟨⟨r, vs, KV, IV, rfl, hf, hn⟩, hd⟩
  have HF := hideIt hf
  have HN := hideIt (hn.low z1)
  have HB2 := hideIt (HB.out.trans hd.below)
  obtain ⟨ar, cr, er⟩ := own_slice hn.row
  obtain ⟨M, hM⟩ : ∃ M, vs.length = M := ⟨_, rfl⟩
  rw [hM] at er
  subst er
  clear hf hn hd hM
  go_wp2_with fail
  go_ret
  exact ⟨_, vs, KV, IV, rfl, HF.out, HN.out, HB2.out⟩

set_option maxRecDepth 100000 in
set_option maxHeartbeats 6400000 in
theorem lawFnJson_walk (v : Value) (n : Nat) (w : World) (h : RawCode w v n) (htab : TabB w.heap.size w) :
    Calls Tryz.prog 3 #[v] w fun e w' => e = .returned (.bool true) ∧ Below w.heap.size w w' := by
  obtain ⟨hn, a, cap, rfl, hc⟩ := h
  have HTAB := hideIt htab
  have HCL : Hid (n ≤ 1048576 → CodeAt w.heap.size w (.slice a n cap) n) := fun h => ⟨h, a, cap, rfl, hc⟩
  clear hc htab
  go_enter Tryz.func3, Tryz.ntmps3
  go_wp2_with fail
  refine (big_any a n cap w hn).mono ?_
  rintro e w1 ⟨rfl, rfl⟩
  by_cases hbig : 1048576 < n
  · go_wp2_with fail
    go_ret
    exact ⟨rfl, Below.refl _ _⟩
  have HC := hideIt (HCL.out (by omega))
  clear HCL
  go_wp2_with fail
  refine (drawJsonText_any w1.heap.size _ n w1 HC.out (Nat.le_refl _)).mono ?_
  rintro e w2 ⟨r, vs, KV, IV, rfl, hf1, hn1, hb2⟩
  have HF1 := hideIt hf1
  have HND : Hid (∀ w', Below w2.heap.size w2 w' → NodesAt w'.heap.size w' r vs) := fun w' hb => (hn1.below hb).nodes (by have := HF1.out.2.1; omega) (HF1.out.few (by omega)).2
  have HB2 := hideIt hb2
  have z2 := hb2.size
  have HTB : Hid (∀ w', Below w2.heap.size w2 w' → TabB w'.heap.size w') := fun w' hb => (HTAB.out.next (HB2.out.trans (hb.mono z2))).wide (Nat.le_trans z2 hb.size)
  obtain ⟨ar, cr, er⟩ := own_slice hn1.row
  obtain ⟨M, hM⟩ : ∃ M, vs.length = M := ⟨_, rfl⟩
  rw [hM] at er
  subst er
  clear hf1 hn1 hb2 hM HC
  obtain ⟨S, hS⟩ : ∃ S, txt (jsonV false vs) = S := ⟨_, rfl⟩
  obtain ⟨T, hT⟩ : ∃ T, txt (jsonV true vs) = T := ⟨_, rfl⟩
  have HSB : Hid (S.data.toList = jsonV false vs) := by rw [Hid, ← hS, bytes_txt]
  have HTB2 : Hid (T.data.toList = jsonV true vs) := by rw [Hid, ← hT, bytes_txt]
  have CI := hideIt (fun (w' : World) (hb : Below w2.heap.size w2 w') => implJson_any w'.heap.size _ vs w' (HND.out w' hb) (Nat.le_refl _) (HTB.out w' hb))
  have CS := hideIt (fun (w' : World) (hb : Below w2.heap.size w2 w') => specJson_any w'.heap.size _ vs w' (HND.out w' hb) (Nat.le_refl _))
  have DI := hideIt (fun (w' : World) (hb : Below w2.heap.size w2 w') => implIndented_any w'.heap.size _ vs w' (HND.out w' hb) (Nat.le_refl _) (HTB.out w' hb))
  have DS := hideIt (fun (w' : World) (hb : Below w2.heap.size w2 w') => specIndented_any w'.heap.size _ vs w' (HND.out w' hb) (Nat.le_refl _))
  simp only [hS] at CI CS
  simp only [hT] at DI DS
  have HLE : Hid (S.size ≤ T.size) := by rw [Hid, ← hS, ← hT, txt_size, txt_size]; exact jsonV_lines vs
  clear hS hT
  have hss : (S.toList == S.toList) = true := by simp
  have hsn : (S.toList != S.toList) = false := by simp
  have htt : (T.toList == T.toList) = true := by simp
  have htn : (T.toList != T.toList) = false := by simp
  go_wp2_with fail
  refine (CI.out w2 (Below.refl _ _)).mono ?_
  rintro e w3 ⟨rfl, hb3⟩
  have H3 := hideIt hb3
  have z3 := hb3.size
  clear hb3
  go_wp2_with fail
  refine (DI.out w3 H3.out).mono ?_
  rintro e w4 ⟨rfl, hb4⟩
  have H4 := hideIt (H3.out.trans (hb4.mono z3))
  have z4 := H4.out.size
  clear hb4
  go_wp2_with fail
  refine (CS.out w4 H4.out).mono ?_
  rintro e w5 ⟨rfl, hb5⟩
  have H5 := hideIt (H4.out.trans (hb5.mono z4))
  have z5 := H5.out.size
  clear hb5
  go_wp2_with fail
  refine (DS.out w5 H5.out).mono ?_
  rintro e w6 ⟨rfl, hb6⟩
  have H6 := hideIt (H5.out.trans (hb6.mono z5))
  have z6 := H6.out.size
  clear hb6
  have HEND : Hid (∀ w7, Below w6.heap.size w6 w7 → Below w1.heap.size w1 w7) := fun w7 hb => HB2.out.trans ((H6.out.trans (hb.mono z6)).mono z2)
  have HTE : Hid (S.toList.isEmpty = false → okB vs = true) := fun he => by
    cases ho : okB vs
    · exfalso
      rw [Lib.toList_data, HSB.out, jsonV_no ho] at he
      cases he
    · rfl
  by_cases hE : S.toList.isEmpty = true
  focus
    go_wp2_with fail
  rotate_left
  have hE' : S.toList.isEmpty = false := by simpa using hE
  clear hE
  by_cases h40 : 4000 < T.size
  focus
    have h40' : (4000 : Int) < (T.size : Int) := by omega
    go_wp2_with fail
  rotate_left 2
  iterate 2
    focus
      refine (CS.out w6 H6.out).mono ?_
      rintro e w7 ⟨rfl, hb7⟩
      have H7 := hideIt (H6.out.trans (hb7.mono z6))
      have E7 := hideIt (HEND.out w7 hb7)
      have z7 := hb7.size
      clear hb7
      go_wp2_with fail
      refine (DS.out w7 H7.out).mono ?_
      rintro e w8 ⟨rfl, hb8⟩
      have E8 := hideIt (E7.out.trans (hb8.mono E7.out.size))
      clear hb8
      go_wp2_with fail
      go_ret
      exact ⟨by rfl, E8.out⟩
  have h40' : ¬ (4000 : Int) < (T.size : Int) := by omega
  have HOK := hideIt (HTE.out hE')
  have HRS : Hid (Reads 11 S (some (vs, S.size))) := by
    have h1 := implReadJson_any S (by have := HLE.out; omega)
    rw [json_front HOK.out (by have := HLE.out; omega) HSB.out] at h1
    exact h1
  have HRT : Hid (Reads 11 T (some (vs, T.size))) := by
    have h1 := implReadJson_any T (by omega)
    rw [json_front HOK.out (by omega) HTB2.out] at h1
    exact h1
  clear HTE h40
  go_wp2_with fail
  refine (HRS.out w6).mono ?_
  rintro e w7 ⟨r7, base7, KV7, IV7, rfl, hb1, hb2, hn7, hbl7⟩
  have HN7 : Hid (∀ w', Below w7.heap.size w7 w' → NodesAt w'.heap.size w' r7 vs) := fun w' hb => Nest.nodes (vs := vs) (hn7.below hb) (by have := HF1.out.2.1; omega) (HF1.out.few (by omega)).2
  have H7 := hideIt hbl7
  have z7 := hbl7.size
  obtain ⟨a7, c7, e7⟩ := own_slice hn7.row
  obtain ⟨M7, hM7⟩ : ∃ M, (nsOf (some (vs, S.size))).length = M := ⟨_, rfl⟩
  rw [hM7] at e7
  subst e7
  have hI : (some (vs, S.size)).isSome = true := rfl
  rw [hI]
  clear hI hM7 hn7 hbl7 hb1 hb2 HRS
  go_wp2_with fail
  refine (HRT.out w7).mono ?_
  rintro e w8 ⟨r8, base8, KV8, IV8, rfl, hb1, hb2, hn8, hbl8⟩
  have HN8 : Hid (∀ w', Below w8.heap.size w8 w' → NodesAt w'.heap.size w' r8 vs) := fun w' hb => Nest.nodes (vs := vs) (hn8.below hb) (by have := HF1.out.2.1; omega) (HF1.out.few (by omega)).2
  have H8 := hideIt hbl8
  have z8 := hbl8.size
  obtain ⟨a8, c8, e8⟩ := own_slice hn8.row
  obtain ⟨M8, hM8⟩ : ∃ M, (nsOf (some (vs, T.size))).length = M := ⟨_, rfl⟩
  rw [hM8] at e8
  subst e8
  have hI : (some (vs, T.size)).isSome = true := rfl
  rw [hI]
  clear hI hM8 hn8 hbl8 hb1 hb2 HRT
  have H68 := hideIt ((H6.out.trans (H7.out.mono z6)).trans (H8.out.mono (Nat.le_trans z6 z7)))
  go_wp2_with fail
  refine (same_any w8.heap.size _ _ vs vs w8 (HN7.out w8 H8.out) (HND.out w8 H68.out) (Nat.le_refl _)).mono ?_
  rintro e w9 ⟨⟨b, rfl, hb⟩, hb9⟩
  obtain rfl : b = true := hb.2 rfl
  have H9 := hideIt hb9
  have z9 := hb9.size
  clear hb hb9
  go_wp2_with fail
  refine (same_any w9.heap.size _ _ vs vs w9 (HN8.out w9 H9.out) (HND.out w9 (H68.out.trans (H9.out.mono H68.out.size))) (Nat.le_refl _)).mono ?_
  rintro e wA ⟨⟨b, rfl, hb⟩, hbA⟩
  obtain rfl : b = true := hb.2 rfl
  have HA := hideIt hbA
  clear hb hbA
  go_wp2_with fail
  go_ret
  exact ⟨rfl, HEND.out wA (((H7.out.trans (H8.out.mono z7)).trans (H9.out.mono (Nat.le_trans z7 z8))).trans (HA.out.mono (Nat.le_trans (Nat.le_trans z7 z8) z9)))⟩
end Go.Proofs.YtagcgnhpdmhegaaGreatDoor

/-
  PROVED: for every code of bytes the law FnJson returns true: a drawn right value comes back from its text and from its lines, where these are of at most 4000 bytes. Conditions: the row's own (the three listed tables read as their initialisers lay them), tied to the program's text by the card.
-/
namespace Go.Proofs.YtagcgnhpdmhegaaGreatDoor
open Go.ChangeShapes Go.WideShapes Go.ChangeAt Go.RowKit
set_option linter.unusedVariables false

set_option maxRecDepth 100000 in
theorem fnJson_lifted (os : Os) (started : os.Started) (H : Type) (enc : TypeId × Value → H) :
    ReturnsInHanded {} Tryz.checked os 3 .any (fun w args => (Rows.fnJsonSpec.pre enc Tryz.prog Tryz.f3 [] false w args ∧ laidMetH Tryz.prog Rows.fnJsonRow.laid w) ∧ sizedMet enc Tryz.prog Tryz.f3 (OpenSpec.ofChange Rows.fnJsonSpec) false w args)
      (Rows.fnJsonSpec.post enc Tryz.prog Tryz.f3 false true false false) := by
  refine returnsInHanded_of_change_and (C := Tryz.checked) (X := fun w _ => laidMetH Tryz.prog Rows.fnJsonRow.laid w) (fun _ _ _ hh h => h.of_heap hh) js_own started (by kernel_rfl) Tryz.func3
    (ChangeSpec.witness_shaped (enc := enc) (C := Tryz.checked) (os := os) (X := fun w _ => laidMetH Tryz.prog Rows.fnJsonRow.laid w) false (World.laidAll Tryz.prog os Rows.fnJsonRow.laid) #[.slice none 0 0] 8 (World.laidAll_os _ _ _)
      (World.shaped_of_ZipB (by kernel_rfl) (by kernel_rfl)) (by kernel_rfl) (by kernel_rfl) (by kernel_rfl)
      (by rw [MakeChecks.laidMetH_plain _ _ _ (by kernel_rfl)]; exact laidMet_laidAll _ (by kernel_rfl) (by kernel_rfl))) ?_
  intro W base args ds gs before hval0 hW _ _ hL0 _
  have hL : laidMetH Tryz.prog Rows.fnJsonRow.laid W := hL0
  rw [MakeChecks.laidMetH_plain _ _ _ (by kernel_rfl)] at hL
  have hval : ∀ (j : Nat) t v, Tryz.f3.params[j]? = some t → args[j]? = some v → Value.okWide Tryz.prog W .any base t v := hval0
  have hW' := hW
  obtain ⟨p, q, hA0, hV, rfl, hfz, hnd⟩ := hW
  have hA : DataW.TrodAll enc Tryz.prog W 0 (fun _ => true) true Tryz.f3.params.toList args.toList ds p := hA0
  rw [Tryz.params3] at hA hval
  obtain ⟨v0, vs0, d0, ds0, p0, q0, hargs, rfl, rfl, h0, r0⟩ := trodAll_cons hA
  obtain ⟨rfl, rfl, rfl⟩ := trodAll_nil r0
  obtain rfl : args = #[v0] := by cases args; simp_all
  obtain ⟨rfl, rfl⟩ := trodVars_none hV
  obtain ⟨a0, len0, cap0, rfl⟩ := okWide_slice Tryz.underlying22 (hval 0 22 v0 rfl rfl)
  have k0 := h0
  have lt0 : ∀ x ∈ p0, x.block < W.heap.size := by obtain ⟨m, hm⟩ := k0; exact DataW.trod_lt m _ _ _ hm
  obtain ⟨n, w0⟩ : ∃ n, RawCode W (.slice a0 len0 cap0) n := by
    obtain ⟨fuel, hf⟩ := h0
    exact raw_code (by simpa [Value.cells] using hf)
  clear hA0 hval0
  refine (lawFnJson_walk (.slice a0 len0 cap0) n W w0 (js_tabB (js_tabIs hL))).mono fun e W' ⟨he, bel⟩ => ?_
  subst he
  exact ⟨_, rfl, _, _, _, [], _, [], hW', trodAll_mk1 (shut_bool Tryz.underlying4 _), (trodAll_cons_mk (Below.trod js_laidOut (by kernel_rfl) (of_decide_eq_true (by kernel_rfl)) k0 bel lt0) trodAll_mk0), rfl, bel.frame _, fun h => by cases h⟩

theorem fnJson_row : Rows.FnJsonSaid :=
  OpenClaim.holds_of_wide 3 Tryz.f3 rfl rfl rfl rfl rfl rfl rfl ⟨rfl, rfl, rfl, rfl, rfl⟩ rfl rfl rfl rfl rfl (by kernel_rfl) Tryz.func3 (by kernel_rfl)
    (of_decide_eq_true (by kernel_rfl)) (by unfold Func.isWrapper; first | (rw [if_pos (by decide +kernel)]; kernel_rfl) | (rw [if_neg (by decide +kernel)]; exact ⟨rfl, rfl⟩))
    (fun os started H enc _ => fnJson_lifted os started H enc)

theorem fnJson_holds : Rows.FnJsonCardSaid :=
  Claim7.holds_tied_plain_at .later [] [.data, .data, .data] true (true, "160aac62067e509f1e561cad6f14648d262211494096afdc871edeb12a0b47c4") true
    fnJson_row (fun _ h => by cases h) (by kernel_rfl) (fun _ h => by cases h) fnJson_row_tie rfl ⟨rfl, rfl⟩ (by kernel_rfl) rfl
    (fun f fn hf hfn => by
      obtain rfl : f = 3 := Option.some.inj ((show Tryz.prog.funcNamed "loop.example/g00345/laws.FnJson" = some 3 by kernel_rfl).symm.trans hf) |>.symm
      obtain rfl : fn = Tryz.f3 := (Option.some.inj (Tryz.func3.symm.trans hfn)).symm
      exact ⟨by kernel_rfl, fun j t ht => by
        rw [Tryz.params3] at ht
        have h3 : t = 22 := by
          rcases j with _ | j
          · simpa using ht.symm
          · simp at ht
        subst h3
        exact (show Tryz.prog.wantsStandIn 22 = false by kernel_rfl)⟩)
    (by kernel_rfl)
#print axioms fnJson_holds
end Go.Proofs.YtagcgnhpdmhegaaGreatDoor
