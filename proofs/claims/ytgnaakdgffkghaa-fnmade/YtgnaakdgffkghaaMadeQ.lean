/-
  (*impl.treePart).follow: the part to which steps lead.
-/
import Derived.Test.YtgnaakdgffkghaaFind
import Derived.Test.YtgnaakdgffkghaaCln
import Derived.Test.YtgnaakdgffkghaaGotP
import Derived.Test.YtgnaakdgffkghaaSpc3
import Derived.Test.YtgnaakdgffkghaaSPart
import Derived.Deep.RegionWith
namespace Go.Proofs.Ytgnaakdgffkghaa
open Go.RowKit
set_option linter.unusedSimpArgs false
set_option linter.unusedVariables false

theorem own_strs_ks {base : Nat} {w : World} {v : Value} {l : List ByteArray} (h : w.ownsRow base 9 1 v l.length (l.map .string)) (h1 : l.length ≤ 1048576) (h2 : ∀ i, i < l.length → (keyAt l i).size ≤ 140737488355328) : StrsAt w.heap.size w v l := own_strs h (by omega) h2

/-- What find says of a part. -/
theorem find_any (B f : Nat) (kind n : Int) (s : ByteArray) (keys : List ByteArray) (kids : List VT) (lo hi p : Nat) (x : PS) (w : World) (h : PT B w (f + 1) (.mk kind n s keys kids) lo hi (.pointer (some ⟨p, 0, none⟩)))
    (h6 : kind = 6 → Rise keys ∧ keys.length ≤ 1048576 ∧ ∀ i, i < keys.length → (keyAt keys i).size ≤ 140737488355328) (hx : -9223372036854775808 ≤ x.pl ∧ x.pl ≤ 9223372036854775807) :
    Calls Try.prog 65 #[.pointer (some ⟨p, 0, none⟩), .agg #[.bool x.named, .string x.key, .int .i64 x.pl]] w fun e w' => e = .returned (.tuple #[.int .i64 (findR kind keys kids.length x).1, .bool (findR kind keys kids.length x).2]) ∧ Below w.heap.size w w' := by
  obtain ⟨sv, p', ks, it, ps, ls, hs, e, ht, hp⟩ := h
  obtain rfl : p = p' := by simpa using e
  have hlt := (hp.lt (Or.inl rfl)).2
  have c0 : w.cell? ⟨p, 0, none⟩ = some sv := by rw [hp.node.cellAt 0 (by omega)]; rfl
  have c1 : w.cell? ⟨p, 1, none⟩ = some ks := by rw [hp.node.cellAt 1 (by omega)]; rfl
  have c2 : w.cell? ⟨p, 2, none⟩ = some it := by rw [hp.node.cellAt 2 (by omega)]; rfl
  have no : ∀ k : Int, k ≠ 5 → k ≠ 6 → findR k keys kids.length x = (-1, false) := fun k h5 h6 => by unfold findR; rw [if_neg h5, if_neg (fun e => h6 e.1)]
  rcases ht with ⟨rfl, _, _, _, _, rfl⟩ | ⟨rfl, _, _, _, rfl⟩ | ⟨rfl, _, _, _, rfl⟩ | ⟨rfl, _, _, _, rfl⟩ | ⟨rfl, _, _, rfl, itv, rfl, hi⟩ | ⟨rfl, _, _, kv, itv, rfl, hs6, hi⟩
  · rw [no 1 (by omega) (by omega)]; exact find_null p _ ks it x w c0 hlt
  · rw [no 2 (by omega) (by omega)]; exact find_bool p _ ks it x w c0 hlt
  · rw [no 3 (by omega) (by omega)]; exact find_int p _ ks it x w c0 hlt
  · rw [no 4 (by omega) (by omega)]; exact find_text p _ ks it x w c0 hlt
  · obtain ⟨a, c, rfl⟩ := own_slice hp.kidsR
    exact find_list p kids.length _ a c x w c0 c2 hlt hi.1 hx
  · obtain ⟨g1, g2, g3⟩ := h6 rfl
    exact find_map p _ ks keys kids.length x w c0 c1 (own_strs_ks hp.keysR g2 g3) g1 g2 hlt

theorem tree_mk (vs : List VN) (f i : Nat) : treeOf vs (f + 1) i = .mk (nodeAt vs i).kind (nodeAt vs i).n (nodeAt vs i).s (nodeAt vs i).keys ((nodeAt vs i).kids.map fun k => treeOf vs f k.toNat) := rfl

/-- A node of kind 6 has keys that rise, as many as parts. -/
theorem node6 {vs : List VN} (hok : okB vs = true) {i : Nat} (hi : i < vs.length) (h6 : (nodeAt vs i).kind = 6) : Rise (nodeAt vs i).keys ∧ (nodeAt vs i).keys.length = (nodeAt vs i).kids.length ∧ (nodeAt vs i).keys.length ≤ 80 ∧ ∀ j, j < (nodeAt vs i).keys.length → (keyAt (nodeAt vs i).keys j).size ≤ 140737488355328 := by
  have hn := ((okB_parts hok).2.1 i hi).1
  have hk := keys_few hok i hi
  unfold nodeB namedB at hn
  simp [h6] at hn
  refine ⟨riseB_rise hn.2.2, hn.2.1, hk.2.2, fun j hj => ?_⟩
  have hr := hn.2.2
  unfold riseB at hr
  rw [List.all_eq_true] at hr
  have := hr j (List.mem_range.2 hj)
  unfold riseAt textB at this
  simp only [Bool.and_eq_true, decide_eq_true_eq] at this
  omega

/-- The node, if there is one, as the answer of follow. -/
def folPtr (o : Option Nat) (p : Nat) : Value := match o with
  | none => .pointer none
  | some _ => .pointer (some ⟨p, 0, none⟩)

set_option maxRecDepth 100000 in
set_option maxHeartbeats 3200000 in
theorem follow_any (B : Nat) (vs : List VN) (hok : okB vs = true) (f0 i0 lo0 hi0 p0 : Nat) (v : Value) (ps : List PS) (w : World) (h : PT B w f0 (treeOf vs f0 i0) lo0 hi0 (.pointer (some ⟨p0, 0, none⟩))) (hf : i0 < f0) (hi : i0 < vs.length) (hB : B ≤ w.heap.size) (hh : hi0 ≤ w.heap.size)
    (hv : StepsAt w.heap.size w v ps) (hst : ∀ k, k < ps.length → stepB (stepAt ps k) = true) :
    Calls Try.prog 47 #[.pointer (some ⟨p0, 0, none⟩), v] w fun e w' => ∃ p, e = .returned (.tuple #[folPtr (gotN vs i0 ps) p, .bool (gotN vs i0 ps).isSome]) ∧ (∀ q, gotN vs i0 ps = some q → q < vs.length ∧ ∃ f lo hi, q < f ∧ hi ≤ w'.heap.size ∧ PT B w' f (treeOf vs f q) lo hi (.pointer (some ⟨p, 0, none⟩))) ∧ Below w.heap.size w w' := by
  obtain ⟨hlen, hfit, a, cap, rfl, hcell⟩ := hv
  have HC := hideIt hcell
  have HF := hideIt hfit
  have HST := hideIt hst
  have HP0 := hideIt h
  have HOK := hideIt hok
  clear hcell hfit hst h hok
  go_enter Try.func47, Try.ntmps47
  go_wp2_with fail
  go_loopw [0, 12] (fun t i wr => ∃ (k q f lo hi p : Nat), k ≤ ps.length ∧ i = .int .i64 k ∧ t = .pointer (some ⟨p, 0, none⟩) ∧ gotN vs i0 (ps.take k) = some q ∧ q < vs.length ∧ q < f ∧ hi ≤ wr.heap.size ∧ PT B wr f (treeOf vs f q) lo hi (.pointer (some ⟨p, 0, none⟩)) ∧ Below w.heap.size w wr) (fun _ i _ => ps.length - (intOf i).toNat)
  case atStart => exact ⟨0, i0, f0, lo0, hi0, p0, Nat.zero_le _, rfl, rfl, rfl, hi, hf, hh, HP0.out, Below.refl _ _⟩
  case round =>
    obtain ⟨k, q, f, lo, hi', p, hk, rfl, rfl, hgot, hq, hqf, hhi, hpt, hbl⟩ := hrel
    have HG := hideIt hgot
    have HPT := hideIt hpt
    have zs := hbl.size
    clear hgot hpt HP0
    by_cases hlt : k < ps.length
    · obtain ⟨b, o, rfl, hbB, hc⟩ := HC.out (by omega)
      obtain ⟨hc0, hc1, hc2⟩ := hc k hlt
      have c0 := (below_cell hbl hbB).trans hc0
      have c1 := (below_cell hbl hbB).trans hc1
      have c2 := (below_cell hbl hbB).trans hc2
      have hfx := HF.out k hlt
      have hsx := HST.out k hlt
      have h0x : (stepAt ps k).named = true ∨ 0 ≤ (stepAt ps k).pl := by
        unfold stepB at hsx
        cases hnm : (stepAt ps k).named
        · right; simp [hnm] at hsx; omega
        · exact Or.inl rfl
      have HTS := hideIt (take_step hlt)
      have HNX : Hid (gotN vs i0 (ps.take (k + 1)) = match stepN (nodeAt vs q) (stepAt ps k) with | none => none | some j => some (intAt (nodeAt vs q).kids j).toNat) := by
        rw [Hid, HTS.out, gotN_append, HG.out]; rfl
      generalize stepAt ps k = x at *
      obtain ⟨g, rfl⟩ : ∃ g, f = g + 1 := ⟨f - 1, by omega⟩
      have hba : Below wr.heap.size wr (wr.alloc (.cells #[.bool x.named, .string x.key, .int .i64 x.pl] 45)) := (Below.refl _ _).alloc (Nat.le_refl _) _
      have HPA := hideIt (HPT.out.below hba (by omega) hhi)
      have HBA := hideIt hba
      clear hc hc0 hc1 hc2 hsx hba
      have HFI := hideIt (fun W (hW : PT B W (g + 1) (treeOf vs (g + 1) q) lo hi' (.pointer (some ⟨p, 0, none⟩))) => find_any B g _ _ _ _ _ lo hi' p x W (by rw [tree_mk] at hW; exact hW) (fun e => ⟨(node6 HOK.out hq e).1, by have := (node6 HOK.out hq e).2.2.1; omega, (node6 HOK.out hq e).2.2.2⟩) hfx.2)
      have HKL : Hid (((nodeAt vs q).kids.map fun k => treeOf vs g k.toNat).length = (nodeAt vs q).kids.length) := by simp [Hid]
      cases hsn : stepN (nodeAt vs q) x with
      | none =>
        have HFR : Hid ((findR (nodeAt vs q).kind (nodeAt vs q).keys ((nodeAt vs q).kids.map fun k => treeOf vs g k.toNat).length x).2 = false) := by rw [Hid, HKL.out]; exact findR_none hsn
        have HGN : Hid (gotN vs i0 ps = none) := gotN_none vs i0 (k := k + 1) (by rw [HNX.out, hsn])
        go_wp2_with fail
        refine (HFI.out _ HPA.out).mono ?_
        rintro e w1 ⟨rfl, hb1⟩
        rw [HFR.out]
        generalize (findR (nodeAt vs q).kind (nodeAt vs q).keys ((nodeAt vs q).kids.map fun k => treeOf vs g k.toNat).length x).1 = at1
        have HB1 : Hid (Below w.heap.size w w1) := (hbl.trans (HBA.out.mono zs)).trans (hb1.mono (by simp; omega))
        clear hb1
        go_wp2_with fail
        go_ret2
        exact ⟨0, by rw [HGN.out]; rfl, fun q' hq' => absurd (HGN.out.symm.trans hq') (by simp), HB1.out⟩
      | some j =>
        have hjl : j < (nodeAt vs q).kids.length := stepN_lt h0x (fun e => (node6 HOK.out hq e).2.1) hsn
        have HFR : Hid (findR (nodeAt vs q).kind (nodeAt vs q).keys ((nodeAt vs q).kids.map fun k => treeOf vs g k.toNat).length x = ((j : Int), true)) := by rw [Hid, HKL.out]; exact findR_some h0x hsn
        have hkin := kidsIn_get (keys_few HOK.out q hq).1 hjl
        obtain ⟨q2, hq2⟩ : ∃ q2 : Nat, intAt (nodeAt vs q).kids j = (q2 : Int) := ⟨(intAt (nodeAt vs q).kids j).toNat, by omega⟩
        have HNX2 : Hid (gotN vs i0 (ps.take (k + 1)) = some q2) := by rw [Hid, HNX.out, hsn]; simp [hq2]
        have hq2q : q2 < q := by omega
        go_wp2_with fail
        refine (HFI.out _ HPA.out).mono ?_
        rintro e w1 ⟨rfl, hb1⟩
        rw [HFR.out]
        have z1 := hb1.size
        simp only [World.size_alloc] at z1
        have HB1 : Hid (Below w.heap.size w w1) := (hbl.trans (HBA.out.mono zs)).trans (hb1.mono (by simp; omega))
        have hp1 := HPA.out.below hb1 (by simp; omega) (by simp; omega)
        rw [tree_mk] at hp1
        obtain ⟨sv, p', ks, it, pp, ls, hs, e1, _, hp⟩ := hp1
        obtain rfl : p = p' := by simpa using e1
        rw [HKL.out] at hp
        have d2 : w1.cell? ⟨p, 2, none⟩ = some it := by rw [hp.node.cellAt 2 (by omega)]; rfl
        obtain ⟨ai, ci, rfl⟩ := own_slice hp.kidsR
        obtain ⟨gi, capi, ei, _, hgl⟩ := hp.kidsR.form (by omega)
        cases ei
        have d3 : w1.cell? ⟨gi, j, none⟩ = some (pp j) := by rw [hp.kidsR.cellAt j (by omega)]; simp [hjl]
        have hkid := hp.kid j hjl
        have hrng := hp.rng j hjl
        rw [kidT_map hjl, hq2] at hkid
        simp only [Int.toNat_natCast] at hkid
        obtain ⟨p2, ep2⟩ : ∃ p2, pp j = .pointer (some ⟨p2, 0, none⟩) := by
          obtain ⟨g', rfl⟩ : ∃ g', g = g' + 1 := ⟨g - 1, by omega⟩
          rw [tree_mk] at hkid
          obtain ⟨_, p2, _, _, _, _, _, e2, _⟩ := hkid
          exact ⟨p2, e2⟩
        rw [ep2] at d3 hkid
        have HKD := hideIt hkid
        have hjm : (j : Int) < ((nodeAt vs q).kids.length : Int) := by omega
        clear hp hb1 hkid e1 ep2
        go_wp2_with fail
        go_roundw
        case rel => exact ⟨k + 1, q2, g, ls j, hs j, p2, by omega, by go_num, rfl, HNX2.out, by omega, by omega, by omega, HKD.out, HB1.out⟩
        case measure => simp [intOf]; omega
    · obtain rfl : k = ps.length := by omega
      have HGN : Hid (gotN vs i0 ps = some q) := by have := HG.out; rw [List.take_length] at this; exact this
      go_wp2_with fail
      go_ret2
      exact ⟨p, by rw [HGN.out]; rfl, fun q' hq' => (by rw [HGN.out] at hq'; cases hq'; exact ⟨hq, f, lo, hi', hqf, hhi, HPT.out⟩), hbl⟩
end Go.Proofs.Ytgnaakdgffkghaa

/-
  spec.Got: the nodes of the part to which the steps lead.
-/
namespace Go.Proofs.Ytgnaakdgffkghaa
open Go.RowKit
set_option linter.unusedSimpArgs false
set_option linter.unusedVariables false

def kidR (o : Option Nat) : Int := match o with
  | none => -1
  | some k => k

/-- The nodes that come of it. -/
def gotPart (vs : List VN) (o : Option Nat) : List VN := match o with
  | none => []
  | some q => partOf vs q
def gotB (vs : List VN) (ps : List PS) : Bool := okB vs && pathB ps && (gotN vs (vs.length - 1) ps).isSome
def gotNs (vs : List VN) (ps : List PS) : List VN := if okB vs && pathB ps then (gotPart vs (gotN vs (vs.length - 1) ps)) else []

theorem pathB_steps {ps : List PS} (h : pathB ps = true) : ∀ k, k < ps.length → stepB (stepAt ps k) = true := by
  unfold pathB at h
  simp only [Bool.and_eq_true, List.all_eq_true] at h
  exact fun k hk => h.2 k (List.mem_range.2 hk)

theorem stepB_nonneg {x : PS} (h : stepB x = true) : x.named = true ∨ 0 ≤ x.pl := by
  unfold stepB at h
  cases hnm : x.named
  · right; simp [hnm] at h; omega
  · exact Or.inl rfl

end Go.Proofs.Ytgnaakdgffkghaa

/-
  What is made of parts has them as its parts; a map that is made has each part by its key: plain mathematics.
-/
namespace Go.Proofs.Ytgnaakdgffkghaa
open Go.RowKit
set_option linter.unusedSimpArgs false
set_option linter.unusedVariables false

theorem shiftN_inj {d : Int} {a b : List VN} (h : a.map (shiftN d) = b.map (shiftN d)) : a = b := by
  have e := congrArg (List.map (shiftN (-d))) h
  rw [List.map_map, List.map_map] at e
  have e2 : (shiftN (-d)) ∘ (shiftN d) = id := by
    funext x
    simp only [Function.comp, shiftN_shiftN, id]
    rw [show (-d + d) = 0 by omega, shiftN_zero]
  rw [e2, List.map_id, List.map_id] at e
  exact e

theorem catKs_nth (L : Nat → List VN) : ∀ (m i : Nat), i < m → (catKs L m)[i]? = some (((catNs L (i + 1)).length : Int) - 1) := by
  intro m
  induction m with
  | zero => intro i hi; omega
  | succ m ih =>
    intro i hi
    rw [catKs]
    by_cases e : i < m
    · rw [List.getElem?_append_left (by rw [catKs_len]; exact e)]
      exact ih i e
    · obtain rfl : i = m := by omega
      rw [List.getElem?_append_right (by rw [catKs_len]; exact Nat.le_refl _), catKs_len]
      simp

theorem catNs_take (L : Nat → List VN) {i m : Nat} (h : i ≤ m) : (catNs L m).take (catNs L i).length = catNs L i := by
  induction m with
  | zero => obtain rfl : i = 0 := by omega
            simp [catNs]
  | succ m ih =>
    by_cases e : i = m + 1
    · subst e; simp
    · have h2 : i ≤ m := by omega
      have h3 := catNs_mono L h2
      rw [catNs, List.take_append_of_le_length h3]
      exact ih h2

/-- Of the same nodes, the same parts. -/
theorem make_inj {kind : Int} {keys : List ByteArray} {L L' : Nat → List VN} {m m' : Nat} (h0 : ∀ i, i < m → 0 < (L i).length) (h : makeNs kind keys L m = makeNs kind keys L' m') : m = m' ∧ ∀ i, i < m → L i = L' i := by
  unfold makeNs at h
  obtain ⟨h1, h2⟩ := List.append_inj' h rfl
  simp only [List.cons.injEq, VN.mk.injEq, true_and, and_true] at h2
  have hm : m = m' := by have := congrArg List.length h2; rwa [catKs_len, catKs_len] at this
  subst hm
  refine ⟨rfl, fun i hi => ?_⟩
  have hl : ∀ k, k ≤ m → (catNs L k).length = (catNs L' k).length := by
    intro k hk
    cases k with
    | zero => rfl
    | succ k =>
      have e1 := catKs_nth L m k (by omega)
      have e2 := catKs_nth L' m k (by omega)
      rw [h2, e2] at e1
      simp at e1
      omega
  have t1 : catNs L i = catNs L' i := by rw [← catNs_take L (show i ≤ m by omega), ← catNs_take L' (show i ≤ m by omega), hl i (by omega), h1]
  have t2 : catNs L (i + 1) = catNs L' (i + 1) := by rw [← catNs_take L (show i + 1 ≤ m by omega), ← catNs_take L' (show i + 1 ≤ m by omega), hl (i + 1) (by omega), h1]
  rw [catNs, catNs, t1] at t2
  exact shiftN_inj (List.append_cancel_left t2)

theorem make_last (kind : Int) (keys : List ByteArray) (L : Nat → List VN) (m : Nat) : nodeAt (makeNs kind keys L m) ((makeNs kind keys L m).length - 1) = { kind := kind, n := 0, s := ByteArray.empty, keys := keys, kids := catKs L m } := by
  have e : (makeNs kind keys L m).length - 1 = (catNs L m).length := by unfold makeNs; simp
  rw [e]
  unfold makeNs
  exact nodeAt_snoc_end

/-- The parts of what is made. -/
theorem made_parts {kind : Int} {keys : List ByteArray} {L : Nat → List VN} {m : Nat} (hk : kind = 5 ∨ kind = 6) (hok : okB (makeNs kind keys L m) = true) (h0 : ∀ i, i < m → 0 < (L i).length) :
    (rootKids (makeNs kind keys L m)).length = m ∧ ∀ i, i < m → PL (makeNs kind keys L m) i = L i := by
  have hl := make_last kind keys L m
  have h := make_parts hok (by rw [hl]; exact hk)
  rw [hl] at h
  simp only at h
  obtain ⟨e1, e2⟩ := make_inj h0 h.symm
  exact ⟨e1.symm, fun i hi => (e2 i hi).symm⟩

/-- A list that is made has its values as its parts. -/
theorem list_made {L : Nat → List VN} {m : Nat} (h : listB L m = true) : okB (listNs L m) = true ∧ partsN (listNs L m) = m ∧ ∀ i, i < m → PL (listNs L m) i = L i := by
  have e : listNs L m = makeNs 5 [] L m := by unfold listNs; rw [if_pos h]
  unfold listB at h
  simp only [Bool.and_eq_true, decide_eq_true_eq] at h
  obtain ⟨⟨h1, h2⟩, h3⟩ := h
  have hm := made_parts (Or.inl rfl) h3 (fun i hi => by have := (okB_parts (allB_yes h1 i hi)).1; omega)
  rw [e]
  exact ⟨h3, by unfold partsN; rw [if_pos h3, hm.1], hm.2⟩

theorem perm_hit {l : List ByteArray} {ns : List ByteArray} {ps : List Nat} : ∀ {i : Nat}, sortIn l i = some (ns, ps) → ∀ j, j < i → j ∈ ps := by
  intro i
  induction i generalizing ns ps with
  | zero => intro _ j hj; omega
  | succ i ih =>
    intro h j hj
    rw [sortIn] at h
    split at h
    · cases h
    · rename_i ns0 ps0 h0
      split at h
      · cases h
      · injection h with h
        injection h with e1 e2
        subst e1 e2
        by_cases e : j = i
        · subst e; simp
        · have := ih h0 j (by omega)
          have h4 : j ∈ ps0.take (posK ns0 (keyAt l i)) ++ ps0.drop (posK ns0 (keyAt l i)) := by rw [List.take_append_drop]; exact this
          rw [List.mem_append] at h4
          simp only [List.mem_append, List.mem_singleton, List.mem_cons]
          rcases h4 with h4 | h4
          · exact Or.inl (Or.inl h4)
          · first | exact Or.inr h4 | exact Or.inr (Or.inr h4)

/-- A map that is made has each value by its key. -/
theorem map_made {l : List ByteArray} {L : Nat → List VN} {m : Nat} (h : mapB l L m = true) : okB (mapNs l L m) = true ∧ l.length = m ∧ ∀ i, i < m → textB (keyAt l i) = true ∧ (gotN (mapNs l L m) ((mapNs l L m).length - 1) [⟨true, keyAt l i, 0⟩]).isSome = true ∧ gotPart (mapNs l L m) (gotN (mapNs l L m) ((mapNs l L m).length - 1) [⟨true, keyAt l i, 0⟩]) = L i := by
  have hB := h
  unfold mapB at h
  simp only [Bool.and_eq_true, decide_eq_true_eq] at h
  obtain ⟨⟨⟨h1, h2⟩, h3⟩, h4⟩ := h
  cases hs : sortIn l l.length with
  | none => unfold sortNs at h4; rw [hs] at h4; cases h4
  | some q =>
    obtain ⟨ns, ps⟩ := q
    have hsn : sortNs l L m = some (makeNs 6 ns (fun j => L (ps.getD j 0)) m) := by unfold sortNs; rw [hs]
    rw [hsn] at h4
    simp only at h4
    have e : mapNs l L m = makeNs 6 ns (fun j => L (ps.getD j 0)) m := by unfold mapNs; rw [if_pos hB, hsn]; rfl
    have hpl := (sortIn_len hs)
    have hpm := sortIn_mem hs
    have h0 : ∀ i, i < m → 0 < (L (ps.getD i 0)).length := fun i hi => by
      have : ps.getD i 0 < m := by
        rw [List.getD_eq_getElem?_getD, List.getElem?_eq_getElem (by omega)]
        have := hpm _ (List.getElem_mem (show i < ps.length by omega))
        simp only [Option.getD_some]
        omega
      have := (okB_parts (allB_yes h1 _ this)).1
      omega
    have hm := made_parts (Or.inr rfl) h4 h0
    have hl := make_last 6 ns (fun j => L (ps.getD j 0)) m
    rw [e]
    refine ⟨h4, h3, fun i hi => ?_⟩
    have hin := perm_hit hs i (by omega)
    obtain ⟨p, hp, ep⟩ := List.getElem_of_mem hin
    have hnm := sortIn_map hs
    have hkp : keyAt ns p = keyAt l i := by
      rw [hnm]
      unfold keyAt
      rw [List.getD_eq_getElem?_getD, List.getElem?_map, List.getElem?_eq_getElem hp, ep]
      rfl
    have p1 := (okB_parts h4).1
    have hn := ((okB_parts h4).2.1 _ (show (makeNs 6 ns (fun j => L (ps.getD j 0)) m).length - 1 < _ by omega)).1
    rw [hl] at hn
    have hr : riseB ns = true := by
      unfold nodeB namedB at hn
      simp at hn
      exact hn.2.2
    have hrise := riseB_rise hr
    have hpn : p < ns.length := by omega
    have ht : textB (keyAt l i) = true := by
      unfold riseB at hr
      rw [List.all_eq_true] at hr
      have := hr p (List.mem_range.2 hpn)
      unfold riseAt at this
      simp only [Bool.and_eq_true] at this
      rw [← hkp]; exact this.1
    obtain ⟨g1, g2⟩ := hasK_first (l := ns) (key := keyAt l i) hrise hpn (by rw [hkp]) (fun j hj => by
      have := hrise j p hj hpn
      rw [hkp] at this
      exact less_ne this)
    have hst : stepN (nodeAt (makeNs 6 ns (fun j => L (ps.getD j 0)) m) ((makeNs 6 ns (fun j => L (ps.getD j 0)) m).length - 1)) ⟨true, keyAt l i, 0⟩ = some p := by
      rw [hl]
      unfold stepN stepTo
      simp [g1, g2]
    have hg : gotN (makeNs 6 ns (fun j => L (ps.getD j 0)) m) ((makeNs 6 ns (fun j => L (ps.getD j 0)) m).length - 1) [⟨true, keyAt l i, 0⟩] = some (intAt (rootKids (makeNs 6 ns (fun j => L (ps.getD j 0)) m)) p).toNat := by
      simp only [gotN, hst]
      rfl
    rw [hg]
    refine ⟨ht, rfl, ?_⟩
    have := hm.2 p (by omega)
    unfold PL at this
    unfold gotPart
    simp only
    rw [this, List.getD_eq_getElem?_getD, List.getElem?_eq_getElem hp, ep]
    rfl
end Go.Proofs.Ytgnaakdgffkghaa
