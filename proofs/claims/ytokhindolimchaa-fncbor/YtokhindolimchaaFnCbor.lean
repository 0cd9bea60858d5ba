/-
  Plain: what is read of a text's beginning is read of the text.
-/
import Derived.Test.YtokhindolimchaaRdM
import Derived.Test.YtokhindolimchaaRdF
import Derived.Test.YtokhindolimchaaISh
import Derived.Test.YtokhindolimchaaOrdS
import Derived.Test.YtokhindolimchaaSame
import Derived.Test.YtokhindolimchaaRows
import Derived.ProofKit
import Derived.OpenShut
import Derived.ShutString
import Derived.ChangeOld
import Derived.Below
namespace Go.Proofs.Ytokhindolimchaa
open Go.RowKit
set_option linter.unusedSimpArgs false
set_option linter.unusedVariables false

theorem items_ext {R R' : Nat → Option (VT × Nat)} (H : ∀ p x, R' p = some x → R p = some x) : ∀ {k p : Nat} {y : List VT × Nat}, rdItems R' k p = some y → rdItems R k p = some y := by
  intro k
  induction k with
  | zero => intro p y h; exact h
  | succ k ih =>
    intro p y h
    rw [rdItems] at h ⊢
    cases e : R' p with
    | none => rw [e] at h; cases h
    | some x =>
      obtain ⟨t, q⟩ := x
      rw [e] at h
      rw [H p _ e]
      dsimp only at h ⊢
      cases e2 : rdItems R' k q with
      | none => rw [e2] at h; cases h
      | some z => rw [e2] at h; rw [ih e2]; exact h
theorem pairs_ext {R R' : Nat → Option (VT × Nat)} (H : ∀ p x, R' p = some x → R p = some x) : ∀ {k p : Nat} {y : List ByteArray × List VT × Nat}, rdPairs R' k p = some y → rdPairs R k p = some y := by
  intro k
  induction k with
  | zero => intro p y h; exact h
  | succ k ih =>
    intro p y h
    rw [rdPairs] at h ⊢
    cases e : R' p with
    | none => rw [e] at h; cases h
    | some x =>
      obtain ⟨t, q⟩ := x
      rw [e] at h
      rw [H p _ e]
      dsimp only at h ⊢
      cases e1 : textOf t with
      | none => rw [e1] at h; cases h
      | some s =>
        rw [e1] at h
        dsimp only at h ⊢
        cases e2 : R' q with
        | none => rw [e2] at h; cases h
        | some x2 =>
          obtain ⟨u, r⟩ := x2
          rw [e2] at h
          rw [H q _ e2]
          dsimp only at h ⊢
          cases e3 : rdPairs R' k r with
          | none => rw [e3] at h; cases h
          | some z => rw [e3] at h; rw [ih e3]; exact h
theorem byAt_take {L : List UInt8} {m p : Nat} (h : p < m) : byAt (L.take m) p = byAt L p := by
  unfold byAt
  rw [List.getD_eq_getElem?_getD, List.getD_eq_getElem?_getD, List.getElem?_take, if_pos h]
theorem bigN_take {L : List UInt8} {m p : Nat} : ∀ k, p + k ≤ m → bigN (L.take m) p k = bigN L p k := by
  intro k
  induction k with
  | zero => intro _; rfl
  | succ k ih => intro h; rw [bigN, bigN, ih (by omega), byAt_take (by omega)]
theorem numI_take {L : List UInt8} {m p w : Nat} {x : Nat × Nat} (hm : m ≤ L.length) (h : numI (L.take m) p w = some x) : numI L p w = some x := by
  have hl : (L.take m).length = m := by rw [List.length_take]; omega
  unfold numI at h ⊢
  rw [hl] at h
  split at h
  · rename_i g
    rw [bigN_take w g.1] at g h
    rw [if_pos ⟨by omega, g.2⟩]
    exact h
  · cases h
theorem headI_take {L : List UInt8} {m p : Nat} {x : Nat × Nat} (hm : m ≤ L.length) (hp : p < m) (h : headI (L.take m) p = some x) : headI L p = some x := by
  unfold headI at h ⊢
  rw [byAt_take hp] at h
  split at h
  · rw [if_pos (by assumption)]; exact h
  · rw [if_neg (by assumption)]
    split at h
    · rw [if_pos (by assumption)]; exact numI_take hm h
    · cases h
theorem wordI_take {L : List UInt8} {m n q : Nat} {x : VT × Nat} (hm : m ≤ L.length) (h : wordI (L.take m) n q = some x) : wordI L n q = some x := by
  have hl : (L.take m).length = m := by rw [List.length_take]; omega
  unfold wordI at h ⊢
  rw [hl] at h
  split at h
  · rename_i g
    have e : cutT (L.take m) q n = cutT L q n := by
      unfold cutT
      rw [List.drop_take, List.take_take, Nat.min_eq_left (by omega)]
    rw [e] at h
    rw [if_pos (by omega)]
    exact h
  · cases h
theorem rowT_ext {R R' : Nat → Option (VT × Nat)} (H : ∀ p x, R' p = some x → R p = some x) {named : Bool} {many p : Nat} {x : VT × Nat} (h : rowT R' named many p = some x) : rowT R named many p = some x := by
  unfold rowT at h ⊢
  cases named
  · rw [if_neg (by decide)] at h ⊢
    cases e : rdItems R' many p with
    | none => rw [e] at h; cases h
    | some z => rw [e] at h; rw [items_ext H e]; exact h
  · rw [if_pos rfl] at h ⊢
    cases e : rdPairs R' many p with
    | none => rw [e] at h; cases h
    | some z => rw [e] at h; rw [pairs_ext H e]; exact h
theorem rdC_take {L : List UInt8} {m : Nat} (hm : m ≤ L.length) : ∀ f p x, rdC (L.take m) f p = some x → rdC L f p = some x := by
  have hl : (L.take m).length = m := by rw [List.length_take]; omega
  intro f
  induction f with
  | zero => intro p x h; simp [rdC] at h
  | succ f ih =>
    intro p x h
    rw [rdC] at h ⊢
    rw [hl] at h
    split at h
    · cases h
    rename_i hp
    rw [if_neg (by omega)]
    rw [byAt_take (by omega)] at h
    split at h
    · rw [if_pos (by assumption)]; exact h
    rw [if_neg (by assumption)]
    split at h
    · rw [if_pos (by assumption)]; exact h
    rw [if_neg (by assumption)]
    split at h
    · rw [if_pos (by assumption)]; exact h
    rw [if_neg (by assumption)]
    cases e : headI (L.take m) p with
    | none => rw [e] at h; cases h
    | some y =>
      obtain ⟨n, q⟩ := y
      rw [e] at h
      rw [headI_take hm (by omega) e]
      dsimp only at h ⊢
      unfold kindI at h ⊢
      split at h
      · rw [if_pos (by assumption)]; exact h
      rw [if_neg (by assumption)]
      split at h
      · rw [if_pos (by assumption)]; exact h
      rw [if_neg (by assumption)]
      split at h
      · rw [if_pos (by assumption)]; exact wordI_take hm h
      rw [if_neg (by assumption)]
      split at h
      · rw [if_pos (by assumption)]; exact rowT_ext ih h
      rw [if_neg (by assumption)]
      split at h
      · rw [if_pos (by assumption)]; exact rowT_ext ih h
      · cases h
theorem rdC_more {L : List UInt8} : ∀ f g p x, f ≤ g → rdC L f p = some x → rdC L g p = some x := by
  intro f
  induction f with
  | zero => intro g p x _ h; simp [rdC] at h
  | succ f ih =>
    intro g p x hg h
    obtain ⟨g, rfl⟩ : ∃ k, g = k + 1 := ⟨g - 1, by omega⟩
    have H : ∀ p x, rdC L f p = some x → rdC L g p = some x := fun p x h => ih g p x (by omega) h
    rw [rdC] at h ⊢
    split at h
    · cases h
    rw [if_neg (by assumption)]
    split at h
    · rw [if_pos (by assumption)]; exact h
    rw [if_neg (by assumption)]
    split at h
    · rw [if_pos (by assumption)]; exact h
    rw [if_neg (by assumption)]
    split at h
    · rw [if_pos (by assumption)]; exact h
    rw [if_neg (by assumption)]
    cases e : headI L p with
    | none => rw [e] at h; cases h
    | some y =>
      obtain ⟨n, q⟩ := y
      rw [e] at h
      dsimp only at h ⊢
      unfold kindI at h ⊢
      split at h
      · rw [if_pos (by assumption)]; exact h
      rw [if_neg (by assumption)]
      split at h
      · rw [if_pos (by assumption)]; exact h
      rw [if_neg (by assumption)]
      split at h
      · rw [if_pos (by assumption)]; exact h
      rw [if_neg (by assumption)]
      split at h
      · rw [if_pos (by assumption)]; exact rowT_ext H h
      rw [if_neg (by assumption)]
      split at h
      · rw [if_pos (by assumption)]; exact rowT_ext H h
      · cases h
/-- A text cut short says nothing. -/
theorem cut_none {L : List UInt8} {g m f : Nat} {t : VT} (h : rdC L g 0 = some (t, L.length)) (hm : m < L.length) (hok : L.length ≤ 4000) : rdC (L.take m) f 0 = none := by
  cases e : rdC (L.take m) f 0 with
  | none => rfl
  | some x =>
    obtain ⟨u, q⟩ := x
    exfalso
    have hl : (L.take m).length = m := by rw [List.length_take]; omega
    have h1 := (rdC_ok (L.take m) (by omega) f 0 u q e).2.1
    have h2 := rdC_more f (f + g) 0 _ (by omega) (rdC_take (by omega) f 0 _ e)
    have h3 := rdC_more g (f + g) 0 _ (by omega) h
    rw [h2] at h3
    simp only [Option.some.injEq, Prod.mk.injEq] at h3
    omega
end Go.Proofs.Ytokhindolimchaa

/-
  Plain: what is written as CBOR comes back, whatever stands behind; cut short it says nothing.
-/
namespace Go.Proofs.Ytokhindolimchaa
open Go.RowKit
set_option linter.unusedSimpArgs false
set_option linter.unusedVariables false

theorem whole_lay {vs : List VN} (hok : okB vs = true) : layT vs.length (treeOf vs vs.length (vs.length - 1)) 0 = vs := by
  obtain ⟨p1, _⟩ := okB_parts hok
  obtain ⟨h, htr⟩ := root_first hok
  rw [← lay_tree, lay_run vs vs.length (vs.length - 1) 0 0 h (by omega) htr]
  rw [show vs.length - 1 + 1 - 0 = vs.length by omega, show (((0 : Nat) : Int) - ((0 : Nat) : Int)) = 0 by omega, run_all]
  have : (shiftN 0) = id := by funext x; exact shift_zero x
  rw [this, List.map_id]
theorem cbor_front {ns : List VN} (hok : okB ns = true) {s : ByteArray} {tl : List UInt8} (hs : s.size ≤ 4000) (he : s.data.toList = cborV ns ++ tl) : cborF s = some (ns, (cborV ns).length) ∧ ∃ g t, rdC s.data.toList g 0 = some (t, (cborV ns).length) := by
  have hl := len_is s
  have hv : cborV ns = cborT ns.length (treeOf ns ns.length (ns.length - 1)) := by unfold cborV; rw [if_pos hok]
  obtain ⟨p1, _⟩ := okB_parts hok
  have hg := good_tree hok ns.length (ns.length - 1) (by omega) (by omega)
  have hsit : Sit s.data.toList 0 (cborT ns.length (treeOf ns ns.length (ns.length - 1))) := ⟨Nat.zero_le _, tl, by rw [List.drop_zero, he, hv]⟩
  have hb : s.data.toList.length ≤ 1000000000000000 := by omega
  have h1 := read_cbor hb ns.length ns.length _ 0 (Nat.le_refl _) hg hsit
  have h2 := rdC_ok s.data.toList (by omega) ns.length 0 _ _ h1
  have h4 := h2.2.2.1
  rw [whole_len hok] at h4
  have h5 := h2.2.1
  have h3 := read_cbor hb ns.length (s.size + 1) _ 0 (by omega) hg hsit
  rw [← hv, Nat.zero_add] at h3
  refine ⟨?_, _, _, h3⟩
  have h6 : layT (s.size + 1) (treeOf ns ns.length (ns.length - 1)) 0 = ns := by rw [layT_more hg.full (by omega), whole_lay hok]
  unfold cborF frontV
  rw [if_neg (by omega), h3, hl]
  unfold okOf
  dsimp only
  rw [h6, if_pos hok]
theorem cbor_cut {ns : List VN} (hok : okB ns = true) {s u : ByteArray} (hs : s.size ≤ 4000) (he : s.data.toList = cborV ns) {m : Nat} (hm : m < s.size) (hu : u.data.toList = s.data.toList.take m) : cborF u = none := by
  have hl := len_is s
  have hlu := len_is u
  obtain ⟨_, g, t, h⟩ := cbor_front hok hs (tl := []) (by rw [he, List.append_nil])
  rw [← he] at h
  have h2 := cut_none (f := u.size + 1) h (m := m) (by omega) (by omega)
  unfold cborF frontV
  rw [hu, h2]
  split <;> rfl
theorem cbor_short {ns : List VN} (hok : okB ns = true) {s : ByteArray} (hs : s.size ≤ 4000) (he : s.data.toList = cborV ns) : shortB s = true := by
  have h := (cbor_front hok hs (tl := []) (by rw [he, List.append_nil])).1
  unfold shortB
  rw [h]
  dsimp only
  rw [← he, txt_bytes]
  simp
end Go.Proofs.Ytokhindolimchaa

/-
  The law FnCbor: the call returns true and turns nothing that was there.
-/
namespace Go.Proofs.Ytokhindolimchaa
open Go.RowKit
set_option linter.unusedSimpArgs false
set_option linter.unusedVariables false

set_option maxHeartbeats 800000 in
theorem drawCborText_any (B : Nat) (v : Value) (n : Nat) (w : World) (h : CodeAt B w v n) (hB : B ≤ w.heap.size) :
    Calls Try.prog 8 #[v] w fun e w' => ∃ r vs KV IV, e = .returned r ∧ Fine 40 vs ∧ Nest w.heap.size w' r vs KV IV ∧ Below w.heap.size w w' := by
  have H := hideIt h
  obtain ⟨_, a, cap, rfl, _⟩ := h
  go_enter Try.func8, Try.ntmps8
  go_wp2_with fail
  refine (l1Open_any B _ n w H.out hB).mono ?_
  rintro e w1 ⟨rfl, hr, hb⟩
  have HR := hideIt hr
  have HB := hideIt hb
  have z1 := hb.size
  clear hr hb
  go_wp2_with fail
  refine (rdMaybe_any w.heap.size n w1 ⟨0, HR.out⟩).mono ?_
  rintro e w2 ⟨⟨r, vs, KV, IV, rfl, hf, hn⟩, hd⟩
  have HF := hideIt hf
  have HN := hideIt (hn.low z1)
  have HB2 := hideIt (HB.out.trans hd.below)
  obtain ⟨ar, cr, er⟩ := own_slice hn.row
  obtain ⟨M, hM⟩ : ∃ M, vs.length = M := ⟨_, rfl⟩
  rw [hM] at er
  subst er
  clear hf hn hd hM
  go_wp2_with fail
  go_ret
  exact ⟨_, vs, KV, IV, rfl, HF.out, HN.out, HB2.out⟩

set_option maxRecDepth 100000 in
set_option maxHeartbeats 6400000 in
theorem lawFnCbor_walk (v : Value) (n : Nat) (w : World) (h : RawCode w v n) :
    Calls Try.prog 3 #[v] w fun e w' => e = .returned (.bool true) ∧ Below w.heap.size w w' := by
  obtain ⟨hn, a, cap, rfl, hc⟩ := h
  have HCL : Hid (n ≤ 1048576 → CodeAt w.heap.size w (.slice a n cap) n) := fun h => ⟨h, a, cap, rfl, hc⟩
  clear hc
  go_enter Try.func3, Try.ntmps3
  go_wp2_with fail
  refine (big_any a n cap w hn).mono ?_
  rintro e w1 ⟨rfl, rfl⟩
  by_cases hbig : 1048576 < n
  · go_wp2_with fail
    go_ret
    exact ⟨rfl, Below.refl _ _⟩
  have HC := hideIt (HCL.out (by omega))
  clear HCL
  go_wp2_with fail
  refine (drawCborText_any w1.heap.size _ n w1 HC.out (Nat.le_refl _)).mono ?_
  rintro e w2 ⟨r, vs, KV, IV, rfl, hf1, hn1, hb2⟩
  have HF1 := hideIt hf1
  have HND : Hid (∀ w', Below w2.heap.size w2 w' → NodesAt w'.heap.size w' r vs) := fun w' hb => (hn1.below hb).nodes (by have := HF1.out.2.1; omega) (HF1.out.few (by omega)).2
  have HB2 := hideIt hb2
  have z2 := hb2.size
  obtain ⟨ar, cr, er⟩ := own_slice hn1.row
  obtain ⟨M, hM⟩ : ∃ M, vs.length = M := ⟨_, rfl⟩
  rw [hM] at er
  subst er
  clear hf1 hn1 hb2 hM HC
  obtain ⟨T, hT⟩ : ∃ T, txt (cborV vs) = T := ⟨_, rfl⟩
  have HTB : Hid (T.data.toList = cborV vs) := by rw [Hid, ← hT, bytes_txt]
  have CI := hideIt (fun (w' : World) (hb : Below w2.heap.size w2 w') => implCbor_any w'.heap.size _ vs w' (HND.out w' hb) (Nat.le_refl _))
  have CS := hideIt (fun (w' : World) (hb : Below w2.heap.size w2 w') => specCbor_any w'.heap.size _ vs w' (HND.out w' hb) (Nat.le_refl _))
  simp only [hT] at CI CS
  clear hT
  have hss : (T.toList == T.toList) = true := by simp
  have hsn : (T.toList != T.toList) = false := by simp
  go_wp2_with fail
  refine (CI.out w2 (Below.refl _ _)).mono ?_
  rintro e w3 ⟨rfl, hb3⟩
  have H3 := hideIt hb3
  have z3 := hb3.size
  clear hb3
  go_wp2_with fail
  refine (CS.out w3 H3.out).mono ?_
  rintro e w4 ⟨rfl, hb4⟩
  have H4 := hideIt (H3.out.trans (hb4.mono z3))
  have z4 := H4.out.size
  clear hb4
  have HEND : Hid (∀ w5, Below w4.heap.size w4 w5 → Below w1.heap.size w1 w5) := fun w5 hb => HB2.out.trans ((H4.out.trans (hb.mono z4)).mono z2)
  have HTE : Hid (T.toList.isEmpty = false → okB vs = true) := fun he => by
    cases ho : okB vs
    · exfalso
      have h1 : cborV vs = [] := by unfold cborV; rw [ho]; rfl
      rw [Lib.toList_data, HTB.out, h1] at he
      cases he
    · rfl
  have HTL : Hid (T.toList.isEmpty = false → 0 < T.size) := fun he => by
    rw [Lib.toList_data] at he
    have := len_is T
    cases hx : T.data.toList with
    | nil => rw [hx] at he; cases he
    | cons y l => rw [hx] at this; simp at this; omega
  by_cases hE : T.toList.isEmpty = true
  focus
    go_wp2_with fail
  rotate_left
  have hE' : T.toList.isEmpty = false := by simpa using hE
  clear hE
  by_cases h39 : 3996 < T.size
  focus
    have h39' : (3996 : Int) < (T.size : Int) := by omega
    go_wp2_with fail
  rotate_left 2
  iterate 2
    focus
      refine (CS.out w4 H4.out).mono ?_
      rintro e w5 ⟨rfl, hb5⟩
      have H5 := hideIt (HEND.out w5 hb5)
      clear hb5
      go_wp2_with fail
      go_ret
      exact ⟨by rfl, H5.out⟩
  have h39' : ¬ (3996 : Int) < (T.size : Int) := by omega
  have HOK := hideIt (HTE.out hE')
  have hT0 : 0 < T.size := HTL.out hE'
  have HRU : Hid (Fronts 11 (T ++ ⟨#[116, 97, 105, 108]⟩) (some (vs, T.size))) := by
    have h1 : (T ++ ⟨#[116, 97, 105, 108]⟩ : ByteArray).data.toList = cborV vs ++ [116, 97, 105, 108] := by
      rw [← HTB.out]; simp [ByteArray.data_append]
    have h2 : (T ++ ⟨#[116, 97, 105, 108]⟩ : ByteArray).size ≤ 4000 := by rw [← len_is, h1, List.length_append, ← HTB.out, len_is]; simp; omega
    have h3 := (cbor_front HOK.out h2 h1).1
    rw [← HTB.out, len_is] at h3
    have h4 := implReadCbor_any (T ++ ⟨#[116, 97, 105, 108]⟩) (by omega)
    rw [h3] at h4
    exact h4
  clear HTE HTL h39
  go_wp2_with fail
  refine (HRU.out w4).mono ?_
  rintro e w5 ⟨r5, base5, KV5, IV5, rfl, hb1, hb2, hn5, hbl5⟩
  have HN5 : Hid (∀ w', Below w5.heap.size w5 w' → NodesAt w'.heap.size w' r5 vs) := fun w' hb => Nest.nodes (vs := vs) (hn5.below hb) (by have := HF1.out.2.1; omega) (HF1.out.few (by omega)).2
  have H5 := hideIt hbl5
  have z5 := hbl5.size
  obtain ⟨a5, c5, e5⟩ := own_slice hn5.row
  obtain ⟨M5, hM5⟩ : ∃ M, (nsOf (some (vs, T.size))).length = M := ⟨_, rfl⟩
  rw [hM5] at e5
  subst e5
  have hU : usedOf (some (vs, T.size)) = T.size := rfl
  have hI : (some (vs, T.size)).isSome = true := rfl
  rw [hU, hI]
  clear hU hI hM5 hn5 hbl5 hb1 hb2 HRU
  have hT0' : ¬ ((T.size : Int) = 0) := by omega
  have hml : n % T.size < T.size := Nat.mod_lt _ hT0
  have hmI : ((n : Int) % (T.size : Int)) = ((n % T.size : Nat) : Int) := (Int.natCast_emod n T.size).symm
  have hmI0 : 0 ≤ ((n : Int) % (T.size : Int)) := by rw [hmI]; omega
  have hmI1 : ((n : Int) % (T.size : Int)) ≤ (T.size : Int) := by rw [hmI]; omega
  clear hmI
  have HRC : Hid (Fronts 11 (T.extract 0 (n % T.size)) none) := by
    have h1 : (T.extract 0 (n % T.size)).data.toList = T.data.toList.take (n % T.size) := by rw [cut_txt, bytes_txt, List.drop_zero, Nat.sub_zero]
    have h2 : (T.extract 0 (n % T.size)).size ≤ 4000 := by rw [← len_is, h1, List.length_take, len_is]; omega
    have h3 := cbor_cut HOK.out (s := T) (by omega) HTB.out hml h1
    have h4 := implReadCbor_any (T.extract 0 (n % T.size)) (by omega)
    rw [h3] at h4
    exact h4
  go_wp2_with fail
  refine (HRC.out w5).mono ?_
  rintro e w6 ⟨r6, base6, KV6, IV6, rfl, _, _, hn6, hbl6⟩
  have H6 := hideIt hbl6
  have z6 := hbl6.size
  obtain ⟨a6, c6, e6⟩ := own_slice hn6.row
  have hU : usedOf none = 0 := rfl
  have hI : (none : Option (List VN × Nat)).isSome = false := rfl
  rw [hU, hI]
  obtain ⟨M6, hM6⟩ : ∃ M, (nsOf none).length = M := ⟨_, rfl⟩
  rw [hM6] at e6
  subst e6
  clear hU hI hn6 hbl6 hM6 HRC
  have hqq : ((T.size : Int) == (T.size : Int)) = true := by simp
  go_wp2_with fail
  refine (same_any w6.heap.size _ _ vs vs w6 (HN5.out w6 H6.out) (HND.out w6 ((H4.out.trans (H5.out.mono z4)).trans (H6.out.mono (by omega)))) (Nat.le_refl _)).mono ?_
  rintro e w7 ⟨⟨b, rfl, hb⟩, hb7⟩
  obtain rfl : b = true := hb.2 rfl
  have H7 := hideIt hb7
  have z7 := hb7.size
  clear hb hb7
  have HSH := hideIt (implShort_any T w7 (by omega))
  rw [cbor_short HOK.out (by omega) HTB.out] at HSH
  go_wp2_with fail
  refine HSH.out.mono ?_
  rintro e w8 ⟨rfl, hb8⟩
  have H8 := hideIt hb8
  clear hb8
  go_wp2_with fail
  go_ret
  exact ⟨rfl, HEND.out w8 (((H5.out.trans (H6.out.mono z5)).trans (H7.out.mono (by omega))).trans (H8.out.mono (by omega)))⟩
end Go.Proofs.Ytokhindolimchaa

/-
  PROVED: for every code of bytes the law FnCbor returns true: a drawn right value comes back from its CBOR bytes, whatever stands behind; these are the shortest ones; cut anywhere they say nothing. No condition beyond the row's own.
-/
namespace Go.Proofs.Ytokhindolimchaa
open Go.ChangeShapes Go.WideShapes Go.ChangeAt Go.RowKit
set_option linter.unusedVariables false

theorem fnCbor_own : ownKnob Try.prog.godebug = none := by kernel_rfl
theorem fnCbor_laidOut : laidOutB Try.prog = true := by kernel_rfl
set_option maxRecDepth 100000 in
theorem fnCbor_lifted (os : Os) (started : os.Started) (H : Type) (enc : TypeId × Value → H) :
    ReturnsInHanded {} Try.checked os 3 .any (Rows.fnCborSpec.pre6 enc Try.prog Try.f3 Rows.fnCborRow.domain false) (Rows.fnCborSpec.post enc Try.prog Try.f3 false true false false) := by
  refine returnsInHanded_of_change (C := Try.checked) fnCbor_own started (by kernel_rfl) Try.func3
    (ChangeSpec.witness6 (enc := enc) (C := Try.checked) false ⟨#[], #[.slice none 0 0], []⟩ 8 (by kernel_rfl) (by kernel_rfl) (by kernel_rfl) (by kernel_rfl)) ?_
  intro W base args ds gs before hval0 hW hcnd _
  have hval : ∀ (j : Nat) t v, Try.f3.params[j]? = some t → args[j]? = some v → Value.okWide Try.prog W .any base t v := hval0
  have hW' := hW
  obtain ⟨p, q, hA0, hV, rfl, hfz, hnd⟩ := hW
  have hA : DataW.TrodAll enc Try.prog W 0 (fun _ => true) true Try.f3.params.toList args.toList ds p := hA0
  rw [Try.params3] at hA hval
  obtain ⟨v0, vs0, d0, ds0, p0, q0, hargs, rfl, rfl, h0, r0⟩ := trodAll_cons hA
  obtain ⟨rfl, rfl, rfl⟩ := trodAll_nil r0
  obtain rfl : args = #[v0] := by cases args; simp_all
  obtain ⟨rfl, rfl⟩ := trodVars_none hV
  obtain ⟨a0, len0, cap0, rfl⟩ := okWide_slice Try.underlying22 (hval 0 22 v0 rfl rfl)
  have k0 := h0
  have lt0 : ∀ x ∈ p0, x.block < W.heap.size := by obtain ⟨m, hm⟩ := k0; exact DataW.trod_lt m _ _ _ hm
  obtain ⟨n, w0⟩ : ∃ n, RawCode W (.slice a0 len0 cap0) n := by
    obtain ⟨fuel, hf⟩ := h0
    exact raw_code (by simpa [Value.cells] using hf)
  clear hA0 hval0
  refine (lawFnCbor_walk (.slice a0 len0 cap0) n W w0).mono fun e W' ⟨he, bel⟩ => ?_
  subst he
  exact ⟨_, rfl, _, _, _, [], _, [], hW', trodAll_mk1 (shut_bool Try.underlying4 _), (trodAll_cons_mk (Below.trod fnCbor_laidOut (by kernel_rfl) (of_decide_eq_true (by kernel_rfl)) k0 bel lt0) trodAll_mk0), rfl, bel.frame _, fun h => by cases h⟩

theorem fnCbor_holds : Rows.FnCborSaid :=
  OpenClaim.holds_of_wide 3 Try.f3 rfl rfl rfl rfl rfl rfl rfl ⟨rfl, rfl, rfl, rfl, rfl⟩ rfl rfl rfl rfl rfl (by kernel_rfl) Try.func3 (by kernel_rfl)
    (of_decide_eq_true (by kernel_rfl)) (by unfold Func.isWrapper; first | (rw [if_pos (by decide +kernel)]; kernel_rfl) | (rw [if_neg (by decide +kernel)]; exact ⟨rfl, rfl⟩))
    (fun os started H enc _ => fnCbor_lifted os started H enc)
#print axioms fnCbor_holds
end Go.Proofs.Ytokhindolimchaa
