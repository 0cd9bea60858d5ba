/-
  impl.valueOf: the value of right nodes.
-/
import Derived.Test.YtokhindolimchaaVAt
import Derived.Test.YtokhindolimchaaSAdd
import Derived.Test.YtokhindolimchaaSPkT
import Derived.Test.YtokhindolimchaaSCbT
import Derived.Test.YtokhindolimchaaSpc3
import Derived.Test.YtokhindolimchaaRdM
import Derived.Test.YtokhindolimchaaIHigh
import Derived.Test.YtokhindolimchaaRows
import Derived.ProofKit
import Derived.OpenShut
import Derived.ShutString
import Derived.ChangeOld
import Derived.ChangeMaps5
import Derived.Below
namespace Go.Proofs.Ytokhindolimchaa
open Go.RowKit
set_option linter.unusedSimpArgs false
set_option linter.unusedVariables false

set_option maxRecDepth 100000 in
set_option maxHeartbeats 1600000 in
theorem valueOf_no (B : Nat) (v : Value) (vs : List VN) (w : World) (h : NodesAt B w v vs) (hB : B ≤ w.heap.size) (hno : okB vs = false) :
    Calls Try.prog 23 #[v] w fun e w' => e = .returned (.tuple #[.nilIface, .bool false]) ∧ Below w.heap.size w w' := by
  have HV := hideIt h
  obtain ⟨_, a, cap, rfl, _⟩ := h
  go_enter Try.func23, Try.ntmps23
  go_wp2_with fail
  refine (implOk_any B _ vs _ HV.out hB).mono ?_
  rintro e w1 ⟨rfl, hb1⟩
  go_wp2_with fail
  go_ret2
  exact ⟨rfl, hb1⟩

set_option maxRecDepth 100000 in
set_option maxHeartbeats 1600000 in
theorem valueOf_yes (B : Nat) (v : Value) (vs : List VN) (w : World) (h : NodesAt B w v vs) (hB : B ≤ w.heap.size) (hyes : okB vs = true) :
    Calls Try.prog 23 #[v] w fun e w' => ∃ lo t x, e = .returned (.tuple #[.iface t x, .bool true]) ∧ w.heap.size ≤ lo ∧ lo < w'.heap.size ∧ ValIs lo w'.heap.size w' vs vs.length (vs.length - 1) (.iface t x) ∧ Below w.heap.size w w' := by
  have HV := hideIt h
  obtain ⟨_, a, cap, rfl, _⟩ := h
  obtain ⟨⟨hn1, hn2⟩, hok, _, hkn⟩ := okB_parts hyes
  have HOK := hideIt hok
  have HKN := hideIt hkn
  clear hok hkn
  go_enter Try.func23, Try.ntmps23
  go_wp2_with fail
  refine (implOk_any B _ vs _ HV.out hB).mono ?_
  rintro e w1 ⟨rfl, hb1⟩
  have z1 := hb1.size
  go_wp2_with fail
  refine (valuesAt_any B _ vs _ (HV.out.below (hb1.mono hB)) (by omega) hn1 hn2 HOK.out HKN.out).mono ?_
  rintro e w2 ⟨VV, rfl, hrow, hvals, hb2⟩
  have z2 := hb2.size
  obtain ⟨t, x, hx⟩ := (hvals (vs.length - 1) (by omega)).iface
  have hc : w2.cell? ⟨w1.heap.size, vs.length - 1, none⟩ = some (.iface t x) := by rw [hrow.cell (by omega), hx]
  have hlt := hrow.lt
  have hval := hvals (vs.length - 1) (by omega)
  rw [hx] at hval
  have HVL := hideIt hval
  have p0 : ((vs.length : Int) - 1).toNat = vs.length - 1 := by omega
  clear hrow hvals hx hval
  go_wp2_with fail
  go_ret2
  exact ⟨w1.heap.size, t, x, rfl, by omega, hlt, ValIs.more (by omega) HVL.out, hb1.trans (hb2.mono z1)⟩
end Go.Proofs.Ytokhindolimchaa

/-
  The program's and the specification's CborText.
-/
namespace Go.Proofs.Ytokhindolimchaa
open Go.RowKit
set_option linter.unusedSimpArgs false
set_option linter.unusedVariables false

def cborV (vs : List VN) : List UInt8 := if okB vs = true then cborT vs.length (treeOf vs vs.length (vs.length - 1)) else []
theorem ft_cbor : FT 43 0 := ⟨by kernel_rfl, by decide⟩

set_option maxRecDepth 100000 in
set_option maxHeartbeats 1600000 in
theorem implCbor_any (B : Nat) (v : Value) (vs : List VN) (w : World) (h : NodesAt B w v vs) (hB : B ≤ w.heap.size) :
    Calls Try.prog 9 #[v] w fun e w' => e = .returned (.string (txt (cborV vs))) ∧ Below w.heap.size w w' := by
  have HV := hideIt h
  obtain ⟨_, a, cap, rfl, _⟩ := h
  have HP : Hid (cborV vs = if okB vs = true then cborT vs.length (treeOf vs vs.length (vs.length - 1)) else []) := rfl
  go_enter Try.func9, Try.ntmps9
  go_wp2_with fail
  cases ok1 : okB vs
  · refine (valueOf_no B _ vs _ HV.out hB ok1).mono ?_
    rintro e w1 ⟨rfl, hb1⟩
    rw [ok1] at HP
    go_wp2_with fail
    go_ret
    exact ⟨by rw [HP.out]; rfl, hb1⟩
  · refine (valueOf_yes B _ vs _ HV.out hB ok1).mono ?_
    rintro e w1 ⟨lo1, t, x, rfl, hl1, hl1', hv1, hb1⟩
    have z1 := hb1.size
    obtain ⟨p1, p2, _, p4⟩ := okB_parts ok1
    have ht := ValIs.tree (by omega) p2 p4 p1.2 (by omega) hv1
    have HFIT := hideIt (tfit_of ok1 vs.length (vs.length - 1) (by omega))
    have H16 := hideIt (cborT_16k ok1 (f := vs.length) (i := vs.length - 1) (by omega) (by omega))
    have HPOS : Hid (1 ≤ (cborT vs.length (treeOf vs vs.length (vs.length - 1))).length) := by
      obtain ⟨f, hf⟩ : ∃ f, vs.length = f + 1 := ⟨vs.length - 1, by omega⟩
      have := cborT_pos ok1 f (i := vs.length - 1) (by omega)
      rw [← hf] at this
      exact this
    rw [ok1, if_pos rfl] at HP
    have HB1 := hideIt hb1
    obtain ⟨W2, hW2⟩ : ∃ W2, w1.alloc (.cells #[.pointer none, .slice none 0 0] 43) = W2 := ⟨_, rfl⟩
    have HW2 := hideIt hW2
    have HT2 : Hid (TreeAt w1.heap.size W2 vs.length (treeOf vs vs.length (vs.length - 1)) (.iface t x)) := TreeAt.keep (fun c hc => by rw [← hW2]; exact Below.heap_alloc _ _ _ hc) (Nat.le_refl _) ht
    have HFB : Hid (FB 43 w1.heap.size w1.heap.size [] [] W2) := by
      refine ⟨Nat.le_refl _, .pointer none, .slice none 0 0, .inl rfl, ?_, ?_, by simp [Value.ownBlock]⟩
      · rw [← hW2]; exact heap_alloc_new w1 _
      · exact World.ownsRow_nil _ _ _ _
    have hz2 : w1.heap.size ≤ W2.heap.size := by rw [← hW2]; simp
    have HBW : Hid (Below w1.heap.size w1 W2) := by rw [Hid, ← hW2]; exact (Below.refl _ _).alloc (Nat.le_refl _) _
    clear hv1 p2 p4 hb1 ht hW2
    go_wp2_with fail
    rw [HW2.out]
    refine (cbWrite_any w1.heap.size w1.heap.size ft_cbor vs.length _ _ [] W2 HFB.out HT2.out HFIT.out hz2 (by rw [List.nil_append]; have := H16.out; omega)).mono ?_
    rintro e w3 ⟨rfl, f3, b3, _⟩
    rw [List.nil_append] at f3
    have HF3 := hideIt f3
    have HB3 := hideIt (HBW.out.trans b3)
    clear f3 b3
    go_wp2_with (go_at_call 25; refine (fb_string HF3.out (fun e => by have := HPOS.out; rw [e] at this; simp at this)).mono ?_; rintro e w4 ⟨rfl, b4⟩)
    go_ret
    exact ⟨by rw [HP.out]; rfl, HB1.out.trans ((HB3.out.trans b4).mono z1)⟩

set_option maxRecDepth 100000 in
set_option maxHeartbeats 1600000 in
theorem specCbor_any (B : Nat) (v : Value) (vs : List VN) (w : World) (h : NodesAt B w v vs) (hB : B ≤ w.heap.size) :
    Calls Try.prog 10 #[v] w fun e w' => e = .returned (.string (txt (cborV vs))) ∧ Below w.heap.size w w' := by
  have HV := hideIt h
  obtain ⟨_, a, cap, rfl, _⟩ := h
  have HP : Hid (cborV vs = if okB vs = true then cborT vs.length (treeOf vs vs.length (vs.length - 1)) else []) := rfl
  go_enter Try.func10, Try.ntmps10
  go_wp2_with fail
  refine (specOk_any B _ vs _ HV.out hB).mono ?_
  rintro e w1 ⟨rfl, hb1⟩
  have z1 := hb1.size
  cases ok1 : okB vs
  · rw [ok1] at HP
    go_wp2_with fail
    go_ret
    exact ⟨by rw [HP.out]; rfl, hb1⟩
  · rw [ok1, if_pos rfl] at HP
    obtain ⟨p1, _⟩ := okB_parts ok1
    have HTX := hideIt (l3Text_any B vs ok1 vs.length _ (vs.length - 1) w1 (HV.out.below (hb1.mono hB)) (by omega) (by omega) (by omega))
    obtain ⟨N, hN⟩ : ∃ N, vs.length = N := ⟨_, rfl⟩
    have e1 : ((N - 1 : Nat) : Int) = (N : Int) - 1 := by omega
    rw [hN] at HTX HP p1 ⊢
    rw [e1] at HTX
    clear hN
    go_wp2_with (first | (go_at_call 27; go_in) | (go_at_call 54; refine HTX.out.mono ?_; rintro e w2 ⟨rfl, hb2⟩))
    go_ret
    exact ⟨by rw [HP.out]; rfl, hb1.trans (hb2.mono z1)⟩
end Go.Proofs.Ytokhindolimchaa

/-
  Shortest: the program's and the specification's.
-/
namespace Go.Proofs.Ytokhindolimchaa
open Go.RowKit
set_option linter.unusedSimpArgs false
set_option linter.unusedVariables false

theorem good_tree {vs : List VN} (hok : okB vs = true) : ∀ f i, i < vs.length → i < f → goodT f (treeOf vs f i) := by
  intro f
  induction f with
  | zero => intro i _ h; omega
  | succ f ih =>
    intro i hi hf
    obtain ⟨_, p2, _, _⟩ := okB_parts hok
    rw [treeOf]
    refine ⟨?_, fun j hj => ?_⟩
    · have := (p2 i hi).1
      rw [nodeT_eq] at this
      rw [List.length_map]
      exact this
    · rw [List.length_map] at hj
      have hki := kidsIn_get (p2 i hi).2 hj
      rw [kidT_map hj]
      exact ih _ (by omega) (by omega)
theorem whole_len {vs : List VN} (hok : okB vs = true) : (layT vs.length (treeOf vs vs.length (vs.length - 1)) 0).length = vs.length := by
  obtain ⟨p1, _⟩ := okB_parts hok
  obtain ⟨h, htr⟩ := root_first hok
  rw [← lay_tree, lay_run vs vs.length (vs.length - 1) 0 0 h (by omega) htr]
  unfold run
  rw [List.length_map, List.length_range']
  omega
/-- What is written of nodes is read as those, to its end. -/
theorem cbor_again {ns : List VN} (hok : okB ns = true) {s : ByteArray} (hs : s.size ≤ 4000) (he : s.data.toList = cborV ns) : rdC s.data.toList (s.size + 1) 0 = some (treeOf ns ns.length (ns.length - 1), s.size) := by
  have hl := len_is s
  have hv : cborV ns = cborT ns.length (treeOf ns ns.length (ns.length - 1)) := by unfold cborV; rw [if_pos hok]
  obtain ⟨p1, _⟩ := okB_parts hok
  have hg := good_tree hok ns.length (ns.length - 1) (by omega) (by omega)
  have hsit : Sit s.data.toList 0 (cborT ns.length (treeOf ns ns.length (ns.length - 1))) := ⟨Nat.zero_le _, [], by rw [List.drop_zero, List.append_nil, he, hv]⟩
  have hb : s.data.toList.length ≤ 1000000000000000 := by omega
  have h1 := read_cbor hb ns.length ns.length _ 0 (Nat.le_refl _) hg hsit
  have h2 := (rdC_ok s.data.toList (by omega) ns.length 0 _ _ h1).2.2.1
  rw [whole_len hok, ← hv, ← he, Nat.zero_add, Nat.sub_zero, hl] at h2
  have h3 := read_cbor hb ns.length (s.size + 1) _ 0 (by omega) hg hsit
  rw [← hv, ← he, Nat.zero_add, hl] at h3
  exact h3
theorem cborF_ok {s : ByteArray} {ns : List VN} {q : Nat} (h : cborF s = some (ns, q)) : okB ns = true ∧ s.size ≤ 4000 ∧ SmNs ns ∧ ∃ t, rdC s.data.toList (s.size + 1) 0 = some (t, q) := by
  by_cases hs : s.size ≤ 4000
  · have hsm := cborF_small s
    rw [h] at hsm
    have hl := len_is s
    unfold cborF frontV at h
    rw [if_neg (by omega)] at h
    cases e : rdC s.data.toList (s.size + 1) 0 with
    | none => rw [e] at h; cases h
    | some x =>
      obtain ⟨t, r⟩ := x
      rw [e] at h
      unfold okOf at h
      dsimp only at h
      split at h
      · rename_i hok
        simp only [Option.some.injEq, Prod.mk.injEq] at h
        obtain ⟨rfl, rfl⟩ := h
        refine ⟨hok, hs, ?_, t, rfl⟩
        rcases hsm with hx | hx
        · obtain ⟨p1, _⟩ := okB_parts hok
          exfalso
          have : (layT (s.data.toList.length + 1) t 0).length = 0 := by rw [show layT (s.data.toList.length + 1) t 0 = [] from hx]; rfl
          omega
        · exact hx
      · cases h
  · rw [cborF_big (by omega)] at h; cases h
def shortB (s : ByteArray) : Bool := match cborF s with | none => false | some (ns, _) => (txt (cborV ns)).toList == s.toList
theorem short_all {s : ByteArray} {ns : List VN} {q : Nat} (h : cborF s = some (ns, q)) (he : ((txt (cborV ns)).toList == s.toList) = true) : q = s.size := by
  obtain ⟨h1, h2, _, t, h3⟩ := cborF_ok h
  have e := str_eq he
  have h4 := cbor_again h1 h2 (by rw [← e, bytes_txt])
  rw [h3] at h4
  simp only [Option.some.injEq, Prod.mk.injEq] at h4
  exact h4.2

set_option maxRecDepth 100000 in
set_option maxHeartbeats 3200000 in
theorem implShort_any (s : ByteArray) (w : World) (hs : s.size ≤ 9223372036854775807) : Calls Try.prog 13 #[.string s] w fun e w' => e = .returned (.bool (shortB s)) ∧ Below w.heap.size w w' := by
  have HC := hideB (implReadCbor_any s hs w)
  cases hV : cborF s with
  | none =>
    have HSB : Hid (shortB s = false) := by rw [Hid, shortB, hV]
    rw [hV] at HC
    rw [HSB.out]
    clear hV
    go_enter Try.func13, Try.ntmps13
    go_wp2_with fail
    refine HC.out.mono ?_
    rintro e w1 ⟨r, base, KV, IV, rfl, _, _, hn, hb⟩
    obtain ⟨ar, cr, er⟩ := own_slice hn.row
    subst er
    have HB := hideB hb
    clear hn hb
    go_wp2_with fail
    go_ret
    exact ⟨rfl, HB.out⟩
  | some x =>
    obtain ⟨ns, q⟩ := x
    have HSB : Hid (shortB s = ((txt (cborV ns)).toList == s.toList)) := by rw [Hid, shortB, hV]
    obtain ⟨_, _, hsm, _⟩ := cborF_ok hV
    rw [hV] at HC
    rw [HSB.out]
    have HSM := hideB hsm
    clear hV hsm
    obtain ⟨T, hT⟩ : ∃ T, txt (cborV ns) = T := ⟨_, rfl⟩
    have HTT := hideB hT
    rw [hT] at HSB ⊢
    clear hT
    go_enter Try.func13, Try.ntmps13
    go_wp2_with fail
    refine HC.out.mono ?_
    rintro e w1 ⟨r, base, KV, IV, rfl, _, _, hn, hb⟩
    have HCT := hideB (implCbor_any w1.heap.size r ns w1 (Nest.nodes (vs := ns) hn (by have := HSM.out.2.1; omega) (fun j hj => HSM.out.few.2 j hj)) (Nat.le_refl _))
    obtain ⟨ar, cr, er⟩ := own_slice hn.row
    have er' : r = .slice ar ns.length cr := er
    subst er'
    have HB := hideB hb
    have z1 := hb.size
    clear hn hb er
    obtain ⟨M, hM⟩ : ∃ M, ns.length = M := ⟨_, rfl⟩
    rw [hM] at HCT ⊢
    clear hM
    rw [HTT.out] at HCT
    go_wp2_with fail
    refine HCT.out.mono ?_
    rintro e w2 ⟨rfl, hb2⟩
    have HB2 := hideB (HB.out.trans (hb2.mono z1))
    clear hb2
    go_wp2_with fail
    go_ret
    exact ⟨rfl, HB2.out⟩

set_option maxRecDepth 100000 in
set_option maxHeartbeats 3200000 in
theorem specShort_any (s : ByteArray) (w : World) (hs : s.size ≤ 9223372036854775807) : Calls Try.prog 18 #[.string s] w fun e w' => e = .returned (.bool (shortB s)) ∧ Below w.heap.size w w' := by
  have HC := hideB (specReadCbor_any s hs w)
  cases hV : cborF s with
  | none =>
    have HSB : Hid (shortB s = false) := by rw [Hid, shortB, hV]
    rw [hV] at HC
    rw [HSB.out]
    clear hV
    go_enter Try.func18, Try.ntmps18
    go_wp2_with fail
    refine HC.out.mono ?_
    rintro e w1 ⟨r, base, KV, IV, rfl, _, _, hn, hb⟩
    obtain ⟨ar, cr, er⟩ := own_slice hn.row
    subst er
    have HB := hideB hb
    clear hn hb
    go_wp2_with fail
    go_ret
    exact ⟨rfl, HB.out⟩
  | some x =>
    obtain ⟨ns, q⟩ := x
    have HSB : Hid (shortB s = ((txt (cborV ns)).toList == s.toList)) := by rw [Hid, shortB, hV]
    obtain ⟨hok, _, hsm, _⟩ := cborF_ok hV
    have HALL := hideB (short_all hV)
    rw [hV] at HC
    rw [HSB.out]
    have HSM := hideB hsm
    have HOK := hideB hok
    clear hV hsm
    obtain ⟨T, hT⟩ : ∃ T, txt (cborV ns) = T := ⟨_, rfl⟩
    have HTT := hideB hT
    rw [hT] at HSB HALL ⊢
    clear hT
    go_enter Try.func18, Try.ntmps18
    go_wp2_with fail
    refine HC.out.mono ?_
    rintro e w1 ⟨r, base, KV, IV, rfl, _, _, hn, hb⟩
    have hU : usedOf (some (ns, q)) = q := rfl
    rw [hU]
    clear hU
    obtain ⟨p1, _⟩ := okB_parts HOK.out
    have HTX := hideB (l3Text_any w1.heap.size ns HOK.out ns.length r (ns.length - 1) w1 (Nest.nodes (vs := ns) hn (by have := HSM.out.2.1; omega) (fun j hj => HSM.out.few.2 j hj)) (by omega) (by omega) (by omega))
    have HVV : Hid (cborT ns.length (treeOf ns ns.length (ns.length - 1)) = cborV ns) := by rw [Hid]; unfold cborV; rw [if_pos HOK.out]
    rw [HVV.out] at HTX
    obtain ⟨ar, cr, er⟩ := own_slice hn.row
    have er' : r = .slice ar ns.length cr := er
    subst er'
    have HB := hideB hb
    have z1 := hb.size
    clear hn hb er HVV
    obtain ⟨M, hM⟩ : ∃ M, ns.length = M := ⟨_, rfl⟩
    have e1 : ((M - 1 : Nat) : Int) = (M : Int) - 1 := by omega
    rw [hM] at HTX p1 ⊢
    rw [e1] at HTX
    clear hM hok
    rw [HTT.out] at HTX
    by_cases hq : q = s.size
    · have hq' : ((q : Int) == (s.size : Int)) = true := by simp; omega
      clear hq
      go_wp2_with (first | (go_at_call 27; go_in) | (go_at_call 54; refine HTX.out.mono ?_; rintro e w2 ⟨rfl, hb2⟩))
      go_ret
      exact ⟨rfl, HB.out.trans (hb2.mono z1)⟩
    · have hq' : ((q : Int) == (s.size : Int)) = false := by simp; omega
      have HNO : Hid ((T.toList == s.toList) = false) := by
        rw [Hid]
        cases hx : (T.toList == s.toList)
        · rfl
        · exact absurd (HALL.out hx) hq
      clear hq
      go_wp2_with fail
      go_ret
      exact ⟨by rw [HNO.out]; rfl, HB.out⟩
end Go.Proofs.Ytokhindolimchaa

/-
  The law of Shortest: the call returns true and turns nothing that was there.
-/
namespace Go.Proofs.Ytokhindolimchaa
open Go.RowKit
set_option linter.unusedSimpArgs false
set_option linter.unusedVariables false

set_option maxRecDepth 100000 in
set_option maxHeartbeats 3200000 in
theorem lawShortest_walk (s : ByteArray) (w : World) :
    Calls Try.prog 5 #[.string s] w fun e w' => e = .returned (.bool true) ∧ Below w.heap.size w w' := by
  by_cases hs : 1048576 < s.size
  · have hs' : (1048576 : Int) < (s.size : Int) := by omega
    go_enter Try.func5, Try.ntmps5
    go_wp2_with fail
    go_ret
    exact ⟨rfl, Below.refl _ _⟩
  have hs' : ¬ (1048576 : Int) < (s.size : Int) := by omega
  have CS := hideB (fun w => specShort_any s w (by omega))
  have CI := hideB (fun w => implShort_any s w (by omega))
  obtain ⟨b, hb⟩ : ∃ b, shortB s = b := ⟨_, rfl⟩
  rw [hb] at CS CI
  clear hb
  have hbe : (b != b) = false := by simp
  go_enter Try.func5, Try.ntmps5
  go_wp2_with fail
  refine (CS.out w).mono ?_
  rintro e w1 ⟨rfl, hb1⟩
  have HB1 := hideB hb1
  have z1 := hb1.size
  clear hb1
  go_wp2_with fail
  refine (CI.out w1).mono ?_
  rintro e w2 ⟨rfl, hb2⟩
  have HB2 := hideB (HB1.out.trans (hb2.mono z1))
  clear hb2
  go_wp2_with fail
  go_ret
  exact ⟨rfl, HB2.out⟩
end Go.Proofs.Ytokhindolimchaa

/-
  PROVED: for every text the law FnExactShortest returns true: the program's Shortest answers as the specification's. No condition beyond the row's own.
-/
namespace Go.Proofs.Ytokhindolimchaa
open Go.ChangeShapes Go.WideShapes Go.ChangeAt Go.RowKit
open Go.ChangeMaps (open_string shut_string)
set_option linter.unusedVariables false

theorem fnExactShortest_own : ownKnob Try.prog.godebug = none := by kernel_rfl

set_option maxRecDepth 100000 in
theorem fnExactShortest_lifted (os : Os) (started : os.Started) (H : Type) (enc : TypeId × Value → H) :
    ReturnsInHanded {} Try.checked os 5 .any (Rows.fnExactShortestSpec.pre6 enc Try.prog Try.f5 Rows.fnExactShortestRow.domain false) (Rows.fnExactShortestSpec.post enc Try.prog Try.f5 false true false false) := by
  refine returnsInHanded_of_change (C := Try.checked) fnExactShortest_own started (by kernel_rfl) Try.func5
    (ChangeSpec.witness6 (enc := enc) (C := Try.checked) false ⟨#[], #[.string ⟨#[]⟩], []⟩ 8 (by kernel_rfl) (by kernel_rfl) (by kernel_rfl) (by kernel_rfl)) ?_
  intro W base args ds gs before hval0 hW hcnd _
  have hval : ∀ (j : Nat) t v, Try.f5.params[j]? = some t → args[j]? = some v → Value.okWide Try.prog W .any base t v := hval0
  have hW' := hW
  obtain ⟨p, q, hA0, hV, rfl, hfz, hnd⟩ := hW
  have hA : DataW.TrodAll enc Try.prog W 0 (fun _ => true) true Try.f5.params.toList args.toList ds p := hA0
  rw [Try.params5] at hA hval
  obtain ⟨v0, d0, rfl, rfl, h0⟩ := trodAll_one hA
  obtain ⟨rfl, rfl⟩ := trodVars_none hV
  obtain ⟨s, rfl, rfl, rfl, hs⟩ := open_string Try.underlying9 (hval 0 9 v0 rfl rfl) h0
  simp only [List.append_nil] at hW'
  refine (lawShortest_walk s W).mono fun e W' ⟨he, bel⟩ => ?_
  subst he
  exact ⟨_, rfl, _, _, _, [], [], [], hW', trodAll_mk1 (shut_bool Try.underlying4 _), trodAll_mk1 (shut_string Try.underlying9 hs), rfl, bel.frame _, fun h => by cases h⟩

theorem fnExactShortest_holds : Rows.FnExactShortestSaid :=
  OpenClaim.holds_of_wide 5 Try.f5 rfl rfl rfl rfl rfl rfl rfl ⟨rfl, rfl, rfl, rfl, rfl⟩ rfl rfl rfl rfl rfl (by kernel_rfl) Try.func5 (by kernel_rfl)
    (of_decide_eq_true (by kernel_rfl)) (by unfold Func.isWrapper; first | (rw [if_pos (by decide +kernel)]; kernel_rfl) | (rw [if_neg (by decide +kernel)]; exact ⟨rfl, rfl⟩))
    (fun os started H enc _ => fnExactShortest_lifted os started H enc)
#print axioms fnExactShortest_holds
end Go.Proofs.Ytokhindolimchaa
