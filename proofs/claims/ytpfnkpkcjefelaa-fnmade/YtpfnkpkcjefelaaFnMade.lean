/-
  The law FnMade: the call returns true and turns nothing that was there.
-/
import Derived.Test.YtpfnkpkcjefelaaSameA
import Derived.Test.YtpfnkpkcjefelaaIParts
import Derived.Test.YtpfnkpkcjefelaaMapF
import Derived.Test.YtpfnkpkcjefelaaSMapOf
import Derived.Test.YtpfnkpkcjefelaaIListOf
import Derived.Test.YtpfnkpkcjefelaaMadeQ
import Derived.Test.YtpfnkpkcjefelaaIGot
import Derived.Test.YtpfnkpkcjefelaaDrMk
import Derived.Test.YtpfnkpkcjefelaaRows
import Derived.ProofKit
import Derived.OpenShut
import Derived.ShutString
import Derived.ChangeOld
import Derived.Below
namespace Go.Proofs.Ytpfnkpkcjefelaa
open Go.RowKit
set_option linter.unusedSimpArgs false
set_option linter.unusedVariables false

theorem RowsAt.wideM {B B' : Nat} {w : World} {v : Value} {m : Nat} {L : Nat → List VN} (h : RowsAt B w v m L) (hb : B ≤ B') : RowsAt B' w v m L := by
  obtain ⟨h1, a, c, e, h2⟩ := h
  refine ⟨h1, a, c, e, fun hp => ?_⟩
  obtain ⟨b, ea, hbB, h3⟩ := h2 hp
  refine ⟨b, ea, by omega, fun i hi => ?_⟩
  obtain ⟨r, e2, hn⟩ := h3 i hi
  exact ⟨r, e2, hn.wide hb⟩

theorem fits_rows {m : Nat} {L : Nat → List VN} (h : ∀ i, i < m → Fine 40 (L i)) : ∀ i, i < m → ∀ j, j < (L i).length → Fits (nodeAt (L i) j) := fun i hi => ((h i hi).few (by omega)).2

theorem list_fits {L : Nat → List VN} {m : Nat} (hf : ∀ i, i < m → ∀ j, j < (L i).length → Fits (nodeAt (L i) j)) : (listNs L m).length ≤ 1759218604416 ∧ ∀ i, i < (listNs L m).length → Fits (nodeAt (listNs L m) i) := by
  cases e : listB L m
  · have : listNs L m = [] := by unfold listNs; rw [e]; rfl
    rw [this]
    exact ⟨by simp, fun i hi => absurd hi (by simp)⟩
  · have e2 : listNs L m = makeNs 5 [] L m := by unfold listNs; rw [e]; rfl
    unfold listB at e
    simp only [Bool.and_eq_true, decide_eq_true_eq] at e
    obtain ⟨⟨h1, h2⟩, h3⟩ := e
    have hn := make_nice h2 (allB_yes h1) hf (kind := 5) (by omega) (by omega) (keys := []) (by simp) (fun i hi => absurd hi (by simp))
    rw [e2]
    exact ⟨by have := (okB_parts h3).1.2; omega, fun i hi => (hn.2 i hi).1⟩

theorem got_made {vs ws : List VN} {key : ByteArray} (hok : okB vs = true) (h : textB key = true ∧ (gotN vs (vs.length - 1) [⟨true, key, 0⟩]).isSome = true ∧ gotPart vs (gotN vs (vs.length - 1) [⟨true, key, 0⟩]) = ws) : gotB vs [⟨true, key, 0⟩] = true ∧ gotNs vs [⟨true, key, 0⟩] = ws := by
  have hp : pathB [⟨true, key, 0⟩] = true := by
    unfold pathB
    simp [List.range_succ, stepAt, stepB, h.1]
  constructor
  · unfold gotB; rw [hok, hp, h.2.1]; rfl
  · unfold gotNs; rw [hok, hp]; exact h.2.2

theorem step_new (w : World) (key : ByteArray) (hk : key.size ≤ 60) : StepsAt (w.alloc (.cells #[.bool true, .string key, .int .i64 0] 49)).heap.size (w.alloc (.cells #[.bool true, .string key, .int .i64 0] 49)) (.slice (some ⟨w.heap.size, 0, none⟩) 1 1) [⟨true, key, 0⟩] := by
  refine ⟨by simp, fun i hi => ?_, _, _, rfl, fun _ => ⟨w.heap.size, 0, rfl, by simp, fun i hi => ?_⟩⟩
  · obtain rfl : i = 0 := by simp at hi; exact hi
    exact ⟨by simp [stepAt]; omega, by simp [stepAt], by simp [stepAt]⟩
  · obtain rfl : i = 0 := by simp at hi; exact hi
    exact ⟨by simp [stepAt], by simp [stepAt], by simp [stepAt]⟩

set_option maxRecDepth 100000 in
set_option maxHeartbeats 6400000 in
theorem lawFnMade_walk (v : Value) (n : Nat) (w : World) (h : RawCode w v n) :
    Calls Try.prog 5 #[v] w fun e w' => e = .returned (.bool true) ∧ Below w.heap.size w w' := by
  obtain ⟨hn, a, cap, rfl, hc⟩ := h
  have HCL : Hid (n ≤ 1048576 → CodeAt w.heap.size w (.slice a n cap) n) := fun h => ⟨h, a, cap, rfl, hc⟩
  clear hc
  go_enter Try.func5, Try.ntmps5
  go_wp2_with fail
  refine (big_any a n cap w hn).mono ?_
  rintro e w1 ⟨rfl, rfl⟩
  by_cases hbig : 1048576 < n
  · go_wp2_with fail
    go_ret
    exact ⟨rfl, Below.refl _ _⟩
  have HC := hideIt (HCL.out (by omega))
  clear HCL
  go_wp2_with fail
  refine (drawListOf_any w1.heap.size _ n w1 HC.out (Nat.le_refl _)).mono ?_
  rintro e w2 ⟨r2, m, L, rfl, hm, hfi, hrw, hb2⟩
  have HF := hideIt (fits_rows hfi)
  have HLF := hideIt (list_fits HF.out)
  have HR2 := hideIt hrw
  have HB2 := hideIt hb2
  have z2 := hb2.size
  obtain ⟨_, a2, c2, e2, _⟩ := hrw
  subst e2
  clear hfi hb2
  go_wp2_with fail
  refine (implListOf_any w2.heap.size _ m L w2 HR2.out (Nat.le_refl _) HF.out).mono ?_
  rintro e w3 ⟨r3, base3, K3, I3, rfl, _, _, hn3, hb3⟩
  have HN3 := hideIt (hn3.nodes HLF.out.1 HLF.out.2)
  have HB3 := hideIt hb3
  have z3 := hb3.size
  obtain ⟨a3, c3, e3⟩ := own_slice hn3.row
  obtain ⟨N, hN⟩ : ∃ N, (listNs L m).length = N := ⟨_, rfl⟩
  have HN := hideIt hN
  rw [hN] at e3
  subst e3
  clear hn3 hb3 hN
  go_wp2_with fail
  refine (specListOf_any w2.heap.size _ m L w3 (HR2.out.below HB3.out) z3 HF.out).mono ?_
  rintro e w4 ⟨r4, base4, K4, I4, rfl, _, hn4, hb4⟩
  have HN4 := hideIt (hn4.nodes HLF.out.1 HLF.out.2)
  have HB4 := hideIt (HB3.out.trans (hb4.mono z3))
  have HN34 := hideIt ((HN3.out.below hb4).wide hb4.size)
  have z4 := hb4.size
  obtain ⟨a4, c4, e4⟩ := own_slice hn4.row
  rw [HN.out] at e4
  subst e4
  clear hn4 hb4
  have q1 : (listB L m != listB L m) = false := by simp
  go_wp2_with fail
  refine (same_any w4.heap.size _ _ (listNs L m) (listNs L m) w4 HN34.out HN4.out (Nat.le_refl _)).mono ?_
  rintro e w5 ⟨⟨b5, rfl, hb5'⟩, hb5⟩
  obtain rfl : b5 = true := hb5'.2 rfl
  have HB5 := hideIt (HB4.out.trans (hb5.mono (by omega)))
  have HN5 := hideIt ((HN34.out.below hb5).wide hb5.size)
  have z5 := hb5.size
  clear hb5' hb5
  cases hl : listB L m
  obtain ⟨w7, rfl⟩ : ∃ W, W = w5 := ⟨_, rfl⟩
  have HB7 := HB5
  clear HN5 HN34
  rotate_left
  have HLM := hideIt (list_made hl)
  go_wp2_with fail
  refine (implPartsOf_any w5.heap.size _ (listNs L m) w5 HN5.out (Nat.le_refl _)).mono ?_
  rintro e w6 ⟨r6, base6, rs6, K6, I6, lo6, rfl, _, hr6, hb6⟩
  have HPF := hideIt (PL_few HLF.out.2)
  have HR6 := hideIt (hr6.rows HPF.out.1 HPF.out.2)
  have HB6 := hideIt (HB5.out.trans (hb6.mono HB5.out.size))
  have z6 := hb6.size
  obtain ⟨a6, c6, e6⟩ := own_slice hr6.row
  rw [HLM.out.2.1] at e6 HR6
  subst e6
  clear hr6 hb6 HPF
  go_wp2_with fail
  refine (sameAll_any w6.heap.size _ _ m m (PL (listNs L m)) L w6 HR6.out ((HR2.out.below HB6.out).wideM HB6.out.size) (Nat.le_refl _)).mono ?_
  rintro e w7 ⟨⟨b7, rfl, hb7'⟩, hb7⟩
  obtain rfl : b7 = true := hb7'.2 ⟨rfl, HLM.out.2.2⟩
  have HB7 := hideIt (HB6.out.trans (hb7.mono HB6.out.size))
  clear hb7' hb7 HN5 HN34
  go_wp2_with fail
  all_goals
    have HCB := hideIt (HB2.out.trans (HB7.out.mono z2))
    refine (drawMapOf_any w1.heap.size _ n w7 (HC.out.below HCB.out) HCB.out.size).mono ?_
    rintro e w8 ⟨kv, r8, ks, m8, L8, rfl, hm8, hkl, hksz, hfi8, hst, hrw8, hb8⟩
    have HF8 := hideIt (fits_rows hfi8)
    have HFI8 := hideIt hfi8
    have HMF := hideIt (map_few (l := ks) (L := L8) (m := m8) (fun i hi => by have := hksz i hi; omega) HF8.out)
    have HR8 := hideIt hrw8
    have HS8 := hideIt hst
    have HB8 := hideIt (HCB.out.trans (hb8.mono HCB.out.size))
    obtain ⟨_, a8, c8, e8, _⟩ := hrw8
    subst e8
    obtain ⟨_, _, ak8, ck8, ek8, hks8⟩ := hst
    obtain ⟨KN, hKN⟩ : ∃ KN, ks.length = KN := ⟨_, rfl⟩
    have HKN := hideIt hKN
    rw [hKN] at ek8 hks8 hkl
    subst ek8
    have HKS := hideIt hks8
    clear hfi8 hb8 hksz hks8 hKN HN3 HN4
    go_wp2_with fail
    refine (implMapOf_any w8.heap.size _ _ ks m8 L8 w8 HS8.out HR8.out (Nat.le_refl _) HF8.out).mono ?_
    rintro e w9 ⟨r9, base9, K9, I9, rfl, _, _, hn9, hb9⟩
    have HN9 := hideIt (hn9.nodes (by have := HMF.out.1.1; omega) HMF.out.2)
    have HB9 := hideIt hb9
    have z9 := hb9.size
    obtain ⟨a9, c9, e9⟩ := own_slice hn9.row
    obtain ⟨M9, hM9⟩ : ∃ M9, (mapNs ks L8 m8).length = M9 := ⟨_, rfl⟩
    have HM9 := hideIt hM9
    rw [hM9] at e9
    subst e9
    clear hn9 hb9 hM9
    go_wp2_with fail
    refine (specMapOf_any w8.heap.size _ _ ks m8 L8 w9 (HS8.out.below HB9.out) (HR8.out.below HB9.out) z9 HF8.out).mono ?_
    rintro e w10 ⟨r10, base10, K10, I10, rfl, _, hn10, hb10⟩
    have HN10 := hideIt (hn10.nodes (by have := HMF.out.1.1; omega) HMF.out.2)
    have HV10 := hideIt ((HN9.out.below hb10).wide hb10.size)
    have HB10 := hideIt (HB9.out.trans (hb10.mono z9))
    have z10 := hb10.size
    obtain ⟨a10, c10, e10⟩ := own_slice hn10.row
    rw [HM9.out] at e10
    subst e10
    clear hn10 hb10
    have q2 : (mapB ks L8 m8 != mapB ks L8 m8) = false := by simp
    have q3 : (mapB ks L8 m8 == mapB ks L8 m8) = true := by simp
    go_wp2_with fail
    refine (same_any w10.heap.size _ _ (mapNs ks L8 m8) (mapNs ks L8 m8) w10 HV10.out HN10.out (Nat.le_refl _)).mono ?_
    rintro e w11 ⟨⟨b11, rfl, hb11'⟩, hb11⟩
    obtain rfl : b11 = true := hb11'.2 rfl
    have HB11 := hideIt (HB10.out.trans (hb11.mono (by omega)))
    have HV11 := hideIt ((HV10.out.below hb11).wide hb11.size)
    have HN11 := hideIt ((HN10.out.below hb11).wide hb11.size)
    have z11 := hb11.size
    clear hb11' hb11
    cases hmb : mapB ks L8 m8
    · go_wp2_with fail
      refine (same_any w11.heap.size _ _ (mapNs ks L8 m8) (mapNs ks L8 m8) w11 HV11.out HN11.out (Nat.le_refl _)).mono ?_
      rintro e w12 ⟨⟨b12, rfl, hb12'⟩, hb12⟩
      obtain rfl : b12 = true := hb12'.2 rfl
      have HB12 := hideIt (HB8.out.trans ((HB11.out.trans (hb12.mono HB11.out.size)).mono HB8.out.size))
      clear hb12' hb12
      go_wp2_with fail
      go_ret
      exact ⟨rfl, HB12.out⟩
    · have HMM := hideIt (map_made hmb)
      have hkm : KN = m8 := by rw [← HKN.out]; exact HMM.out.2.1
      subst hkm
      clear hmb
      go_wp2_with fail
      go_loopw [14] (fun i wr => ∃ k : Nat, k ≤ KN ∧ i = .int .i64 k ∧ Below w11.heap.size w11 wr) (fun i _ => KN - (intOf i).toNat)
      case atStart => exact ⟨0, Nat.zero_le _, rfl, Below.refl _ _⟩
      case round =>
        obtain ⟨k, hk, rfl, hbl⟩ := hrel
        have zr := hbl.size
        by_cases hlt : k < KN
        · obtain ⟨bK, oK, rfl, hbK, hcK⟩ := HKS.out (by omega)
          have hck := (below_cell (hbl.mono HB11.out.size) hbK).trans ((below_cell HB11.out hbK).trans (hcK k hlt))
          have HMK := hideIt (HMM.out.2.2 k hlt)
          obtain ⟨key, hkey⟩ : ∃ key, keyAt ks k = key := ⟨_, rfl⟩
          have HKY := hideIt hkey
          rw [hkey] at hck HMK
          clear hcK hkey
          go_wp2_with fail
          have HSN := hideIt (step_new wr key (by have := HMK.out.1; unfold textB at this; simp at this; omega))
          have HBA : Hid (Below w11.heap.size w11 (wr.alloc (.cells #[.bool true, .string key, .int .i64 0] 49))) := hbl.alloc zr _
          have hza : wr.heap.size < (wr.alloc (.cells #[.bool true, .string key, .int .i64 0] 49)).heap.size := by simp
          have HGM := hideIt (got_made HMM.out.1 HMK.out)
          generalize wr.alloc (.cells #[.bool true, .string key, .int .i64 0] 49) = WA at HSN HBA hza ⊢
          refine (implGot_any WA.heap.size _ _ (mapNs ks L8 KN) [⟨true, key, 0⟩] WA ((HV11.out.below HBA.out).wide HBA.out.size) HSN.out (Nat.le_refl _)).mono ?_
          rintro e w12 ⟨r12, base12, K12, I12, rfl, _, _, hn12, hb12⟩
          rw [HGM.out.2] at hn12
          rw [HGM.out.1]
          have HFL := hideIt (HFI8.out k hlt)
          have HN12 := hideIt (hn12.nodes (by have : (L8 k).length ≤ 40 := HFL.out.2.1; omega) (HF8.out k hlt))
          have HB12 := hideIt (HBA.out.trans (hb12.mono HBA.out.size))
          obtain ⟨a12, c12, e12⟩ := own_slice hn12.row
          obtain ⟨Lk, hLk⟩ : ∃ Lk, (L8 k).length = Lk := ⟨_, rfl⟩
          rw [hLk] at e12
          subst e12
          obtain ⟨_, a8', c8', e8', hrows⟩ := ((HR8.out.below HB11.out).below (HB12.out.mono HB11.out.size))
          cases e8'
          obtain ⟨b8, rfl, hb8, hr8⟩ := hrows (by omega)
          obtain ⟨rk, erk, hnk⟩ := hr8 k hlt
          have HNK := hideIt (hnk.wide (Nat.le_trans HB11.out.size HB12.out.size))
          obtain ⟨_, ark, crk, rfl, _⟩ := hnk
          rw [hLk] at erk HNK
          clear hn12 hb12 hLk hrows hr8
          go_wp2_with fail
          refine (same_any w12.heap.size _ _ (L8 k) (L8 k) w12 HN12.out HNK.out (Nat.le_refl _)).mono ?_
          rintro e w13 ⟨⟨b13, rfl, hb13'⟩, hb13⟩
          obtain rfl : b13 = true := hb13'.2 rfl
          have HB13 := hideIt (HB12.out.trans (hb13.mono HB12.out.size))
          clear hb13' hb13
          go_wp2_with fail
          go_roundw
          case rel => exact ⟨k + 1, by omega, by go_num, HB13.out⟩
          case measure => simp [intOf]; omega
        · obtain rfl : k = KN := by omega
          go_wp2_with fail
          refine (implOk_any w11.heap.size _ (mapNs ks L8 k) wr (HV11.out.below hbl) zr).mono ?_
          rintro e w12 ⟨rfl, hb12⟩
          rw [HMM.out.1]
          have HB12 := hideIt (HB8.out.trans ((HB11.out.trans ((hbl.trans (hb12.mono zr)).mono HB11.out.size)).mono HB8.out.size))
          clear hb12
          go_wp2_with fail
          go_ret
          exact ⟨rfl, HB12.out⟩
end Go.Proofs.Ytpfnkpkcjefelaa

/-
  PROVED: for every code of bytes the law FnMade returns true: a list that is made of drawn values has them as its parts, and a map of drawn keys and values has these by its keys. No condition beyond the row's own.
-/
namespace Go.Proofs.Ytpfnkpkcjefelaa
open Go.ChangeShapes Go.WideShapes Go.ChangeAt Go.RowKit
set_option linter.unusedVariables false

theorem fnMade_own : ownKnob Try.prog.godebug = none := by kernel_rfl
theorem fnMade_laidOut : laidOutB Try.prog = true := by kernel_rfl
set_option maxRecDepth 100000 in
theorem fnMade_lifted (os : Os) (started : os.Started) (H : Type) (enc : TypeId × Value → H) :
    ReturnsInHanded {} Try.checked os 5 .any (Rows.fnMadeSpec.pre6 enc Try.prog Try.f5 Rows.fnMadeRow.domain false) (Rows.fnMadeSpec.post enc Try.prog Try.f5 false true false false) := by
  refine returnsInHanded_of_change (C := Try.checked) fnMade_own started (by kernel_rfl) Try.func5
    (ChangeSpec.witness6 (enc := enc) (C := Try.checked) false ⟨#[], #[.slice none 0 0], []⟩ 8 (by kernel_rfl) (by kernel_rfl) (by kernel_rfl) (by kernel_rfl)) ?_
  intro W base args ds gs before hval0 hW hcnd _
  have hval : ∀ (j : Nat) t v, Try.f5.params[j]? = some t → args[j]? = some v → Value.okWide Try.prog W .any base t v := hval0
  have hW' := hW
  obtain ⟨p, q, hA0, hV, rfl, hfz, hnd⟩ := hW
  have hA : DataW.TrodAll enc Try.prog W 0 (fun _ => true) true Try.f5.params.toList args.toList ds p := hA0
  rw [Try.params5] at hA hval
  obtain ⟨v0, vs0, d0, ds0, p0, q0, hargs, rfl, rfl, h0, r0⟩ := trodAll_cons hA
  obtain ⟨rfl, rfl, rfl⟩ := trodAll_nil r0
  obtain rfl : args = #[v0] := by cases args; simp_all
  obtain ⟨rfl, rfl⟩ := trodVars_none hV
  obtain ⟨a0, len0, cap0, rfl⟩ := okWide_slice Try.underlying22 (hval 0 22 v0 rfl rfl)
  have k0 := h0
  have lt0 : ∀ x ∈ p0, x.block < W.heap.size := by obtain ⟨m, hm⟩ := k0; exact DataW.trod_lt m _ _ _ hm
  obtain ⟨n, w0⟩ : ∃ n, RawCode W (.slice a0 len0 cap0) n := by
    obtain ⟨fuel, hf⟩ := h0
    exact raw_code (by simpa [Value.cells] using hf)
  clear hA0 hval0
  refine (lawFnMade_walk (.slice a0 len0 cap0) n W w0).mono fun e W' ⟨he, bel⟩ => ?_
  subst he
  exact ⟨_, rfl, _, _, _, [], _, [], hW', trodAll_mk1 (shut_bool Try.underlying4 _), (trodAll_cons_mk (Below.trod fnMade_laidOut (by kernel_rfl) (of_decide_eq_true (by kernel_rfl)) k0 bel lt0) trodAll_mk0), rfl, bel.frame _, fun h => by cases h⟩

theorem fnMade_holds : Rows.FnMadeSaid :=
  OpenClaim.holds_of_wide 5 Try.f5 rfl rfl rfl rfl rfl rfl rfl ⟨rfl, rfl, rfl, rfl, rfl⟩ rfl rfl rfl rfl rfl (by kernel_rfl) Try.func5 (by kernel_rfl)
    (of_decide_eq_true (by kernel_rfl)) (by unfold Func.isWrapper; first | (rw [if_pos (by decide +kernel)]; kernel_rfl) | (rw [if_neg (by decide +kernel)]; exact ⟨rfl, rfl⟩))
    (fun os started H enc _ => fnMade_lifted os started H enc)
#print axioms fnMade_holds
end Go.Proofs.Ytpfnkpkcjefelaa
