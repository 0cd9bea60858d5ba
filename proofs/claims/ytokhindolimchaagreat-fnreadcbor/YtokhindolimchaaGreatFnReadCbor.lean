/-
  The law FnReadCbor: the call returns true and turns nothing that was there.
-/
import Derived.Test.YtokhindolimchaaGreatOrdS
import Derived.Test.YtokhindolimchaaGreatSame
import Derived.Test.YtokhindolimchaaGreatDrC
import Derived.Test.YtokhindolimchaaGreatEscP
import Derived.Test.YtokhindolimchaaGreatRows
import Derived.ProofKit
import Derived.OpenShut
import Derived.ShutString
import Derived.ChangeOld
import Derived.Below
namespace Go.Proofs.YtokhindolimchaaGreat
open Go.RowKit
set_option linter.unusedSimpArgs false
set_option linter.unusedVariables false

theorem call_ValueOk (u : Value) : ∀ w, (callFunc 14 #[u]).run Tryz.prog w = .ok (.enter 14 #[u]) w := fun w => by kernel_rfl
theorem call_Shortest (u : Value) : ∀ w, (callFunc 11 #[u]).run Tryz.prog w = .ok (.enter 11 #[u]) w := fun w => by kernel_rfl
set_option maxRecDepth 100000 in
set_option maxHeartbeats 6400000 in
theorem lawFnReadCbor_walk (v : Value) (n : Nat) (w : World) (h : RawCode w v n) :
    Calls Tryz.prog 3 #[v] w fun e w' => e = .returned (.bool true) ∧ Below w.heap.size w w' := by
  obtain ⟨hn, a, cap, rfl, hc⟩ := h
  have HCL : Hid (n ≤ 1048576 → CodeAt w.heap.size w (.slice a n cap) n) := fun h => ⟨h, a, cap, rfl, hc⟩
  clear hc
  go_enter Tryz.func3, Tryz.ntmps3
  go_wp2_with fail
  refine (big_any a n cap w hn).mono ?_
  rintro e w1 ⟨rfl, rfl⟩
  by_cases hbig : 1048576 < n
  · go_wp2_with fail
    go_ret
    exact ⟨rfl, Below.refl _ _⟩
  have HC := hideIt (HCL.out (by omega))
  clear HCL
  go_wp2_with fail
  refine (drawReadCbor_any w1.heap.size _ n w1 HC.out (Nat.le_refl _)).mono ?_
  rintro e w2 ⟨s, hss, rfl, hb2⟩
  have HB2 := hideIt hb2
  have z2 := hb2.size
  clear hb2 HC
  have CI := hideIt (implReadCbor_any s (by omega))
  have CS := hideIt (specReadCbor_any s (by omega))
  have SI := hideIt (fun w' => implShort_any s w' (by omega))
  have SS := hideIt (fun w' => specShort_any s w' (by omega))
  obtain ⟨sb, hsb⟩ : ∃ b, shortB s = b := ⟨_, rfl⟩
  rw [hsb] at SI SS
  clear hsb
  have hsbn : (sb != sb) = false := by simp
  have hsbe : (sb == sb) = true := by simp
  have HSM := hideIt (cborF_small s)
  have HU := hideIt (fun ns q => cborF_used (s := s) (ns := ns) (q := q))
  have HO := hideIt (fun ns q => cborF_ok (s := s) (ns := ns) (q := q))
  obtain ⟨V, hV⟩ : ∃ V, cborF s = V := ⟨_, rfl⟩
  rw [hV] at CI CS HSM
  simp only [hV] at HU HO
  have HVS := hideIt hV
  clear hV
  have HR : Hid ((nsOf V).length ≤ 1759218604416 ∧ ∀ i, i < (nsOf V).length → Fits (nodeAt (nsOf V) i)) := by
    rcases HSM.out with h | h
    · rw [Hid, h]; exact ⟨by simp, fun i hi => absurd hi (by simp)⟩
    · exact ⟨Nat.le_trans h.2.1 (by omega), h.few.2⟩
  obtain ⟨U, hUU⟩ : ∃ U : Nat, usedOf V = U := ⟨_, rfl⟩
  obtain ⟨ns, hns⟩ : ∃ ns, nsOf V = ns := ⟨_, rfl⟩
  have hne : (((U : Nat) : Int) != ((U : Nat) : Int)) = false := by simp
  have heq : (((U : Nat) : Int) == ((U : Nat) : Int)) = true := by simp
  unfold Fronts at CI CS
  simp only [hUU, hns] at CI CS
  rw [hns] at HR
  obtain ⟨N, hN⟩ : ∃ N, ns.length = N := ⟨_, rfl⟩
  have HNN := hideIt hN
  have HUU := hideIt hUU
  have HNS := hideIt hns
  clear hN hUU hns HSM
  go_wp2_with fail
  refine (CI.out w2).mono ?_
  rintro e w3 ⟨r3, base3, KV3, IV3, rfl, _, _, hn3, hb3⟩
  have H3 := hideIt hb3
  have z3 := hb3.size
  have HN3 : Hid (∀ w', Below w3.heap.size w3 w' → NodesAt w'.heap.size w' r3 ns) := fun w' hb => (hn3.below hb).nodes HR.out.1 HR.out.2
  obtain ⟨a3, c3, e3⟩ := own_slice hn3.row
  rw [HNN.out] at e3
  subst e3
  clear hn3 hb3
  go_wp2_with fail
  refine (CS.out w3).mono ?_
  rintro e w4 ⟨r4, base4, KV4, IV4, rfl, _, _, hn4, hb4⟩
  have H4 := hideIt hb4
  have z4 := hb4.size
  have HN4 : Hid (∀ w', Below w4.heap.size w4 w' → NodesAt w'.heap.size w' r4 ns) := fun w' hb => (hn4.below hb).nodes HR.out.1 HR.out.2
  obtain ⟨a4, c4, e4⟩ := own_slice hn4.row
  rw [HNN.out] at e4
  subst e4
  clear hn4 hb4
  have HEND : Hid (∀ w5, Below w4.heap.size w4 w5 → Below w1.heap.size w1 w5) := fun w5 hb => HB2.out.trans ((H3.out.trans ((H4.out.trans (hb.mono z4)).mono z3)).mono z2)
  have HS4 := hideIt (fun w5 (hb : Below w4.heap.size w4 w5) => same_any w5.heap.size _ _ ns ns w5 (HN3.out w5 (H4.out.trans (hb.mono z4))) (HN4.out w5 hb) (Nat.le_refl _))
  cases V with
  | none =>
    have hI : (none : Option (List VN × Nat)).isSome = false := rfl
    rw [hI]
    go_wp2_with fail
    refine (HS4.out w4 (Below.refl _ _)).mono ?_
    rintro e w5 ⟨⟨b, rfl, hb⟩, hb5⟩
    obtain rfl : b = true := hb.2 (by first | rfl | trivial)
    have H5 := hideIt hb5
    have z5 := hb5.size
    clear hb hb5
    go_wp2_with fail
    refine (SI.out w5).mono ?_
    rintro e wA ⟨rfl, hbA⟩
    have HA := hideIt (H5.out.trans (hbA.mono z5))
    have zA := HA.out.size
    clear hbA
    go_wp2_with fail
    refine (SS.out wA).mono ?_
    rintro e wB ⟨rfl, hbB⟩
    have HBB := hideIt (HA.out.trans (hbB.mono zA))
    have zB := HBB.out.size
    clear hbB
    go_wp2_with fail
    refine (HS4.out wB HBB.out).mono ?_
    rintro e w7 ⟨⟨b, rfl, hb⟩, hb7⟩
    obtain rfl : b = true := hb.2 (by first | rfl | trivial)
    have H7 := hideIt hb7
    have z7 := hb7.size
    clear hb hb7
    go_wp2_with fail
    refine (SI.out w7).mono ?_
    rintro e wC ⟨rfl, hbC⟩
    have HCC := hideIt ((HBB.out.trans (H7.out.mono zB)).trans (hbC.mono (by omega)))
    have zC := HCC.out.size
    clear hbC
    go_wp2_with fail
    refine (SS.out wC).mono ?_
    rintro e wD ⟨rfl, hbD⟩
    have HDD := hideIt (HCC.out.trans (hbD.mono zC))
    clear hbD
    go_wp2_with fail
    go_ret
    exact ⟨rfl, HEND.out _ HDD.out⟩
  | some x =>
    obtain ⟨ns', q⟩ := x
    obtain rfl : ns' = ns := HNS.out
    obtain rfl : q = U := HUU.out
    have hI : (some (ns', q)).isSome = true := rfl
    rw [hI]
    have HU2 := hideIt (HU.out ns' q rfl)
    have HO2 := hideIt (HO.out ns' q rfl)
    have hok := HO2.out.1
    clear HU HO hI
    go_wp2_with fail
    refine (HS4.out w4 (Below.refl _ _)).mono ?_
    rintro e w5 ⟨⟨b, rfl, hb⟩, hb5⟩
    obtain rfl : b = true := hb.2 (by first | rfl | trivial)
    have H5 := hideIt hb5
    have z5 := hb5.size
    clear hb hb5
    go_wp2_with fail
    refine (SI.out w5).mono ?_
    rintro e wA ⟨rfl, hbA⟩
    have HA := hideIt (H5.out.trans (hbA.mono z5))
    have zA := HA.out.size
    clear hbA
    go_wp2_with fail
    refine (SS.out wA).mono ?_
    rintro e wB ⟨rfl, hbB⟩
    have HBB := hideIt (HA.out.trans (hbB.mono zA))
    have zB := HBB.out.size
    clear hbB
    obtain ⟨T, hT⟩ : ∃ T, txt (cborV ns') = T := ⟨_, rfl⟩
    have HTB : Hid (T.data.toList = cborV ns') := by rw [Hid, ← hT, bytes_txt]
    have HTZ : Hid (T.size ≤ q ∧ q ≤ s.size) := by
      have h1 := HU2.out
      have h3 := len_is T
      rw [HTB.out] at h3
      exact ⟨by omega, by omega⟩
    have CP := hideIt (implCbor_any wB.heap.size _ ns' wB (HN3.out wB (H4.out.trans (HBB.out.mono z4))) (Nat.le_refl _))
    rw [hT] at CP
    have hqs : q ≤ s.size := HTZ.out.2
    have SU := hideIt (fun w' => implShort_any (s.extract 0 q) w' (by rw [ByteArray.size_extract]; omega))
    obtain ⟨ub, hub⟩ : ∃ b, shortB (s.extract 0 q) = b := ⟨_, rfl⟩
    rw [hub] at SU
    have HUB : Hid ((T.toList == (s.extract 0 q).toList) = ub) := by
      have h1 : (s.extract 0 q).data.toList = s.data.toList.take q := by rw [cut_txt, bytes_txt, List.drop_zero, Nat.sub_zero]
      have h2 := HU2.out.2.2 _ h1
      rw [Hid, ← hub]
      unfold shortB
      rw [h2]
      dsimp only
      rw [hT]
    clear hT hub
    have hq1 : (T.size : Int) ≤ (q : Int) := by have := HTZ.out.1; omega
    have hq2 : (q : Int) ≤ (s.size : Int) := by omega
    go_wp2_with fail
    refine CP.out.mono ?_
    rintro e w6 ⟨rfl, hb6⟩
    have H6 := hideIt (HBB.out.trans (hb6.mono zB))
    have z6 := H6.out.size
    clear hb6
    have hub := HUB.out
    have hee : (ub == ub) = true := by simp
    have HD6 : Hid (Below w6.heap.size w6 w6.drew) := (Below.refl _ _).drew
    have CO := hideIt (implOk_any w6.drew.heap.size _ ns' w6.drew (HN3.out w6.drew ((H4.out.trans (H6.out.mono z4)).trans (HD6.out.mono (by omega)))) (Nat.le_refl _))
    rw [hok] at CO
    go_wp2_with fail
    rename_i Q1
    refine wp_region_any (by kernel_rfl) ?_
    change wpAny _ _ _ _ _ _ _ (World.drew _)
    refine wpAny_take (i := 0) (v := .slice a3 N c3) rfl (by kernel_rfl) (by kernel_rfl) (by kernel_rfl) (fun _ _ _ h => h) (Or.inl ⟨by kernel_rfl, fun w => ?_⟩) ?_
    · go_simp
    go_simp
    refine wpAny_ready (rs := [1]) (by kernel_rfl) (by simp) ?_
    refine AllReady.cons rfl (fun K hK => ?_) AllReady.nil
    refine step_call1g (by kernel_rfl) 14 (.tmp 74) 25 (by kernel_rfl) (.slice a3 N c3) (by kernel_rfl) (call_ValueOk _) CO.out ?_
    rintro e w8 ⟨rfl, hb8⟩
    have H8 := hideIt ((H6.out.trans (HD6.out.mono z6)).trans (hb8.mono (Nat.le_trans z6 HD6.out.size)))
    have z8 := H8.out.size
    clear hb8
    refine ⟨_, rfl, ?_⟩
    refine hK _ _ ?_
    clear hK K
    refine wpAny_take (i := 2) (v := .bool true) rfl (by kernel_rfl) (by kernel_rfl) (by kernel_rfl) (fun _ _ _ h => h) (Or.inl ⟨by kernel_rfl, fun w => ?_⟩) ?_
    · go_simp
    go_simp
    refine wpAny_take (i := 3) (v := .string T) rfl (by kernel_rfl) (by kernel_rfl) (by kernel_rfl) (fun _ _ _ h => h) (Or.inl ⟨by kernel_rfl, fun w => ?_⟩) ?_
    · go_simp
    go_simp
    refine wpAny_take (i := 4) (v := .int .i64 (T.size : Int)) rfl (by kernel_rfl) (by kernel_rfl) (by kernel_rfl) (fun _ _ _ h => h) (Or.inl ⟨by kernel_rfl, fun w => ?_⟩) ?_
    · go_simp
    go_simp
    refine wpAny_take (i := 5) (v := .int .i64 (q : Int)) rfl (by kernel_rfl) (by kernel_rfl) (by kernel_rfl) (fun _ _ _ h => h) (Or.inl ⟨by kernel_rfl, fun w => ?_⟩) ?_
    · go_simp
    go_simp
    refine wpAny_take (i := 6) (v := .bool true) rfl (by kernel_rfl) (by kernel_rfl) (by kernel_rfl) (fun _ _ _ h => h) (Or.inl ⟨by kernel_rfl, fun w => ?_⟩) ?_
    · go_simp
    go_simp
    refine wpAny_take (i := 7) (v := .bool true) rfl (by kernel_rfl) (by kernel_rfl) (by kernel_rfl) (fun _ _ _ h => h) (Or.inl ⟨by kernel_rfl, fun w => ?_⟩) ?_
    · go_simp
    go_simp
    refine wpAny_take (i := 8) (v := .bool true) rfl (by kernel_rfl) (by kernel_rfl) (by kernel_rfl) (fun _ _ _ h => h) (Or.inl ⟨by kernel_rfl, fun w => ?_⟩) ?_
    · go_simp
    go_simp
    refine wpAny_take (i := 9) (v := .int .i64 (q : Int)) rfl (by kernel_rfl) (by kernel_rfl) (by kernel_rfl) (fun _ _ _ h => h) (Or.inl ⟨by kernel_rfl, fun w => ?_⟩) ?_
    · go_simp
    go_simp
    refine wpAny_take (i := 10) (v := .string s) rfl (by kernel_rfl) (by kernel_rfl) (by kernel_rfl) (fun _ _ _ h => h) (Or.inl ⟨by kernel_rfl, fun w => ?_⟩) ?_
    · go_simp
    go_simp
    refine wpAny_take (i := 11) (v := .int .i64 (s.size : Int)) rfl (by kernel_rfl) (by kernel_rfl) (by kernel_rfl) (fun _ _ _ h => h) (Or.inl ⟨by kernel_rfl, fun w => ?_⟩) ?_
    · go_simp
    go_simp
    refine wpAny_take (i := 12) (v := .bool true) rfl (by kernel_rfl) (by kernel_rfl) (by kernel_rfl) (fun _ _ _ h => h) (Or.inl ⟨by kernel_rfl, fun w => ?_⟩) ?_
    · go_simp
    go_simp
    refine wpAny_take (i := 13) (v := .bool true) rfl (by kernel_rfl) (by kernel_rfl) (by kernel_rfl) (fun _ _ _ h => h) (Or.inl ⟨by kernel_rfl, fun w => ?_⟩) ?_
    · go_simp
    go_simp
    refine wpAny_take (i := 14) (v := .bool true) rfl (by kernel_rfl) (by kernel_rfl) (by kernel_rfl) (fun _ _ _ h => h) (Or.inl ⟨by kernel_rfl, fun w => ?_⟩) ?_
    · go_simp
    go_simp
    refine wpAny_take (i := 15) (v := .string s) rfl (by kernel_rfl) (by kernel_rfl) (by kernel_rfl) (fun _ _ _ h => h) (Or.inl ⟨by kernel_rfl, fun w => ?_⟩) ?_
    · go_simp
    go_simp
    refine wpAny_take (i := 16) (v := .int .i64 (q : Int)) rfl (by kernel_rfl) (by kernel_rfl) (by kernel_rfl) (fun _ _ _ h => h) (Or.inl ⟨by kernel_rfl, fun w => ?_⟩) ?_
    · go_simp
    go_simp
    refine wpAny_take (i := 17) (v := .string (s.extract 0 q)) rfl (by kernel_rfl) (by kernel_rfl) (by kernel_rfl) (fun _ _ _ h => h) (Or.inl ⟨by kernel_rfl, fun w => ?_⟩) ?_
    · go_simp <;> (intro hh; omega)
    go_simp
    refine wpAny_take (i := 19) (v := .string T) rfl (by kernel_rfl) (by kernel_rfl) (by kernel_rfl) (fun _ _ _ h => h) (Or.inl ⟨by kernel_rfl, fun w => ?_⟩) ?_
    · go_simp
    go_simp
    refine wpAny_take (i := 20) (v := .string s) rfl (by kernel_rfl) (by kernel_rfl) (by kernel_rfl) (fun _ _ _ h => h) (Or.inl ⟨by kernel_rfl, fun w => ?_⟩) ?_
    · go_simp
    go_simp
    refine wpAny_take (i := 21) (v := .int .i64 (q : Int)) rfl (by kernel_rfl) (by kernel_rfl) (by kernel_rfl) (fun _ _ _ h => h) (Or.inl ⟨by kernel_rfl, fun w => ?_⟩) ?_
    · go_simp
    go_simp
    refine wpAny_take (i := 22) (v := .string (s.extract 0 q)) rfl (by kernel_rfl) (by kernel_rfl) (by kernel_rfl) (fun _ _ _ h => h) (Or.inl ⟨by kernel_rfl, fun w => ?_⟩) ?_
    · go_simp <;> (intro hh; omega)
    go_simp
    refine wpAny_take (i := 23) (v := .bool ub) rfl (by kernel_rfl) (by kernel_rfl) (by kernel_rfl) (fun _ _ _ h => h) (Or.inl ⟨by kernel_rfl, fun w => ?_⟩) ?_
    · go_simp
    go_simp
    refine wpAny_ready (rs := [18]) (by kernel_rfl) (by simp) ?_
    refine AllReady.cons rfl (fun K hK => ?_) AllReady.nil
    refine step_call1g (by kernel_rfl) 11 (.tmp 91) 9 (by kernel_rfl) (.string (s.extract 0 q)) (by kernel_rfl) (call_Shortest _) (SU.out w8) ?_
    rintro e w9 ⟨rfl, hb9⟩
    have H9 := hideIt (H8.out.trans (hb9.mono z8))
    clear hb9
    refine ⟨_, rfl, ?_⟩
    refine hK _ _ ?_
    clear hK K
    refine wpAny_take (i := 24) (v := .bool true) rfl (by kernel_rfl) (by kernel_rfl) (by kernel_rfl) (fun _ _ _ h => h) (Or.inl ⟨by kernel_rfl, fun w => ?_⟩) ?_
    · go_simp
    go_simp
    refine wpAny_take (i := 25) (v := .bool true) rfl (by kernel_rfl) (by kernel_rfl) (by kernel_rfl) (fun _ _ _ h => h) (Or.inl ⟨by kernel_rfl, fun w => ?_⟩) ?_
    · go_simp
    go_simp
    refine wpAny_take (i := 26) (v := .bool true) rfl (by kernel_rfl) (by kernel_rfl) (by kernel_rfl) (fun _ _ _ h => h) (Or.inl ⟨by kernel_rfl, fun w => ?_⟩) ?_
    · go_simp
    go_simp
    refine wpAny_done (by kernel_rfl) ?_ _
    go_wp2_with fail
    go_ret
    exact ⟨rfl, HEND.out _ H9.out⟩
end Go.Proofs.YtokhindolimchaaGreat

/-
  PROVED: for every code of bytes the law FnReadCbor returns true: what is read of drawn bytes is as the specification reads it; it is right, its own bytes are no longer than those that were used, and the same just where these are the shortest. No condition beyond the row's own.
-/
namespace Go.Proofs.YtokhindolimchaaGreat
open Go.ChangeShapes Go.WideShapes Go.ChangeAt Go.RowKit
set_option linter.unusedVariables false

theorem fnReadCbor_own : ownKnob Tryz.prog.godebug = none := by kernel_rfl
theorem fnReadCbor_laidOut : laidOutB Tryz.prog = true := by kernel_rfl
set_option maxRecDepth 100000 in
theorem fnReadCbor_lifted (os : Os) (started : os.Started) (H : Type) (enc : TypeId × Value → H) :
    ReturnsInHanded {} Tryz.checked os 3 .any (Rows.fnReadCborSpec.pre6 enc Tryz.prog Tryz.f3 Rows.fnReadCborRow.domain false) (Rows.fnReadCborSpec.post enc Tryz.prog Tryz.f3 false true false false) := by
  refine returnsInHanded_of_change (C := Tryz.checked) fnReadCbor_own started (by kernel_rfl) Tryz.func3
    (ChangeSpec.witness6 (enc := enc) (C := Tryz.checked) false ⟨#[], #[.slice none 0 0], []⟩ 8 (by kernel_rfl) (by kernel_rfl) (by kernel_rfl) (by kernel_rfl)) ?_
  intro W base args ds gs before hval0 hW hcnd _
  have hval : ∀ (j : Nat) t v, Tryz.f3.params[j]? = some t → args[j]? = some v → Value.okWide Tryz.prog W .any base t v := hval0
  have hW' := hW
  obtain ⟨p, q, hA0, hV, rfl, hfz, hnd⟩ := hW
  have hA : DataW.TrodAll enc Tryz.prog W 0 (fun _ => true) true Tryz.f3.params.toList args.toList ds p := hA0
  rw [Tryz.params3] at hA hval
  obtain ⟨v0, vs0, d0, ds0, p0, q0, hargs, rfl, rfl, h0, r0⟩ := trodAll_cons hA
  obtain ⟨rfl, rfl, rfl⟩ := trodAll_nil r0
  obtain rfl : args = #[v0] := by cases args; simp_all
  obtain ⟨rfl, rfl⟩ := trodVars_none hV
  obtain ⟨a0, len0, cap0, rfl⟩ := okWide_slice Tryz.underlying22 (hval 0 22 v0 rfl rfl)
  have k0 := h0
  have lt0 : ∀ x ∈ p0, x.block < W.heap.size := by obtain ⟨m, hm⟩ := k0; exact DataW.trod_lt m _ _ _ hm
  obtain ⟨n, w0⟩ : ∃ n, RawCode W (.slice a0 len0 cap0) n := by
    obtain ⟨fuel, hf⟩ := h0
    exact raw_code (by simpa [Value.cells] using hf)
  clear hA0 hval0
  refine (lawFnReadCbor_walk (.slice a0 len0 cap0) n W w0).mono fun e W' ⟨he, bel⟩ => ?_
  subst he
  exact ⟨_, rfl, _, _, _, [], _, [], hW', trodAll_mk1 (shut_bool Tryz.underlying4 _), (trodAll_cons_mk (Below.trod fnReadCbor_laidOut (by kernel_rfl) (of_decide_eq_true (by kernel_rfl)) k0 bel lt0) trodAll_mk0), rfl, bel.frame _, fun h => by cases h⟩

theorem fnReadCbor_holds : Rows.FnReadCborSaid :=
  OpenClaim.holds_of_wide 3 Tryz.f3 rfl rfl rfl rfl rfl rfl rfl ⟨rfl, rfl, rfl, rfl, rfl⟩ rfl rfl rfl rfl rfl (by kernel_rfl) Tryz.func3 (by kernel_rfl)
    (of_decide_eq_true (by kernel_rfl)) (by unfold Func.isWrapper; first | (rw [if_pos (by decide +kernel)]; kernel_rfl) | (rw [if_neg (by decide +kernel)]; exact ⟨rfl, rfl⟩))
    (fun os started H enc _ => fnReadCbor_lifted os started H enc)
#print axioms fnReadCbor_holds
end Go.Proofs.YtokhindolimchaaGreat
