/-
  The specification's ReadJson.
-/
import Derived.Test.YtagcgnhpdmhegaaSjV
import Derived.Test.YtagcgnhpdmhegaaJrO
import Derived.Test.YtagcgnhpdmhegaaJrR
import Derived.Test.YtagcgnhpdmhegaaTo
import Derived.Test.YtagcgnhpdmhegaaBrM
import Derived.Test.YtagcgnhpdmhegaaRows
import Derived.ProofKit
import Derived.OpenShut
import Derived.ShutString
import Derived.ChangeOld
import Derived.ChangeMaps5
import Derived.Below
namespace Go.Proofs.Ytagcgnhpdmhegaa
open Go.RowKit
set_option linter.unusedSimpArgs false
set_option linter.unusedVariables false

theorem jsonF_big {s : ByteArray} (hs : 4000 < s.size) : jsonF s = none := by
  have hl := len_is s
  unfold jsonF frontV
  rw [if_pos (by omega)]
theorem jsonF_none {s : ByteArray} (hs : s.size ≤ 4000) (h : spJ s.data.toList (s.size + 1) 0 0 0 = none) : jsonF s = none := by
  have hl := len_is s
  have h1 := same_read (relJ s.data.toList (s.size + 1) 0).rel
  rw [h] at h1
  unfold jsonF frontV allJ
  rw [if_neg (by omega), hl]
  cases e : rdJ s.data.toList (s.size + 1) 0 with
  | none => rfl
  | some x =>
    obtain ⟨t, q⟩ := x
    rw [e] at h1
    dsimp only
    split
    · rfl
    · exact h1.symm
theorem jsonF_some {s : ByteArray} (hs : s.size ≤ 4000) {ns : List VN} {q d : Nat} (h : spJ s.data.toList (s.size + 1) 0 0 0 = some (ns, q, d)) : jsonF s = if q < s.size then none else if okB ns = true then some (ns, q) else none := by
  have hl := len_is s
  obtain ⟨_, _, _, t, h1, h2⟩ := (relJ s.data.toList (s.size + 1) 0).yes 0 0 ns q d (by omega) h
  unfold jsonF frontV allJ
  rw [if_neg (by omega), hl, h1]
  dsimp only
  split
  · rfl
  · unfold okOf; rw [h2]
theorem jsonF_small (s : ByteArray) : nsOf (jsonF s) = [] ∨ SmNs (nsOf (jsonF s)) := by
  by_cases hs : s.size ≤ 4000
  · cases e : spJ s.data.toList (s.size + 1) 0 0 0 with
    | none => rw [jsonF_none hs e]; exact .inl rfl
    | some x =>
      obtain ⟨ns, q, d⟩ := x
      have := (ok_json s.data.toList (s.size + 1) 0 0 0 ns q d (by omega) e).1
      rw [jsonF_some hs e]
      split
      · exact .inl rfl
      · split
        · exact .inr this
        · exact .inl rfl
  · rw [jsonF_big (by omega)]; exact .inl rfl

set_option maxRecDepth 100000 in
set_option maxHeartbeats 3200000 in
theorem specReadJson_any (s : ByteArray) (hs : s.size ≤ 9223372036854775807) : Reads 4 s (jsonF s) := by
  intro w
  by_cases hbig : 4000 < s.size
  · rw [jsonF_big hbig]
    have hb' : (4000 : Int) < (s.size : Int) := by omega
    go_enter Try.func4, Try.ntmps4
    go_wp2_with fail
    refine bodyPost_ret (v := .tuple #[.slice none 0 0, .bool false]) (by simp [results, Try.results4, go_sem]) rfl ?_
    exact ⟨_, w.heap.size, fun _ => undef, fun _ => undef, rfl, Nat.le_refl _, Nat.le_refl _, Nest.nil _ _ _ _, Below.refl _ _⟩
  have hb' : ¬ (4000 : Int) < (s.size : Int) := by omega
  have hs4 : s.size ≤ 4000 := by omega
  have HBA : Hid (Below w.heap.size w (w.alloc (.cells #[.string s, .int .i64 0, .bool false, .int .i64 0] 30))) := (Below.refl _ _).alloc (Nat.le_refl _) _
  have HA : Hid (SjAt (w.alloc (.cells #[.string s, .int .i64 0, .bool false, .int .i64 0] 30)) w.heap.size s 0 false 0) := ⟨heap_alloc_new w _, Nat.zero_le _, by omega⟩
  have HC := hideB (value_anyJ (rb := w.heap.size) (s := s) (by omega) (s.size + 1) 0 0 0 _ HA.out (by omega) (by omega) (by omega))
  have HZ : Hid ((w.alloc (.cells #[.string s, .int .i64 0, .bool false, .int .i64 0] 30)).heap.size = w.heap.size + 1) := by rw [Hid]; simp
  go_enter Try.func4, Try.ntmps4
  go_wp2_with fail
  refine HC.out.mono ?_
  rintro e w1 ⟨ar, M, cr, rfl, hbt, hor⟩
  have HBL : Hid (Below w.heap.size w w1) := HBA.out.trans (hbt.below (by rw [HZ.out]; omega))
  have z1 := HBL.out.size
  have HZ1 : Hid (w.heap.size + 1 ≤ w1.heap.size) := by have := hbt.size; have := HZ.out; rw [Hid]; omega
  clear hbt HC
  rcases hor with ⟨ns, q, d, KV, IV, hS, hM, hn, hsc⟩ | ⟨hS, d, _, p', hsc⟩
  rotate_left
  · have HNO : Hid (jsonF s = none) := jsonF_none hs4 hS
    have k2 := hsc.cells.2.2.1
    clear hS hsc
    go_wp2_with fail
    rw [HNO.out]
    refine bodyPost_ret (v := .tuple #[.slice none 0 0, .bool false]) (by simp [results, Try.results4, go_sem]) rfl ?_
    exact ⟨_, w1.heap.size, fun _ => undef, fun _ => undef, rfl, z1, Nat.le_refl _, Nest.nil _ _ _ _, HBL.out⟩
  have HIS := hideB (jsonF_some hs4 hS)
  have HSM := hideB (ok_json s.data.toList (s.size + 1) 0 0 0 ns q d (by omega) hS).1
  have HN := hideB hn
  have HSC := hideB hsc
  obtain ⟨k0, k1, k2, k3⟩ := hsc.cells
  have hq := hsc.le
  have HCO := hideB (specOk_any w1.heap.size (.slice ar M cr) ns w1 (hn.nodes (by have := HSM.out.2.1; omega) (fun j hj => HSM.out.few.2 j hj)) (Nat.le_refl _))
  clear hS hn hsc hM
  by_cases hqe : q < s.size
  · have HNO : Hid (jsonF s = none) := by rw [Hid, HIS.out, if_pos hqe]
    have hqn : ((q : Int) != (s.size : Int)) = true := by simp; omega
    have hqn2 : ¬ (q : Int) = (s.size : Int) := by omega
    clear hqe
    go_wp2_with fail
    rw [HNO.out]
    refine bodyPost_ret (v := .tuple #[.slice none 0 0, .bool false]) (by simp [results, Try.results4, go_sem]) rfl ?_
    exact ⟨_, w1.heap.size, fun _ => undef, fun _ => undef, rfl, z1, Nat.le_refl _, Nest.nil _ _ _ _, HBL.out⟩
  have hqn : ((q : Int) != (s.size : Int)) = false := by simp; omega
  have hqn2 : (q : Int) = (s.size : Int) := by omega
  rw [if_neg hqe] at HIS
  clear hqe
  go_wp2_with fail
  refine HCO.out.mono ?_
  rintro e w2 ⟨rfl, hb2⟩
  have HB2 := hideB (HBL.out.trans (hb2.mono z1))
  have HN2 := hideB (HN.out.below hb2)
  have z2 := hb2.size
  clear hb2 k0 k1 k2 k3
  cases hok : okB ns
  · have HNO : Hid (jsonF s = none) := by rw [Hid, HIS.out]; simp [hok]
    go_wp2_with fail
    rw [HNO.out]
    refine bodyPost_ret (v := .tuple #[.slice none 0 0, .bool false]) (by simp [results, Try.results4, go_sem]) rfl ?_
    exact ⟨_, w2.heap.size, fun _ => undef, fun _ => undef, rfl, HB2.out.size, Nat.le_refl _, Nest.nil _ _ _ _, HB2.out⟩
  · have HYES : Hid (jsonF s = some (ns, q)) := by rw [Hid, HIS.out]; simp [hok]
    go_wp2_with fail
    rw [HYES.out]
    refine bodyPost_ret (v := .tuple #[.slice ar M cr, .bool true]) (by simp [results, Try.results4, go_sem]) rfl ?_
    exact ⟨_, w.heap.size + 1, KV, IV, rfl, by omega, by have := HZ1.out; omega, by have := HN2.out; rw [HZ.out] at this; exact this, HB2.out⟩
end Go.Proofs.Ytagcgnhpdmhegaa

/-
  The law of ReadJson: the call returns true and turns nothing that was there.
-/
namespace Go.Proofs.Ytagcgnhpdmhegaa
open Go.RowKit
set_option linter.unusedSimpArgs false
set_option linter.unusedVariables false

theorem Below.nextR {A : Nat} {a b c : World} (h : Below A a b) (h2 : Below b.heap.size b c) (hA : A ≤ b.heap.size) : Below A a c := h.trans (h2.mono hA)

set_option maxRecDepth 100000 in
set_option maxHeartbeats 6400000 in
theorem lawReadJson_walk (s : ByteArray) (w : World) :
    Calls Try.prog 3 #[.string s] w fun e w' => e = .returned (.bool true) ∧ Below w.heap.size w w' := by
  by_cases hs : 1048576 < s.size
  · have hs' : (1048576 : Int) < (s.size : Int) := by omega
    by_cases hs2 : s.size ≤ 9223372036854775807
    · go_enter Try.func3, Try.ntmps3
      go_wp2_with fail
      go_ret
      exact ⟨rfl, Below.refl _ _⟩
    · go_enter Try.func3, Try.ntmps3
      go_wp2_with fail
      go_ret
      exact ⟨rfl, Below.refl _ _⟩
  have hs' : ¬ (1048576 : Int) < (s.size : Int) := by omega
  have CS := hideIt (specReadJson_any s (by omega))
  have CI := hideIt (implReadJson_any s (by omega))
  have HSM := hideIt (jsonF_small s)
  obtain ⟨V, hV⟩ : ∃ V, jsonF s = V := ⟨_, rfl⟩
  rw [hV] at CS CI HSM
  clear hV
  obtain ⟨b, hb⟩ : ∃ b, V.isSome = b := ⟨_, rfl⟩
  obtain ⟨ns, hns⟩ : ∃ ns, nsOf V = ns := ⟨_, rfl⟩
  unfold Reads at CS CI
  simp only [hb, hns] at CS CI
  rw [hns] at HSM
  clear hb hns V
  have HR : Hid (Few ns ∧ ∀ i, i < ns.length → Fits (nodeAt ns i)) := by
    rcases HSM.out with h | h
    · subst h; exact ⟨⟨by simp, fun i hi => absurd hi (by simp)⟩, fun i hi => absurd hi (by simp)⟩
    · exact h.few
  have HR1 : Hid (ns.length ≤ 1759218604416) := Nat.le_trans HR.out.1.1 (by omega)
  have HR2 : Hid (∀ i, i < ns.length → Fits (nodeAt ns i)) := HR.out.2
  have hbe : (b != b) = false := by simp
  go_enter Try.func3, Try.ntmps3
  go_wp2_with fail
  refine (CS.out w).mono ?_
  rintro e w1 ⟨r0, base0, KV0, IV0, rfl, hbase0, hbase0', hnest0, hb1⟩
  have HN0 := hideIt hnest0
  obtain ⟨a0, c0, hr0⟩ := own_slice hnest0.row
  obtain ⟨N, hL⟩ : ∃ N, ns.length = N := ⟨_, rfl⟩
  have HLL := hideIt hL
  rw [hL] at hr0
  subst hr0
  have HB1 := hideIt hb1
  have z1 := hb1.size
  clear hnest0 hb1 hL
  go_wp2_with fail
  refine (CI.out w1).mono ?_
  rintro e w5 ⟨r5, base5, KV5, IV5, rfl, hbase5, hbase5', hnest5, hb5⟩
  have HN5 := hideIt hnest5
  obtain ⟨a5, c5, hr5⟩ := own_slice hnest5.row
  rw [HLL.out] at hr5
  subst hr5
  have H15 := hideIt hb5
  have HB5 := hideIt (Below.nextR HB1.out hb5 z1)
  have z5 := hb5.size
  clear hnest5 hb5
  go_wp2_with fail
  refine (eqVNodeS_any w5.heap.size _ _ ns _ (HN5.out.nodes HR1.out HR2.out) ((HN0.out.below H15.out).nodes HR1.out HR2.out) (Nat.le_refl _)).mono ?_
  rintro e w10 ⟨rfl, hb10⟩
  have H110 := hideIt (Below.nextR H15.out hb10 z5)
  have HB10 := hideIt (Below.nextR HB5.out hb10 (by omega))
  have HN10 := hideIt (HN5.out.below hb10)
  have z10 := hb10.size
  clear hb10
  have HMK := hideIt (HN10.out.mark HLL.out HR.out.1)
  have hLs : N ≤ 80 := by rw [← HLL.out]; exact HR.out.1.1
  go_wp2_with fail
  refine (markVNodeS_any base5 _ N c5 1 a5 _ _ _ _ w10 HMK.out (by omega) (by omega) (by omega) (by omega)).mono ?_
  rintro e w11 ⟨rfl, hh11, hon11, hb11⟩
  have H111 := hideIt (H110.out.trans (hb11.mono (by omega)))
  have HB11 := hideIt (HB10.out.trans (hb11.mono (by omega)))
  have HH11 := hideIt hh11
  have z11 := hb11.size
  clear hh11 hon11 hb11
  have HKR : Hid (∀ i, i < N → knOf ns i ≤ 1048576 ∧ inOf ns i ≤ 1048576) := fun i hi => by
    have := HR.out.1.2 i (by rw [HLL.out]; exact hi)
    unfold knOf inOf
    omega
  have HAD : Hid (0 < N → a5 = some ⟨blk (.slice a5 N c5), 0, none⟩) := fun hp => (HMK.out hp).1
  go_wp2_with fail
  refine (heldVNodeS_any _ N c5 1 a5 _ _ _ _ w11 HAD.out (by omega) HKR.out (by omega) (by omega) HH11.out).mono ?_
  rintro e w12 ⟨rfl, hb12⟩
  have H112 := hideIt (Below.nextR H111.out hb12 (by omega))
  have HB12 := hideIt (Below.nextR HB11.out hb12 (by omega))
  have H1112 := hideIt hb12
  have z12 := hb12.size
  clear hb12
  have HOFF : Hid (∃ M, off (knOf ns) (inOf ns) 1 N = M) := ⟨_, rfl⟩
  obtain ⟨M12, hM12⟩ := HOFF.out
  rw [hM12]
  have HM12 := hideIt hM12
  have hM0 : ¬ ((M12 : Int) < 0) := by omega
  clear hM12
  go_wp2_with fail
  refine (CI.out w12).mono ?_
  rintro e w14 ⟨r14, base14, KV14, IV14, rfl, hbase14, hbase14', hnest14, hb14⟩
  have HN14 := hideIt hnest14
  obtain ⟨a14, c14, hr14⟩ := own_slice hnest14.row
  rw [HLL.out] at hr14
  subst hr14
  have H114 := hideIt (Below.nextR H112.out hb14 (by omega))
  have HB14 := hideIt (Below.nextR HB12.out hb14 (by omega))
  have H1114 := hideIt (Below.nextR H1112.out hb14 (by omega))
  have z14 := hb14.size
  clear hnest14 hb14
  go_wp2_with fail
  refine (eqVNodeS_any w14.heap.size _ _ ns _ (HN14.out.nodes HR1.out HR2.out) ((HN0.out.below H114.out).nodes HR1.out HR2.out) (Nat.le_refl _)).mono ?_
  rintro e w15 ⟨rfl, hb15⟩
  have HB15 := hideIt (Below.nextR HB14.out hb15 (by omega))
  have H1115 := hideIt (Below.nextR H1114.out hb15 (by omega))
  have z15 := hb15.size
  clear hb15
  go_wp2_with fail
  refine (heldVNodeS_any _ N c5 1 a5 _ _ _ _ w15 HAD.out (by omega) HKR.out (by omega) (by omega) (fun i hi => (HH11.out i hi).below H1115.out)).mono ?_
  rintro e w16 ⟨rfl, hb16⟩
  have HB16 := hideIt (Below.nextR HB15.out hb16 (by omega))
  clear hb16
  rw [HM12.out]
  go_wp2_with fail
  go_ret
  exact ⟨rfl, HB16.out⟩
end Go.Proofs.Ytagcgnhpdmhegaa

/-
  PROVED: for every text the law FnExactReadJson returns true: the program's ReadJson answers as the specification's. No condition beyond the row's own.
-/
namespace Go.Proofs.Ytagcgnhpdmhegaa
open Go.ChangeShapes Go.WideShapes Go.ChangeAt Go.RowKit
open Go.ChangeMaps (open_string shut_string)
set_option linter.unusedVariables false

theorem fnExactReadJson_own : ownKnob Try.prog.godebug = none := by kernel_rfl

set_option maxRecDepth 100000 in
theorem fnExactReadJson_lifted (os : Os) (started : os.Started) (H : Type) (enc : TypeId × Value → H) :
    ReturnsInHanded {} Try.checked os 3 .any (Rows.fnExactReadJsonSpec.pre6 enc Try.prog Try.f3 Rows.fnExactReadJsonRow.domain false) (Rows.fnExactReadJsonSpec.post enc Try.prog Try.f3 false true false false) := by
  refine returnsInHanded_of_change (C := Try.checked) fnExactReadJson_own started (by kernel_rfl) Try.func3
    (ChangeSpec.witness6 (enc := enc) (C := Try.checked) false ⟨#[], #[.string ⟨#[]⟩], []⟩ 8 (by kernel_rfl) (by kernel_rfl) (by kernel_rfl) (by kernel_rfl)) ?_
  intro W base args ds gs before hval0 hW hcnd _
  have hval : ∀ (j : Nat) t v, Try.f3.params[j]? = some t → args[j]? = some v → Value.okWide Try.prog W .any base t v := hval0
  have hW' := hW
  obtain ⟨p, q, hA0, hV, rfl, hfz, hnd⟩ := hW
  have hA : DataW.TrodAll enc Try.prog W 0 (fun _ => true) true Try.f3.params.toList args.toList ds p := hA0
  rw [Try.params3] at hA hval
  obtain ⟨v0, d0, rfl, rfl, h0⟩ := trodAll_one hA
  obtain ⟨rfl, rfl⟩ := trodVars_none hV
  obtain ⟨s, rfl, rfl, rfl, hs⟩ := open_string Try.underlying9 (hval 0 9 v0 rfl rfl) h0
  simp only [List.append_nil] at hW'
  refine (lawReadJson_walk s W).mono fun e W' ⟨he, bel⟩ => ?_
  subst he
  exact ⟨_, rfl, _, _, _, [], [], [], hW', trodAll_mk1 (shut_bool Try.underlying4 _), trodAll_mk1 (shut_string Try.underlying9 hs), rfl, bel.frame _, fun h => by cases h⟩

theorem fnExactReadJson_holds : Rows.FnExactReadJsonSaid :=
  OpenClaim.holds_of_wide 3 Try.f3 rfl rfl rfl rfl rfl rfl rfl ⟨rfl, rfl, rfl, rfl, rfl⟩ rfl rfl rfl rfl rfl (by kernel_rfl) Try.func3 (by kernel_rfl)
    (of_decide_eq_true (by kernel_rfl)) (by unfold Func.isWrapper; first | (rw [if_pos (by decide +kernel)]; kernel_rfl) | (rw [if_neg (by decide +kernel)]; exact ⟨rfl, rfl⟩))
    (fun os started H enc _ => fnExactReadJson_lifted os started H enc)
#print axioms fnExactReadJson_holds
end Go.Proofs.Ytagcgnhpdmhegaa
