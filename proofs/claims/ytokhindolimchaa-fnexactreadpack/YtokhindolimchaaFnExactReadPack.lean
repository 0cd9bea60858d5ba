/-
  ReadPack: the specification's.
-/
import Derived.Test.YtokhindolimchaaScX4
import Derived.Test.YtokhindolimchaaScV4
import Derived.Test.YtokhindolimchaaRdFr
import Derived.Test.YtokhindolimchaaTo
import Derived.Test.YtokhindolimchaaBrM
import Derived.Test.YtokhindolimchaaRows
import Derived.ProofKit
import Derived.OpenShut
import Derived.ShutString
import Derived.ChangeOld
import Derived.ChangeMaps5
import Derived.Below
namespace Go.Proofs.Ytokhindolimchaa
open Go.RowKit
set_option linter.unusedSimpArgs false
set_option linter.unusedVariables false

def packF (s : ByteArray) : Option (List VN × Nat) := frontV s.data.toList (rdP s.data.toList (s.size + 1) 0)
theorem packF_is {s : ByteArray} (hs : s.size ≤ 4000) : packF s = (match spP s.data.toList (s.size + 1) 0 0 0 with | none => none | some (ns, q, _) => if okB ns = true then some (ns, q) else none) := by
  have hl := len_is s
  refine Eq.trans ?_ (same_read (relV_pack s.data.toList (s.size + 1) 0)).symm
  unfold packF frontV
  rw [if_neg (by omega), hl]
theorem packF_big {s : ByteArray} (hs : 4000 < s.size) : packF s = none := by
  have hl := len_is s
  unfold packF frontV
  rw [if_pos (by omega)]
theorem packF_small (s : ByteArray) : nsOf (packF s) = [] ∨ SmNs (nsOf (packF s)) := by
  by_cases hs : s.size ≤ 4000
  · rw [packF_is hs]
    cases e : spP s.data.toList (s.size + 1) 0 0 0 with
    | none => exact .inl rfl
    | some x =>
      obtain ⟨ns, q, d⟩ := x
      have := (ok_pack s.data.toList (s.size + 1) 0 0 0 ns q d (by omega) e).1
      dsimp only
      split
      · exact .inr this
      · exact .inl rfl
  · rw [packF_big (by omega)]; exact .inl rfl

set_option maxRecDepth 100000 in
set_option maxHeartbeats 3200000 in
theorem specReadPack_any (s : ByteArray) (hs : s.size ≤ 9223372036854775807) : Fronts 19 s (packF s) := by
  intro w
  by_cases hbig : 4000 < s.size
  · rw [packF_big hbig]
    have hb' : (4000 : Int) < (s.size : Int) := by omega
    go_enter Try.func19, Try.ntmps19
    go_wp2_with fail
    refine bodyPost_ret (v := .tuple #[.slice none 0 0, .int .i64 0, .bool false]) (by simp [results, Try.results19, go_sem]) rfl ?_
    exact ⟨_, w.heap.size, fun _ => undef, fun _ => undef, rfl, Nat.le_refl _, Nat.le_refl _, Nest.nil _ _ _ _, Below.refl _ _⟩
  have hb' : ¬ (4000 : Int) < (s.size : Int) := by omega
  have HIS := hideB (packF_is (s := s) (by omega))
  have HBA : Hid (Below w.heap.size w (w.alloc (.cells #[.string s, .int .i64 0, .bool false, .int .i64 0] 60))) := (Below.refl _ _).alloc (Nat.le_refl _) _
  have HA : Hid (ScAt (w.alloc (.cells #[.string s, .int .i64 0, .bool false, .int .i64 0] 60)) w.heap.size s 0 false 0) := ⟨heap_alloc_new w _, Nat.zero_le _, by omega⟩
  have HC := hideB (value4_any (rb := w.heap.size) (s := s) (by omega) (s.size + 1) 0 0 0 _ HA.out (by omega) (by omega) (by omega))
  have HZ : Hid ((w.alloc (.cells #[.string s, .int .i64 0, .bool false, .int .i64 0] 60)).heap.size = w.heap.size + 1) := by rw [Hid]; simp
  go_enter Try.func19, Try.ntmps19
  go_wp2_with fail
  refine HC.out.mono ?_
  rintro e w1 ⟨ar, M, cr, rfl, hbt, hor⟩
  have HBL : Hid (Below w.heap.size w w1) := HBA.out.trans (hbt.below (by rw [HZ.out]; omega))
  have z1 := HBL.out.size
  have HZ1 : Hid (w.heap.size + 1 ≤ w1.heap.size) := by have := hbt.size; have := HZ.out; rw [Hid]; omega
  clear hbt HC
  rcases hor with ⟨ns, q, d, KV, IV, hS, hM, hn, hsc⟩ | ⟨hS, d, _, p', hsc⟩
  rotate_left
  · have HNO : Hid (packF s = none) := by rw [Hid, HIS.out, hS]
    have k2 := hsc.cells.2.2.1
    clear hS hsc HIS
    go_wp2_with fail
    rw [HNO.out]
    refine bodyPost_ret (v := .tuple #[.slice none 0 0, .int .i64 0, .bool false]) (by simp [results, Try.results19, go_sem]) rfl ?_
    exact ⟨_, w1.heap.size, fun _ => undef, fun _ => undef, rfl, z1, Nat.le_refl _, Nest.nil _ _ _ _, HBL.out⟩
  have HSM := hideB (ok_pack s.data.toList (s.size + 1) 0 0 0 ns q d (by omega) hS).1
  have HN := hideB hn
  have HSC := hideB hsc
  have k2 := hsc.cells.2.2.1
  rw [hS] at HIS
  have HCO := hideB (specOk_any w1.heap.size (.slice ar M cr) ns w1 (hn.nodes (by have := HSM.out.2.1; omega) (fun j hj => HSM.out.few.2 j hj)) (Nat.le_refl _))
  clear hS hn hsc hM
  go_wp2_with fail
  refine HCO.out.mono ?_
  rintro e w2 ⟨rfl, hb2⟩
  have HB2 := hideB (HBL.out.trans (hb2.mono z1))
  have HN2 := hideB (HN.out.below hb2)
  have HSC2 := hideB (HSC.out.below hb2)
  have z2 := hb2.size
  clear hb2 k2
  cases hok : okB ns
  · have HNO : Hid (packF s = none) := by rw [Hid, HIS.out]; simp [hok]
    go_wp2_with fail
    rw [HNO.out]
    refine bodyPost_ret (v := .tuple #[.slice none 0 0, .int .i64 0, .bool false]) (by simp [results, Try.results19, go_sem]) rfl ?_
    exact ⟨_, w2.heap.size, fun _ => undef, fun _ => undef, rfl, HB2.out.size, Nat.le_refl _, Nest.nil _ _ _ _, HB2.out⟩
  · have HYES : Hid (packF s = some (ns, q)) := by rw [Hid, HIS.out]; simp [hok]
    obtain ⟨c0, c1, c2, c3⟩ := HSC2.out.cells
    go_wp2_with fail
    go_quiet (fail)
    have HB3 := hideB (HB2.out.trans ((below_drewB (w := w2) nq).mono HB2.out.size))
    have HN3 := hideB (HN2.out.below (below_drewB (w := w2) nq))
    have z3 : w2.heap.size ≤ (w2.drewN nq).heap.size := (below_drewB (w := w2) nq).size
    generalize w2.drewN nq = w3 at HB3 HN3 z3 ⊢
    clear nq c0 c1 c2 c3
    go_wp2_with fail
    rw [HYES.out]
    refine bodyPost_ret (v := .tuple #[.slice ar M cr, .int .i64 q, .bool true]) (by simp [results, Try.results19, go_sem]) rfl ?_
    exact ⟨_, w.heap.size + 1, KV, IV, rfl, by omega, by have := HZ1.out; omega, by have := HN3.out; rw [HZ.out] at this; exact this, HB3.out⟩
end Go.Proofs.Ytokhindolimchaa

/-
  ReadPack: the program's.
-/
namespace Go.Proofs.Ytokhindolimchaa
open Go.RowKit
set_option linter.unusedSimpArgs false
set_option linter.unusedVariables false

set_option maxRecDepth 100000 in
set_option maxHeartbeats 3200000 in
theorem implReadPack_any (s : ByteArray) (hs : s.size ≤ 9223372036854775807) : Fronts 20 s (packF s) := by
  intro w
  have hmf : ∀ (fn : Fn) (first cap : Array Value) (w : World), (Instr.makeFunc fn first cap).run Try.prog w = .ok (.func fn first cap) w := fun _ _ _ _ => rfl
  have HBA : Hid (Below w.heap.size w (w.alloc (.cells #[.string s, .int .i64 0] 66))) := (Below.refl _ _).alloc (Nat.le_refl _) _
  have HA : Hid (BrAt (w.alloc (.cells #[.string s, .int .i64 0] 66)) w.heap.size s 0) := ⟨by simp, by simp, by simp, by simp, Nat.zero_le _⟩
  have HC := hideB (readFront_any 38 (rdP s.data.toList (s.size + 1)) w.heap.size s (fun h4 => pread_any w.heap.size s h4 (s.size + 1)) (fun h4 => rdP_ok s.data.toList (by rw [len_is]; exact h4) (s.size + 1)) (call_pread _) _ HA.out hs)
  have HV : Hid (frontV s.data.toList (rdP s.data.toList (s.size + 1) 0) = packF s) := rfl
  rw [HV.out] at HC
  obtain ⟨V, hV⟩ : ∃ V, packF s = V := ⟨_, rfl⟩
  rw [hV] at HC ⊢
  clear hV HV
  have HZ : Hid ((w.alloc (.cells #[.string s, .int .i64 0] 66)).heap.size = w.heap.size + 1) := by rw [Hid]; simp
  go_enter Try.func20, Try.ntmps20
  go_wp2_with fail
  refine HC.out.mono ?_
  rintro e w1 ⟨r, base, KV, IV, rfl, hb1, hb2, hn, hbt⟩
  have HN := hideB hn
  have HB : Hid (w.heap.size ≤ base ∧ base ≤ w1.heap.size) := ⟨by have := HZ.out; omega, hb2⟩
  have HBL : Hid (Below w.heap.size w w1) := HBA.out.trans (hbt.below (by rw [HZ.out]; omega))
  obtain ⟨ar, cr, er⟩ := own_slice hn.row
  obtain ⟨M, hM⟩ : ∃ M, (nsOf V).length = M := ⟨_, rfl⟩
  rw [hM] at er
  subst er
  clear hn hbt hM hb1 hb2
  go_wp2_with fail
  refine bodyPost_ret (v := .tuple #[.slice ar M cr, .int .i64 (usedOf V), .bool V.isSome]) (by simp [results, Try.results20, go_sem]) rfl ?_
  exact ⟨_, base, KV, IV, rfl, HB.out.1, HB.out.2, HN.out, HBL.out⟩
end Go.Proofs.Ytokhindolimchaa

/-
  The law of ReadPack: the call returns true and turns nothing that was there.
-/
namespace Go.Proofs.Ytokhindolimchaa
open Go.RowKit
set_option linter.unusedSimpArgs false
set_option linter.unusedVariables false

theorem Below.nextR {A : Nat} {a b c : World} (h : Below A a b) (h2 : Below b.heap.size b c) (hA : A ≤ b.heap.size) : Below A a c := h.trans (h2.mono hA)

set_option maxRecDepth 100000 in
set_option maxHeartbeats 6400000 in
theorem lawReadPack_walk (s : ByteArray) (w : World) :
    Calls Try.prog 6 #[.string s] w fun e w' => e = .returned (.bool true) ∧ Below w.heap.size w w' := by
  by_cases hs : 1048576 < s.size
  · have hs' : (1048576 : Int) < (s.size : Int) := by omega
    by_cases hs2 : s.size ≤ 9223372036854775807
    · go_enter Try.func6, Try.ntmps6
      go_wp2_with fail
      go_ret
      exact ⟨rfl, Below.refl _ _⟩
    · go_enter Try.func6, Try.ntmps6
      go_wp2_with fail
      go_ret
      exact ⟨rfl, Below.refl _ _⟩
  have hs' : ¬ (1048576 : Int) < (s.size : Int) := by omega
  have CS := hideIt (specReadPack_any s (by omega))
  have CI := hideIt (implReadPack_any s (by omega))
  have HSM := hideIt (packF_small s)
  obtain ⟨V, hV⟩ : ∃ V, packF s = V := ⟨_, rfl⟩
  rw [hV] at CS CI HSM
  clear hV
  obtain ⟨U, hU⟩ : ∃ U : Nat, usedOf V = U := ⟨_, rfl⟩
  obtain ⟨b, hb⟩ : ∃ b, V.isSome = b := ⟨_, rfl⟩
  obtain ⟨ns, hns⟩ : ∃ ns, nsOf V = ns := ⟨_, rfl⟩
  unfold Fronts at CS CI
  simp only [hU, hb, hns] at CS CI
  rw [hns] at HSM
  clear hU hb hns V
  have HR : Hid (Few ns ∧ ∀ i, i < ns.length → Fits (nodeAt ns i)) := by
    rcases HSM.out with h | h
    · subst h; exact ⟨⟨by simp, fun i hi => absurd hi (by simp)⟩, fun i hi => absurd hi (by simp)⟩
    · exact h.few
  have HR1 : Hid (ns.length ≤ 1759218604416) := Nat.le_trans HR.out.1.1 (by omega)
  have HR2 : Hid (∀ i, i < ns.length → Fits (nodeAt ns i)) := HR.out.2
  have hne : (((U : Nat) : Int) != ((U : Nat) : Int)) = false := by simp
  have hbe : (b != b) = false := by simp
  go_enter Try.func6, Try.ntmps6
  go_wp2_with fail
  refine (CS.out w).mono ?_
  rintro e w1 ⟨r0, base0, KV0, IV0, rfl, hbase0, hbase0', hnest0, hb1⟩
  have HN0 := hideIt hnest0
  obtain ⟨a0, c0, hr0⟩ := own_slice hnest0.row
  obtain ⟨N, hL⟩ : ∃ N, ns.length = N := ⟨_, rfl⟩
  have HLL := hideIt hL
  rw [hL] at hr0
  subst hr0
  have HB1 := hideIt hb1
  have z1 := hb1.size
  clear hnest0 hb1 hL
  go_wp2_with fail
  refine (CI.out w1).mono ?_
  rintro e w5 ⟨r5, base5, KV5, IV5, rfl, hbase5, hbase5', hnest5, hb5⟩
  have HN5 := hideIt hnest5
  obtain ⟨a5, c5, hr5⟩ := own_slice hnest5.row
  rw [HLL.out] at hr5
  subst hr5
  have H15 := hideIt hb5
  have HB5 := hideIt (Below.nextR HB1.out hb5 z1)
  have z5 := hb5.size
  clear hnest5 hb5
  go_wp2_with fail
  refine (eqVNodeS_any w5.heap.size _ _ ns _ (HN5.out.nodes HR1.out HR2.out) ((HN0.out.below H15.out).nodes HR1.out HR2.out) (Nat.le_refl _)).mono ?_
  rintro e w10 ⟨rfl, hb10⟩
  have H110 := hideIt (Below.nextR H15.out hb10 z5)
  have HB10 := hideIt (Below.nextR HB5.out hb10 (by omega))
  have HN10 := hideIt (HN5.out.below hb10)
  have z10 := hb10.size
  clear hb10
  have HMK := hideIt (HN10.out.mark HLL.out HR.out.1)
  have hLs : N ≤ 80 := by rw [← HLL.out]; exact HR.out.1.1
  go_wp2_with fail
  refine (markVNodeS_any base5 _ N c5 1 a5 _ _ _ _ w10 HMK.out (by omega) (by omega) (by omega) (by omega)).mono ?_
  rintro e w11 ⟨rfl, hh11, hon11, hb11⟩
  have H111 := hideIt (H110.out.trans (hb11.mono (by omega)))
  have HB11 := hideIt (HB10.out.trans (hb11.mono (by omega)))
  have HH11 := hideIt hh11
  have z11 := hb11.size
  clear hh11 hon11 hb11
  have HKR : Hid (∀ i, i < N → knOf ns i ≤ 1048576 ∧ inOf ns i ≤ 1048576) := fun i hi => by
    have := HR.out.1.2 i (by rw [HLL.out]; exact hi)
    unfold knOf inOf
    omega
  have HAD : Hid (0 < N → a5 = some ⟨blk (.slice a5 N c5), 0, none⟩) := fun hp => (HMK.out hp).1
  go_wp2_with fail
  refine (heldVNodeS_any _ N c5 1 a5 _ _ _ _ w11 HAD.out (by omega) HKR.out (by omega) (by omega) HH11.out).mono ?_
  rintro e w12 ⟨rfl, hb12⟩
  have H112 := hideIt (Below.nextR H111.out hb12 (by omega))
  have HB12 := hideIt (Below.nextR HB11.out hb12 (by omega))
  have H1112 := hideIt hb12
  have z12 := hb12.size
  clear hb12
  have HOFF : Hid (∃ M, off (knOf ns) (inOf ns) 1 N = M) := ⟨_, rfl⟩
  obtain ⟨M12, hM12⟩ := HOFF.out
  rw [hM12]
  have HM12 := hideIt hM12
  have hM0 : ¬ ((M12 : Int) < 0) := by omega
  clear hM12
  go_wp2_with fail
  refine (CI.out w12).mono ?_
  rintro e w14 ⟨r14, base14, KV14, IV14, rfl, hbase14, hbase14', hnest14, hb14⟩
  have HN14 := hideIt hnest14
  obtain ⟨a14, c14, hr14⟩ := own_slice hnest14.row
  rw [HLL.out] at hr14
  subst hr14
  have H114 := hideIt (Below.nextR H112.out hb14 (by omega))
  have HB14 := hideIt (Below.nextR HB12.out hb14 (by omega))
  have H1114 := hideIt (Below.nextR H1112.out hb14 (by omega))
  have z14 := hb14.size
  clear hnest14 hb14
  go_wp2_with fail
  refine (eqVNodeS_any w14.heap.size _ _ ns _ (HN14.out.nodes HR1.out HR2.out) ((HN0.out.below H114.out).nodes HR1.out HR2.out) (Nat.le_refl _)).mono ?_
  rintro e w15 ⟨rfl, hb15⟩
  have HB15 := hideIt (Below.nextR HB14.out hb15 (by omega))
  have H1115 := hideIt (Below.nextR H1114.out hb15 (by omega))
  have z15 := hb15.size
  clear hb15
  go_wp2_with fail
  refine (heldVNodeS_any _ N c5 1 a5 _ _ _ _ w15 HAD.out (by omega) HKR.out (by omega) (by omega) (fun i hi => (HH11.out i hi).below H1115.out)).mono ?_
  rintro e w16 ⟨rfl, hb16⟩
  have HB16 := hideIt (Below.nextR HB15.out hb16 (by omega))
  clear hb16
  rw [HM12.out]
  go_wp2_with fail
  go_ret
  exact ⟨rfl, HB16.out⟩
end Go.Proofs.Ytokhindolimchaa

/-
  PROVED: for every text the law FnExactReadPack returns true: the program's ReadPack answers as the specification's. No condition beyond the row's own.
-/
namespace Go.Proofs.Ytokhindolimchaa
open Go.ChangeShapes Go.WideShapes Go.ChangeAt Go.RowKit
open Go.ChangeMaps (open_string shut_string)
set_option linter.unusedVariables false

theorem fnExactReadPack_own : ownKnob Try.prog.godebug = none := by kernel_rfl

set_option maxRecDepth 100000 in
theorem fnExactReadPack_lifted (os : Os) (started : os.Started) (H : Type) (enc : TypeId × Value → H) :
    ReturnsInHanded {} Try.checked os 6 .any (Rows.fnExactReadPackSpec.pre6 enc Try.prog Try.f6 Rows.fnExactReadPackRow.domain false) (Rows.fnExactReadPackSpec.post enc Try.prog Try.f6 false true false false) := by
  refine returnsInHanded_of_change (C := Try.checked) fnExactReadPack_own started (by kernel_rfl) Try.func6
    (ChangeSpec.witness6 (enc := enc) (C := Try.checked) false ⟨#[], #[.string ⟨#[]⟩], []⟩ 8 (by kernel_rfl) (by kernel_rfl) (by kernel_rfl) (by kernel_rfl)) ?_
  intro W base args ds gs before hval0 hW hcnd _
  have hval : ∀ (j : Nat) t v, Try.f6.params[j]? = some t → args[j]? = some v → Value.okWide Try.prog W .any base t v := hval0
  have hW' := hW
  obtain ⟨p, q, hA0, hV, rfl, hfz, hnd⟩ := hW
  have hA : DataW.TrodAll enc Try.prog W 0 (fun _ => true) true Try.f6.params.toList args.toList ds p := hA0
  rw [Try.params6] at hA hval
  obtain ⟨v0, d0, rfl, rfl, h0⟩ := trodAll_one hA
  obtain ⟨rfl, rfl⟩ := trodVars_none hV
  obtain ⟨s, rfl, rfl, rfl, hs⟩ := open_string Try.underlying9 (hval 0 9 v0 rfl rfl) h0
  simp only [List.append_nil] at hW'
  refine (lawReadPack_walk s W).mono fun e W' ⟨he, bel⟩ => ?_
  subst he
  exact ⟨_, rfl, _, _, _, [], [], [], hW', trodAll_mk1 (shut_bool Try.underlying4 _), trodAll_mk1 (shut_string Try.underlying9 hs), rfl, bel.frame _, fun h => by cases h⟩

theorem fnExactReadPack_holds : Rows.FnExactReadPackSaid :=
  OpenClaim.holds_of_wide 6 Try.f6 rfl rfl rfl rfl rfl rfl rfl ⟨rfl, rfl, rfl, rfl, rfl⟩ rfl rfl rfl rfl rfl (by kernel_rfl) Try.func6 (by kernel_rfl)
    (of_decide_eq_true (by kernel_rfl)) (by unfold Func.isWrapper; first | (rw [if_pos (by decide +kernel)]; kernel_rfl) | (rw [if_neg (by decide +kernel)]; exact ⟨rfl, rfl⟩))
    (fun os started H enc _ => fnExactReadPack_lifted os started H enc)
#print axioms fnExactReadPack_holds
end Go.Proofs.Ytokhindolimchaa
