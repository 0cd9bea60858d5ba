/-
  ReadCbor: the program's and the specification's.
-/
import Derived.Test.YtokhindolimchaaCbI
import Derived.Test.YtokhindolimchaaRdFr
import Derived.Test.YtokhindolimchaaScW
import Derived.Test.YtokhindolimchaaScT
import Derived.Test.YtokhindolimchaaPkR
namespace Go.Proofs.Ytokhindolimchaa
open Go.RowKit
set_option linter.unusedSimpArgs false
set_option linter.unusedVariables false

/-- A function from a text to nodes, how far it read, and whether it did. -/
def Fronts (F : FuncId) (s : ByteArray) (V : Option (List VN × Nat)) : Prop :=
  ∀ w, Calls Try.prog F #[.string s] w fun e w' => ∃ r base KV IV, e = .returned (.tuple #[r, .int .i64 (usedOf V), .bool V.isSome]) ∧ w.heap.size ≤ base ∧ base ≤ w'.heap.size ∧ Nest base w' r (nsOf V) KV IV ∧ Below w.heap.size w w'
def cborF (s : ByteArray) : Option (List VN × Nat) := frontV s.data.toList (rdC s.data.toList (s.size + 1) 0)
theorem cborF_is {s : ByteArray} (hs : s.size ≤ 4000) : cborF s = (match spC s.data.toList (s.size + 1) 0 0 0 with | none => none | some (ns, q, _) => if okB ns = true then some (ns, q) else none) := by
  have hl := len_is s
  refine Eq.trans ?_ (same_read (relV_cbor s.data.toList (s.size + 1) 0)).symm
  unfold cborF frontV
  rw [if_neg (by omega), hl]
theorem cborF_big {s : ByteArray} (hs : 4000 < s.size) : cborF s = none := by
  have hl := len_is s
  unfold cborF frontV
  rw [if_pos (by omega)]
theorem cborF_small (s : ByteArray) : nsOf (cborF s) = [] ∨ SmNs (nsOf (cborF s)) := by
  by_cases hs : s.size ≤ 4000
  · rw [cborF_is hs]
    cases e : spC s.data.toList (s.size + 1) 0 0 0 with
    | none => exact .inl rfl
    | some x =>
      obtain ⟨ns, q, d⟩ := x
      have := (ok_cbor s.data.toList (s.size + 1) 0 0 0 ns q d (by omega) e).1
      dsimp only
      split
      · exact .inr this
      · exact .inl rfl
  · rw [cborF_big (by omega)]; exact .inl rfl

set_option maxRecDepth 100000 in
set_option maxHeartbeats 3200000 in
theorem implReadCbor_any (s : ByteArray) (hs : s.size ≤ 9223372036854775807) : Fronts 11 s (cborF s) := by
  intro w
  have hmf : ∀ (fn : Fn) (first cap : Array Value) (w : World), (Instr.makeFunc fn first cap).run Try.prog w = .ok (.func fn first cap) w := fun _ _ _ _ => rfl
  have HBA : Hid (Below w.heap.size w (w.alloc (.cells #[.string s, .int .i64 0] 50))) := (Below.refl _ _).alloc (Nat.le_refl _) _
  have HA : Hid (BrAt (w.alloc (.cells #[.string s, .int .i64 0] 50)) w.heap.size s 0) := ⟨by simp, by simp, by simp, by simp, Nat.zero_le _⟩
  have HC := hideB (readFront_any 29 (rdC s.data.toList (s.size + 1)) w.heap.size s (fun h4 => cread_any w.heap.size s h4 (s.size + 1)) (fun h4 => rdC_ok s.data.toList (by rw [len_is]; exact h4) (s.size + 1)) (call_cread _) _ HA.out hs)
  have HV : Hid (frontV s.data.toList (rdC s.data.toList (s.size + 1) 0) = cborF s) := rfl
  rw [HV.out] at HC
  obtain ⟨V, hV⟩ : ∃ V, cborF s = V := ⟨_, rfl⟩
  rw [hV] at HC ⊢
  clear hV HV
  have HZ : Hid ((w.alloc (.cells #[.string s, .int .i64 0] 50)).heap.size = w.heap.size + 1) := by rw [Hid]; simp
  go_enter Try.func11, Try.ntmps11
  go_wp2_with fail
  refine HC.out.mono ?_
  rintro e w1 ⟨r, base, KV, IV, rfl, hb1, hb2, hn, hbt⟩
  have HN := hideB hn
  have HB : Hid (w.heap.size ≤ base ∧ base ≤ w1.heap.size) := ⟨by have := HZ.out; omega, hb2⟩
  have HBL : Hid (Below w.heap.size w w1) := HBA.out.trans (hbt.below (by rw [HZ.out]; omega))
  obtain ⟨ar, cr, er⟩ := own_slice hn.row
  obtain ⟨M, hM⟩ : ∃ M, (nsOf V).length = M := ⟨_, rfl⟩
  rw [hM] at er
  subst er
  clear hn hbt hM hb1 hb2
  go_wp2_with fail
  refine bodyPost_ret (v := .tuple #[.slice ar M cr, .int .i64 (usedOf V), .bool V.isSome]) (by simp [results, Try.results11, go_sem]) rfl ?_
  exact ⟨_, base, KV, IV, rfl, HB.out.1, HB.out.2, HN.out, HBL.out⟩

set_option maxRecDepth 100000 in
set_option maxHeartbeats 3200000 in
theorem specReadCbor_any (s : ByteArray) (hs : s.size ≤ 9223372036854775807) : Fronts 14 s (cborF s) := by
  intro w
  by_cases hbig : 4000 < s.size
  · rw [cborF_big hbig]
    have hb' : (4000 : Int) < (s.size : Int) := by omega
    go_enter Try.func14, Try.ntmps14
    go_wp2_with fail
    refine bodyPost_ret (v := .tuple #[.slice none 0 0, .int .i64 0, .bool false]) (by simp [results, Try.results14, go_sem]) rfl ?_
    exact ⟨_, w.heap.size, fun _ => undef, fun _ => undef, rfl, Nat.le_refl _, Nat.le_refl _, Nest.nil _ _ _ _, Below.refl _ _⟩
  have hb' : ¬ (4000 : Int) < (s.size : Int) := by omega
  have HIS := hideB (cborF_is (s := s) (by omega))
  have HBA : Hid (Below w.heap.size w (w.alloc (.cells #[.string s, .int .i64 0, .bool false, .int .i64 0] 60))) := (Below.refl _ _).alloc (Nat.le_refl _) _
  have HA : Hid (ScAt (w.alloc (.cells #[.string s, .int .i64 0, .bool false, .int .i64 0] 60)) w.heap.size s 0 false 0) := ⟨heap_alloc_new w _, Nat.zero_le _, by omega⟩
  have HC := hideB (value_any (rb := w.heap.size) (s := s) (by omega) (s.size + 1) 0 0 0 _ HA.out (by omega) (by omega) (by omega))
  have HZ : Hid ((w.alloc (.cells #[.string s, .int .i64 0, .bool false, .int .i64 0] 60)).heap.size = w.heap.size + 1) := by rw [Hid]; simp
  go_enter Try.func14, Try.ntmps14
  go_wp2_with fail
  refine HC.out.mono ?_
  rintro e w1 ⟨ar, M, cr, rfl, hbt, hor⟩
  have HBL : Hid (Below w.heap.size w w1) := HBA.out.trans (hbt.below (by rw [HZ.out]; omega))
  have z1 := HBL.out.size
  have HZ1 : Hid (w.heap.size + 1 ≤ w1.heap.size) := by have := hbt.size; have := HZ.out; rw [Hid]; omega
  clear hbt HC
  rcases hor with ⟨ns, q, d, KV, IV, hS, hM, hn, hsc⟩ | ⟨hS, d, _, p', hsc⟩
  rotate_left
  · have HNO : Hid (cborF s = none) := by rw [Hid, HIS.out, hS]
    have k2 := hsc.cells.2.2.1
    clear hS hsc HIS
    go_wp2_with fail
    rw [HNO.out]
    refine bodyPost_ret (v := .tuple #[.slice none 0 0, .int .i64 0, .bool false]) (by simp [results, Try.results14, go_sem]) rfl ?_
    exact ⟨_, w1.heap.size, fun _ => undef, fun _ => undef, rfl, z1, Nat.le_refl _, Nest.nil _ _ _ _, HBL.out⟩
  have HSM := hideB (ok_cbor s.data.toList (s.size + 1) 0 0 0 ns q d (by omega) hS).1
  have HN := hideB hn
  have HSC := hideB hsc
  have k2 := hsc.cells.2.2.1
  rw [hS] at HIS
  have HCO := hideB (specOk_any w1.heap.size (.slice ar M cr) ns w1 (hn.nodes (by have := HSM.out.2.1; omega) (fun j hj => HSM.out.few.2 j hj)) (Nat.le_refl _))
  clear hS hn hsc hM
  go_wp2_with fail
  refine HCO.out.mono ?_
  rintro e w2 ⟨rfl, hb2⟩
  have HB2 := hideB (HBL.out.trans (hb2.mono z1))
  have HN2 := hideB (HN.out.below hb2)
  have HSC2 := hideB (HSC.out.below hb2)
  have z2 := hb2.size
  clear hb2 k2
  cases hok : okB ns
  · have HNO : Hid (cborF s = none) := by rw [Hid, HIS.out]; simp [hok]
    go_wp2_with fail
    rw [HNO.out]
    refine bodyPost_ret (v := .tuple #[.slice none 0 0, .int .i64 0, .bool false]) (by simp [results, Try.results14, go_sem]) rfl ?_
    exact ⟨_, w2.heap.size, fun _ => undef, fun _ => undef, rfl, HB2.out.size, Nat.le_refl _, Nest.nil _ _ _ _, HB2.out⟩
  · have HYES : Hid (cborF s = some (ns, q)) := by rw [Hid, HIS.out]; simp [hok]
    obtain ⟨c0, c1, c2, c3⟩ := HSC2.out.cells
    go_wp2_with fail
    go_quiet (fail)
    have HB3 := hideB (HB2.out.trans ((below_drewB (w := w2) nq).mono HB2.out.size))
    have HN3 := hideB (HN2.out.below (below_drewB (w := w2) nq))
    have z3 : w2.heap.size ≤ (w2.drewN nq).heap.size := (below_drewB (w := w2) nq).size
    generalize w2.drewN nq = w3 at HB3 HN3 z3 ⊢
    clear nq c0 c1 c2 c3
    go_wp2_with fail
    rw [HYES.out]
    refine bodyPost_ret (v := .tuple #[.slice ar M cr, .int .i64 q, .bool true]) (by simp [results, Try.results14, go_sem]) rfl ?_
    exact ⟨_, w.heap.size + 1, KV, IV, rfl, by omega, by have := HZ1.out; omega, by have := HN3.out; rw [HZ.out] at this; exact this, HB3.out⟩
end Go.Proofs.Ytokhindolimchaa

/-
  The specification's l3Rc: MessagePack's texts.
-/
namespace Go.Proofs.Ytokhindolimchaa
open Go.RowKit
set_option linter.unusedSimpArgs false
set_option linter.unusedVariables false

/-- A text is read, as W says; or the reader is spoilt. -/
def TxtOr (rb c : Nat) (s : ByteArray) (W : Option (ByteArray × Nat)) (w : World) (e : Ending) (w' : World) : Prop :=
  ∃ key q b4, e = .returned (.string key) ∧ But rb w w' ∧ ScAt w' rb s q b4 c ∧ ((b4 = false ∧ W = some (key, q)) ∨ (b4 = true ∧ W = none))

set_option maxRecDepth 100000 in
set_option maxHeartbeats 6400000 in
theorem sword4_any {rb p c : Nat} {s : ByteArray} {w : World} (h : ScAt w rb s p false c) (hs : s.size ≤ 4000) (f : Nat) :
    Calls Try.prog 71 #[.pointer (some ⟨rb, 0, none⟩)] w (TxtOr rb c s (spW s.data.toList (f + 1) p) w) := by
  have HLN := hideB (len_is s)
  have HC := hideB (scBig_any h hs 1 (by omega) (by omega))
  have hle := h.le
  clear h
  go_enter Try.func71, Try.ntmps71
  go_wp2_with fail
  refine HC.out.mono ?_
  rintro e w1 ⟨b1, ⟨n, q, hr, rfl, hsc, _⟩ | ⟨hr, rfl, hsp⟩⟩
  rotate_left
  · obtain ⟨p', hsc⟩ := hsp
    have k2 := hsc.cells.2.2.1
    have HSC := hideB hsc
    have HB := hideB b1
    have HN : Hid (spW s.data.toList (f + 1) p = none) := by
      rw [big_one] at hr
      rw [Hid, spW, HLN.out]
      by_cases hp : s.size ≤ p
      · rw [if_pos hp]
      · rw [if_pos (by rw [HLN.out]; omega)] at hr; cases hr
    clear hr hsc b1
    go_wp2_with fail
    go_ret
    exact ⟨_, _, true, rfl, HB.out, HSC.out, .inr ⟨rfl, HN.out⟩⟩
  rw [big_one] at hr
  by_cases hp : p + 1 ≤ s.data.toList.length
  rotate_left
  · rw [if_neg hp] at hr; cases hr
  rw [if_pos hp] at hr
  simp only [Option.some.injEq, Prod.mk.injEq] at hr
  obtain ⟨rfl, rfl⟩ := hr
  have hps : p < s.size := by have := HLN.out; omega
  have hb256 := byAt_lt s.data.toList p
  have k2 := hsc.cells.2.2.1
  have f2 := hsc.free 2
  have HSC := hideB hsc
  have HB := hideB b1
  have HSW : Hid (spW s.data.toList (f + 1) p = if 160 ≤ byAt s.data.toList p ∧ byAt s.data.toList p < 192 then takeS s.data.toList (byAt s.data.toList p - 160) (p + 1)
    else if 217 ≤ byAt s.data.toList p ∧ byAt s.data.toList p ≤ 219 then match bigS s.data.toList (p + 1) (2 ^ (byAt s.data.toList p - 217)) with
      | none => none
      | some (n, q) => takeS s.data.toList n q
    else none) := by
    rw [Hid, spW, if_neg (by omega)]
    rfl
  obtain ⟨b, hb⟩ : ∃ b, byAt s.data.toList p = b := ⟨_, rfl⟩
  rw [hb] at hb256 HSW ⊢
  clear hsc b1 hb hp HC
  by_cases c1 : 160 ≤ b ∧ b < 192
  · have g1 : (160 : Int) ≤ (b : Int) := by omega
    have g2 : (b : Int) < 192 := by omega
    rw [if_pos c1] at HSW
    have HTK := hideB (stake_any (n := (b : Int) - 160) HSC.out hs (by omega) (by omega))
    go_wp2_with fail
    refine HTK.out.mono ?_
    rintro e w4 ⟨key, q4, b4, rfl, hb4, hsc4, _, hall⟩
    have HB4 := hideB (HB.out.trans hb4)
    have HS4 := hideB hsc4
    have HKO : Hid ((b4 = false ∧ spW s.data.toList (f + 1) p = some (key, q4)) ∨ (b4 = true ∧ spW s.data.toList (f + 1) p = none)) := by
      rcases hall (b - 160) (by omega) (by first | rfl | trivial) with ⟨x1, x2⟩ | ⟨x1, x2⟩
      · exact .inl ⟨x2, HSW.out.trans x1⟩
      · exact .inr ⟨x2, HSW.out.trans x1⟩
    clear hb4 hsc4 hall HTK
    go_wp2_with fail
    go_ret
    exact ⟨_, _, _, rfl, HB4.out, HS4.out, HKO.out⟩
  rw [if_neg c1] at HSW
  by_cases c2 : 217 ≤ b ∧ b ≤ 219
  · rw [if_pos c2] at HSW
    have g1 : (160 : Int) ≤ (b : Int) := by omega
    have g2 : ¬ (b : Int) < 192 := by omega
    have g3 : (217 : Int) ≤ (b : Int) := by omega
    have g4 : (b : Int) ≤ 219 := by omega
    have hpw : wrap64 (2 ^ (b - 217)) = ((2 ^ (b - 217) : Nat) : Int) ∧ 1 ≤ 2 ^ (b - 217) ∧ 2 ^ (b - 217) ≤ 8 := by
      rcases (show b - 217 = 0 ∨ b - 217 = 1 ∨ b - 217 = 2 by omega) with h | h | h <;> rw [h] <;> exact ⟨by first | decide | simp [wrap64], by decide, by decide⟩
    have HPW := hideB hpw
    have HCB := hideB (scBig_any HSC.out hs _ hpw.2.1 hpw.2.2)
    clear hpw
    go_wp2_with fail
    rw [HPW.out.1]
    refine HCB.out.mono ?_
    rintro e w2 ⟨b2, ⟨n, q, hr, rfl, hsc2, hn⟩ | ⟨hr, rfl, p2, hsc2⟩⟩
    focus
      have HSW' : Hid (spW s.data.toList (f + 1) p = takeS s.data.toList n q) := by rw [Hid, HSW.out, hr]
      have HB2 := hideB (HB.out.trans b2)
      have HS2 := hideB hsc2
      have HTK := hideB (stake_any (n := (n : Int)) HS2.out hs (by omega) (by omega))
      clear hr hsc2 b2 HSW
      go_wp2_with fail
      refine HTK.out.mono ?_
      rintro e w4 ⟨key, q4, b4, rfl, hb4, hsc4, _, hall⟩
      have HB4 := hideB (HB2.out.trans hb4)
      have HS4 := hideB hsc4
      have HKO : Hid ((b4 = false ∧ spW s.data.toList (f + 1) p = some (key, q4)) ∨ (b4 = true ∧ spW s.data.toList (f + 1) p = none)) := by
        rcases hall n (by first | rfl | trivial) (by first | rfl | trivial) with ⟨x1, x2⟩ | ⟨x1, x2⟩
        · exact .inl ⟨x2, HSW'.out.trans x1⟩
        · exact .inr ⟨x2, HSW'.out.trans x1⟩
      clear hb4 hsc4 hall HTK
      go_wp2_with fail
      go_ret
      exact ⟨_, _, _, rfl, HB4.out, HS4.out, HKO.out⟩
    focus
      have HSW' : Hid (spW s.data.toList (f + 1) p = none) := by rw [Hid, HSW.out, hr]
      have HB2 := hideB (HB.out.trans b2)
      have HS2 := hideB hsc2
      have HTK := hideB (stake_any (n := (-1 : Int)) HS2.out hs (by omega) (by omega))
      clear hr hsc2 b2 HSW
      go_wp2_with fail
      refine HTK.out.mono ?_
      rintro e w4 ⟨key, q4, b4, rfl, hb4, hsc4, hbb, _⟩
      have HB4 := hideB (HB2.out.trans hb4)
      have HS4 := hideB hsc4
      have HKO : Hid ((b4 = false ∧ spW s.data.toList (f + 1) p = some (key, q4)) ∨ (b4 = true ∧ spW s.data.toList (f + 1) p = none)) := .inr ⟨hbb (by first | rfl | trivial), HSW'.out⟩
      clear hb4 hsc4 hbb HTK
      go_wp2_with fail
      go_ret
      exact ⟨_, _, _, rfl, HB4.out, HS4.out, HKO.out⟩
  · rw [if_neg c2] at HSW
    have HS2 := hideB (HSC.out.setB true)
    have HB2 := hideB (HB.out.trans (But.of_set (rb := rb) 2 (.bool true)))
    have HC1 := hideB c1
    have HC2 := hideB c2
    clear c1 c2
    by_cases g1 : b < 160
    focus
      have g1' : ¬ (160 : Int) ≤ (b : Int) := by omega
      have g3' : ¬ (217 : Int) ≤ (b : Int) := by omega
      go_wp2_with fail
    rotate_left
    focus
      have g1' : (160 : Int) ≤ (b : Int) := by omega
      have g2' : ¬ (b : Int) < 192 := by have := HC1.out; omega
      by_cases g3 : b < 217
      focus
        have g3' : ¬ (217 : Int) ≤ (b : Int) := by omega
        go_wp2_with fail
      rotate_left
      focus
        have g3' : (217 : Int) ≤ (b : Int) := by omega
        have g4' : ¬ (b : Int) ≤ 219 := by have := HC2.out; omega
        go_wp2_with fail
    all_goals
      go_ret
      exact ⟨_, _, true, rfl, HB2.out, HS2.out, .inr ⟨rfl, HSW.out⟩⟩
end Go.Proofs.Ytokhindolimchaa

/-
  The specification's l3Rc: MessagePack's rows: too many, and lists.
-/
namespace Go.Proofs.Ytokhindolimchaa
open Go.RowKit
set_option linter.unusedSimpArgs false
set_option linter.unusedVariables false

set_option maxRecDepth 100000 in
set_option maxHeartbeats 6400000 in
theorem row4_over {rb p c many deep : Nat} {s : ByteArray} {w : World} {named : Bool} (h : ScAt w rb s p false c) (hc : c ≤ 81) (hmn : many ≤ 256000000000000255) (hd : deep ≤ 9) (ho : 80 < many ∨ 8 < deep) :
    Calls Try.prog 72 #[.pointer (some ⟨rb, 0, none⟩), .int .i64 many, .bool named, .int .i64 deep] w fun e w' => ∃ a n k, e = .returned (.slice a n k) ∧ But rb w w' ∧ Spoilt w' rb s c := by
  have hrb := h.lt
  have H := hideB h
  have f2 := h.free 2
  have c2 := h.cells.2.2.1
  clear h
  have HSA := hideB (H.out.setB true)
  have hsz : (w.setCell ⟨rb, 2, none⟩ (.bool true)).heap.size = w.heap.size := by simp
  have HBA := hideB (((Below.refl (w.setCell ⟨rb, 2, none⟩ (.bool true)).heap.size (w.setCell ⟨rb, 2, none⟩ (.bool true))).alloc (Nat.le_refl _) (.cells #[] 9)).alloc (o := .cells #[] 24) (by simp))
  have HSB := hideB (HSA.out.below HBA.out)
  have HBU := hideB ((But.of_set (rb := rb) (a := w) 2 (.bool true)).trans (But.of_below HBA.out))
  clear HSA hsz
  have o1 : ¬ (many : Int) < 0 := by omega
  by_cases o2 : 80 < many
  focus
    have o2' : (80 : Int) < (many : Int) := by omega
    go_enter Try.func72, Try.ntmps72
    go_wp2_with fail
  rotate_left
  focus
    have o2' : ¬ (80 : Int) < (many : Int) := by omega
    have o3 : (8 : Int) < (deep : Int) := by omega
    go_enter Try.func72, Try.ntmps72
    go_wp2_with fail
  all_goals
    clear HBA
    generalize ((w.setCell ⟨rb, 2, none⟩ (.bool true)).alloc (.cells #[] 9)).alloc (.cells #[] 24) = W1 at HSB HBU ⊢
    clear f2 c2
    go_loopw [9, 10, 11] (fun _ _ i wr => i = .int .i64 0 ∧ wr = W1) (fun _ _ i _ => 1)
    case atStart => exact ⟨rfl, rfl⟩
    case round =>
      obtain ⟨rfl, rfl⟩ := hrel
      have k2 := HSB.out.cells.2.2.1
      have HN := hideB (sNull_any wr)
      rcases Nat.eq_zero_or_pos many with hm | hm
      focus
        first
          | (exfalso; omega)
          | (subst hm; go_wp2_with fail)
      rotate_left
      focus
        have hm' : (0 : Int) < (many : Int) := by omega
        go_wp2_with fail
      all_goals
        refine HN.out.mono ?_
        rintro e w2 ⟨rfl, _, hb⟩
        have HB2 := hideB hb
        clear hb
        go_wp2_with fail
        go_ret
        exact ⟨_, _, _, rfl, HBU.out.trans (But.of_below HB2.out), _, HSB.out.below HB2.out⟩

set_option maxRecDepth 100000 in
set_option maxHeartbeats 6400000 in
theorem row4_list {rb p c many deep : Nat} {s : ByteArray} {w : World} {W : Nat → Option (ByteArray × Nat)} {S : Nat → Nat → Option (List VN × Nat × Nat)} (h : ScAt w rb s p false c) (h1 : 1 ≤ c) (hc : c ≤ 80) (hmn : many ≤ 80) (hd : deep ≤ 8) (HS : SpOk S)
    (hv : ∀ w q d, ScAt w rb s q false d → d ≤ 80 → p ≤ q → Calls Try.prog 37 #[.pointer (some ⟨rb, 0, none⟩), .int .i64 deep] w (ValOr rb s (S q d) w)) :
    Calls Try.prog 72 #[.pointer (some ⟨rb, 0, none⟩), .int .i64 many, .bool false, .int .i64 deep] w (ValOr rb s (spRow W S false many deep p c) w) := by
  have hrb := h.lt
  have H := hideB h
  have HV := hideB hv
  have HSS := hideB HS
  clear h hv HS
  obtain ⟨i2, hi2, hzz2, hs2, hy2⟩ := info_parts infoRowV
  have o1 : ¬ (many : Int) < 0 := by omega
  have o2 : ¬ (80 : Int) < (many : Int) := by omega
  have o3 : ¬ (8 : Int) < (deep : Int) := by omega
  go_enter Try.func72, Try.ntmps72
  go_wp2_with fail
  have hba : Below w.heap.size w ((w.alloc (.cells #[] 9)).alloc (.cells #[] 24)) := ((Below.refl _ _).alloc (Nat.le_refl _) _).alloc (by simp) _
  have HRA : Hid (((w.alloc (.cells #[] 9)).alloc (.cells #[] 24)).ownsRow w.heap.size 24 1 (.slice (some ⟨w.heap.size + 1, 0, none⟩) 0 0) 0 []) := by
    have := World.ownsRow_lit (base := w.heap.size) (e := 24) (size := 1) (w.alloc (.cells #[] 9)) #[] 0 (by simp) (by simp [maxLen]) rfl
    simpa [Hid] using this
  have HDA := hideB (H.out.below hba)
  have HBA := hideB (But.of_below (rb := rb) hba)
  have hsA : w.heap.size ≤ ((w.alloc (.cells #[] 9)).alloc (.cells #[] 24)).heap.size := by simp; omega
  have HR0 := hideB (Rows2.start HRA.out hsA (rowAt []))
  generalize (w.alloc (.cells #[] 9)).alloc (.cells #[] 24) = WA at HDA HBA hsA HR0 ⊢
  clear hba HRA
  go_loopw [9, 10, 11] (fun _ lv i wr => ∃ j : Nat, j ≤ many ∧ i = .int .i64 j ∧ But rb w wr ∧ w.heap.size ≤ wr.heap.size ∧ ((∃ (l : List (List VN)) (q d : Nat) (rs : Nat → Value) (KV IV : Nat → Nat → Value) (lo : Nat → Nat), spItems S j p c = some (l, q, d) ∧ ScAt wr rb s q false d ∧ Rows2 w.heap.size wr lv j (rowAt l) rs KV IV lo) ∨ (spItems S many p c = none ∧ ∃ d, d ≤ 81 ∧ Spoilt wr rb s d))) (fun _ _ i _ => many - (intOf i).toNat)
  case atStart => exact ⟨0, Nat.zero_le _, rfl, HBA.out, hsA, .inl ⟨[], p, c, _, _, _, _, rfl, HDA.out, HR0.out⟩⟩
  case round =>
    obtain ⟨j, hj, rfl, hbt, hzr, hor⟩ := hrel
    have HBT := hideB hbt
    clear hbt HR0 HDA HBA hsA
    rcases hor with ⟨l, q, d, rs, KV, IV, lo, hit, hsc, hrw⟩ | ⟨hno, d, hd81, hsp⟩
    rotate_left
    · have HNO : Hid (spRow W S false many deep p c = none) := spRow_list_no hmn hd hno
      obtain ⟨pp, hsp⟩ := hsp
      have k2 := hsp.cells.2.2.1
      have HSC := hideB hsp
      have HN := hideB (sNull_any wr)
      clear hno hsp
      by_cases hm : j < many
      focus
        have hm' : (j : Int) < (many : Int) := by omega
        go_wp2_with fail
      rotate_left
      focus
        have hm' : ¬ (j : Int) < (many : Int) := by omega
        go_wp2_with fail
      all_goals
        refine HN.out.mono ?_
        rintro e w2 ⟨rfl, _, hb⟩
        have HB2 := hideB hb
        clear hb
        go_wp2_with fail
        go_ret
        exact ⟨_, _, _, rfl, HBT.out.trans (But.of_below HB2.out), .inr ⟨HNO.out, d, hd81, _, HSC.out.below HB2.out⟩⟩
    have HF := hideB (items_fine HSS.out hc hit)
    have hdd : d ≤ 80 := HF.out.2.1
    have hpq : p ≤ q := HF.out.2.2.2.2
    have HIT := hideB hit
    have HSC := hideB hsc
    have k2 := hsc.cells.2.2.1
    have HR := hideB hrw
    obtain ⟨ao, co, eo⟩ := own_slice hrw.row
    subst eo
    clear hit hsc hrw
    by_cases hm : j < many
    · have hm' : (j : Int) < (many : Int) := by omega
      have HCV := hideB (HV.out wr q d HSC.out hdd hpq)
      go_wp2_with fail
      refine HCV.out.mono ?_
      rintro e w3 ⟨ar, Lk, cr, rfl, hb3, hor⟩
      have HOR := hideB hor
      have HB3 := hideB hb3
      have HFR := hideB (hb3.from hrb)
      have z3 := hb3.size
      have HRO := hideB (HR.out.from HFR.out).row
      clear hor hb3 HCV k2
      go_wp2_with (at_builtin; refine wpList_append_own_at _ rfl _ _ 123 rfl w.heap.size 24 i2 (.slice none 0 0) 1 24 Try.underlying123 hi2 hzz2 hs2 hy2 rfl (by decide) _ _ _ rfl (HRO.out.alloc _) ⟨w3.heap.size, 0, none⟩ 1 1 [.slice ar Lk cr] rfl rfl ?c1 ?c2 ?c3 ?c4 ?c5 ?_)
      case c1 => exact cell_one_new _ _ _
      case c2 => intro u hu; simp at hu; subst hu; rfl
      case c3 => unfold maxLen; omega
      case c4 => omega
      case c5 => simp; omega
      intro v' w5 hown hgrow _ _
      have hb5 : Below w.heap.size w3 w5 := ((Below.refl w.heap.size w3).alloc (by omega) _).grown hgrow (by simp; omega) (fun y hy => (HRO.out.lt y hy).1)
      have HBT5 := hideB ((HBT.out.trans HB3.out).far hb5 (Nat.le_refl _))
      have z5 := hb5.size
      have HFIN : Hid ((∃ (l : List (List VN)) (q d : Nat) (rs : Nat → Value) (KV IV : Nat → Nat → Value) (lo : Nat → Nat), spItems S (j + 1) p c = some (l, q, d) ∧ ScAt w5 rb s q false d ∧ Rows2 w.heap.size w5 v' (j + 1) (rowAt l) rs KV IV lo) ∨ (spItems S many p c = none ∧ ∃ d, d ≤ 81 ∧ Spoilt w5 rb s d)) := by
        rcases HOR.out with ⟨ns, q3, d3, KV3, IV3, hs3, hl3, hn3, hsc3⟩ | ⟨hs3, d3, hd3, hsp3⟩
        · subst hl3
          have hl := HF.out.2.2.1
          have HRC := HR.out.congr (L' := updF (rowAt l) j ns) (fun i hi => updF_other _ _ (by omega))
          have HR5 := HRC.snocF HFR.out (by rw [updF_same]; exact hn3) hown hgrow
          exact .inl ⟨l ++ [ns], q3, d3, _, _, _, _, spItems_snoc HIT.out hs3, hsc3.far hb5 hrb, HR5.congr (fun i hi => rowAt_snoc hl i hi)⟩
        · exact .inr ⟨spItems_stop HIT.out hs3 hm, d3, hd3, hsp3.far hb5 hrb⟩
      obtain ⟨a5, c5, e5⟩ := own_slice hown
      subst e5
      clear hown hgrow hb5
      go_wp2_with fail
      go_roundw
      case rel => exact ⟨j + 1, by omega, by go_num, HBT5.out, by omega, HFIN.out⟩
      case measure => simp [intOf]; omega
    · obtain rfl : j = many := by omega
      have hm' : ¬ (j : Int) < (j : Int) := by omega
      have hl := HF.out.2.2.1
      have HYES : Hid (spRow W S false j deep p c = some (makeNs 5 [] (rowAt l) j, q, d)) := by have := spRow_list_yes (W := W) hmn hd HIT.out; rw [hl] at this; exact this
      have hcat : (catNs (rowAt l) j).length + 1 ≤ 100000 := by have := HF.out.1; rw [cat_sum]; omega
      have HLL := hideB hl
      have HCL := hideB (l1Make_any wr.heap.size 5 (.slice none 0 0) (.slice ao j co) [] j (rowAt l) wr ⟨by simp, fun i hi => absurd hi (by simp), none, 0, rfl, fun h => absurd h (by simp)⟩ (HR.out.rows (by omega) (fun i hi => (HF.out.2.2.2.1 i hi).few)) (Nat.le_refl _) (by omega) (by simp) hcat (fun i hi => (HF.out.2.2.2.1 i hi).near))
      clear hl hcat
      go_wp2_with fail
      refine HCL.out.mono ?_
      rintro e w6 ⟨r, KV6, IV6, rfl, hn6, hb6⟩
      have HN6 := hideB (hn6.low hzr)
      have HB6 := hideB hb6
      obtain ⟨ar, cr, er⟩ := own_slice hn6.row
      obtain ⟨M, hM⟩ : ∃ M, (makeNs 5 [] (rowAt l) j).length = M := ⟨_, rfl⟩
      have HM := hideB hM
      rw [hM] at er
      subst er
      clear hn6 hb6 hM
      go_wp2_with fail
      go_ret
      exact ⟨_, _, _, rfl, HBT.out.trans (But.of_below HB6.out), .inl ⟨_, _, _, KV6, IV6, HYES.out, HM.out, HN6.out, HSC.out.below HB6.out⟩⟩
end Go.Proofs.Ytokhindolimchaa
