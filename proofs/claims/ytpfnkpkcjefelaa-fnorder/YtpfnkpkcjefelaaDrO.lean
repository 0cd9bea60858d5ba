/-
  The draws of FnOrder: values out of a code.
-/
import Derived.Test.YtpfnkpkcjefelaaDrM
import Derived.Test.YtpfnkpkcjefelaaDrOp
namespace Go.Proofs.Ytpfnkpkcjefelaa
open Go.RowKit
set_option linter.unusedSimpArgs false
set_option linter.unusedVariables false

set_option maxHeartbeats 800000 in
theorem drawValueOk_any (B : Nat) (v : Value) (n : Nat) (w : World) (h : CodeAt B w v n) (hB : B ≤ w.heap.size) :
    Calls Try.prog 14 #[v] w fun e w' => ∃ r vs KV IV, e = .returned r ∧ Fine 40 vs ∧ Nest w.heap.size w' r vs KV IV ∧ Below w.heap.size w w' := by
  have H := hideIt h
  obtain ⟨_, a, cap, rfl, _⟩ := h
  go_enter Try.func14, Try.ntmps14
  go_wp2_with fail
  refine (l1Open_any B _ n w H.out hB).mono ?_
  rintro e w1 ⟨rfl, hr, hb⟩
  have HR := hideIt hr
  have HB := hideIt hb
  have z1 := hb.size
  clear hr hb
  go_wp2_with fail
  refine (rdMaybe_any w.heap.size n w1 ⟨0, HR.out⟩).mono ?_
  rintro e w2 ⟨⟨r, vs, KV, IV, rfl, hf, hn⟩, hd⟩
  have HF := hideIt hf
  have HN := hideIt (hn.low z1)
  have HB2 := hideIt (HB.out.trans hd.below)
  obtain ⟨ar, cr, er⟩ := own_slice hn.row
  obtain ⟨M, hM⟩ : ∃ M, vs.length = M := ⟨_, rfl⟩
  rw [hM] at er
  subst er
  clear hf hn hd hM
  go_wp2_with fail
  go_ret
  exact ⟨_, vs, KV, IV, rfl, HF.out, HN.out, HB2.out⟩

set_option maxHeartbeats 800000 in
theorem l1Copy_any (B : Nat) (v : Value) (vs : List VN) (w : World) (h : NodesAt B w v vs) (hf : Fine 40 vs) (hB : B ≤ w.heap.size) :
    Calls Try.prog 50 #[v] w fun e w' => ∃ r us KV IV, e = .returned r ∧ Fine 40 us ∧ Nest w.heap.size w' r us KV IV ∧ Below w.heap.size w w' := by
  have H := hideIt h
  have HF := hideIt hf
  obtain ⟨_, a, cap, rfl, _⟩ := h
  have hl : vs.length ≤ 40 := hf.2.1
  go_enter Try.func50, Try.ntmps50
  go_wp2_with fail
  refine (l1Add_any w.heap.size w.heap.size (.slice none 0 0) _ [] vs (fun _ => undef) (fun _ => undef) w (Nest.nil _ _ _ _) (NodesAt.wide H.out hB) (Nat.le_refl _) (Nat.le_refl _) (by simp; omega) (HF.out.near (by omega)).2).mono ?_
  rintro e w2 ⟨r, KV, IV, rfl, hl2⟩
  have hb : Below w.heap.size w w2 := (Below.refl _ _).grown hl2.2.1 (Nat.le_refl _) (fun k hk => by simp [Value.ownBlock] at hk)
  have hn := hl2.1
  rw [List.nil_append] at hn
  have HN := hideIt hn
  have HB := hideIt hb
  have HFF : Hid (Fine 40 (vs.map (shiftN (([] : List VN).length : Int)))) := by
    rw [Hid]
    have hlm : (vs.map (shiftN (([] : List VN).length : Int))).length = vs.length := List.length_map ..
    refine ⟨by rw [hlm]; exact HF.out.1, by rw [hlm]; exact HF.out.2.1, fun j hj => ?_⟩
    rw [hlm] at hj ⊢
    rw [nodeAt_sh hj]
    exact (HF.out.2.2 j hj).shift (by simp)
  obtain ⟨ar, cr, er⟩ := own_slice hn.row
  obtain ⟨M, hM⟩ : ∃ M, (vs.map (shiftN (([] : List VN).length : Int))).length = M := ⟨_, rfl⟩
  rw [hM] at er
  subst er
  clear hl2 hn hb hM
  go_wp2_with fail
  go_ret
  exact ⟨_, _, KV, IV, rfl, HFF.out, HN.out, HB.out⟩

set_option maxHeartbeats 1600000 in
theorem drawOrder_any (B : Nat) (v : Value) (n : Nat) (w : World) (h : CodeAt B w v n) (hB : B ≤ w.heap.size) :
    Calls Try.prog 13 #[v] w fun e w' => ∃ r vs KV IV r2 us KV2 IV2, e = .returned (.tuple #[r, r2]) ∧ Fine 40 vs ∧ Fine 40 us ∧ Nest w.heap.size w' r vs KV IV ∧ Nest w.heap.size w' r2 us KV2 IV2 ∧ Below w.heap.size w w' := by
  have H := hideIt h
  obtain ⟨_, a, cap, rfl, _⟩ := h
  go_enter Try.func13, Try.ntmps13
  go_wp2_with fail
  refine (l1Open_any B _ n w H.out hB).mono ?_
  rintro e w1 ⟨rfl, hr, hb⟩
  have HR := hideIt hr
  have HB := hideIt hb
  have z1 := hb.size
  have hw1 : w.heap.size < w1.heap.size := hr.lt
  clear hr hb
  go_wp2_with fail
  refine (rdMaybe_any w.heap.size n w1 ⟨0, HR.out⟩).mono ?_
  rintro e w2 ⟨⟨r, vs, KV, IV, rfl, hf, hn⟩, hd⟩
  have HF := hideIt hf
  have HN := hideIt hn
  have HD := hideIt hd
  have z2 := hd.only.1
  obtain ⟨ar, cr, er⟩ := own_slice hn.row
  obtain ⟨M, hM⟩ : ∃ M, vs.length = M := ⟨_, rfl⟩
  rw [hM] at er
  subst er
  clear hf hn hd hM
  go_wp2_with fail
  refine (rdOnce_any w.heap.size n 5 w2 HD.out.rd (by omega) (by omega)).mono ?_
  rintro e w3 ⟨⟨b, rfl⟩, hd3⟩
  have HD3 := hideIt (HD.out.trans hd3)
  have HN3 := hideIt (HN.out.from (hd3.from hw1))
  have z3 := hd3.only.1
  clear hd3 HN
  cases b
  · go_wp2_with fail
    refine (rdMaybe_any w.heap.size n w3 HD3.out.rd).mono ?_
    rintro e w4 ⟨⟨r4, us, KV4, IV4, rfl, hf4, hn4⟩, hd4⟩
    have HF4 := hideIt hf4
    have HN4 := hideIt (hn4.low (show w.heap.size ≤ w3.heap.size by omega))
    have HN5 := hideIt ((HN3.out.from (hd4.from hw1)).low z1)
    have HB4 := hideIt (HB.out.trans (HD3.out.trans hd4).below)
    obtain ⟨a4, c4, e4⟩ := own_slice hn4.row
    obtain ⟨M4, hM4⟩ : ∃ M4, us.length = M4 := ⟨_, rfl⟩
    rw [hM4] at e4
    subst e4
    clear hf4 hn4 hd4 hM4
    go_wp2_with fail
    go_ret2
    exact ⟨_, vs, KV, IV, _, us, KV4, IV4, rfl, HF.out, HF4.out, HN5.out, HN4.out, HB4.out⟩
  · go_wp2_with fail
    refine (l1Copy_any w3.heap.size _ vs w3 (HN3.out.nodes (by have h2 : vs.length ≤ 40 := HF.out.2.1; omega) (HF.out.few (by omega)).2) HF.out (Nat.le_refl _)).mono ?_
    rintro e w4 ⟨r4, us, KV4, IV4, rfl, hf4, hn4, hb4⟩
    have HF4 := hideIt hf4
    have HN4 := hideIt (hn4.low (show w.heap.size ≤ w3.heap.size by omega))
    have HN5 := hideIt ((HN3.out.below hb4).low z1)
    have HB4 := hideIt ((HB.out.trans HD3.out.below).trans (hb4.mono (by omega)))
    obtain ⟨a4, c4, e4⟩ := own_slice hn4.row
    obtain ⟨M4, hM4⟩ : ∃ M4, us.length = M4 := ⟨_, rfl⟩
    rw [hM4] at e4
    subst e4
    clear hf4 hn4 hb4 hM4
    go_wp2_with fail
    go_ret2
    exact ⟨_, vs, KV, IV, _, us, KV4, IV4, rfl, HF.out, HF4.out, HN5.out, HN4.out, HB4.out⟩
end Go.Proofs.Ytpfnkpkcjefelaa
