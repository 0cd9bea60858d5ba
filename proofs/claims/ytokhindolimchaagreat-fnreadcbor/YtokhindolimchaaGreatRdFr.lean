/-
  What reading a number, a word, a row answers.
-/
import Derived.Test.YtokhindolimchaaGreatRdJ
import Derived.Test.YtokhindolimchaaGreatCbM
import Derived.Test.YtokhindolimchaaGreatNmT
import Derived.Test.YtokhindolimchaaGreatRdF
import Derived.Test.YtokhindolimchaaGreatMapP
namespace Go.Proofs.YtokhindolimchaaGreat
open Go.RowKit
set_option linter.unusedSimpArgs false
set_option linter.unusedVariables false

/-- What reading a head's number answers. -/
def NumOr (r : Option (Nat × Nat)) (rb : Nat) (s : ByteArray) (w : World) (e : Ending) (w' : World) : Prop :=
  ((∃ n q, r = some (n, q) ∧ e = .returned (.int .i64 n) ∧ BrAt w' rb s q ∧ n ≤ 1000000000000000) ∨ (r = none ∧ e = gup)) ∧ But rb w w'
theorem word_size {L : List UInt8} {n p : Nat} {t : VT} {q : Nat} {z : ByteArray} (h : wordI L n p = some (t, q)) (hz : textOf t = some z) : z.size ≤ L.length := by
  unfold wordI at h
  split at h
  · rename_i hn
    simp only [Option.some.injEq, Prod.mk.injEq] at h
    obtain ⟨rfl, _⟩ := h
    simp [textOf, wordT] at hz
    subst hz
    rw [cutT_size hn]; omega
  · cases h
theorem RowOr.read {r : Option (VT × Nat)} {f rb p p' : Nat} {s : ByteArray} {w w1 : World} {e : Ending} {w' : World} (h : RowOr r f rb s p' w1 e w') (hb : But rb w w1) (hp : p < p') : ReadOr r f rb s p w e w' := by
  rcases h with ⟨t, q, x, h1, h2, h3, h4, h5, h6⟩ | ⟨h1, h2, h3⟩
  · exact .inl ⟨t, q, x, h1, h2, h3.keep (fun b _ => rfl) (fun b hb' => ⟨Nat.le_trans hb.size hb'.1, hb'.2⟩), h4, hb.trans h5, by omega⟩
  · exact .inr ⟨h1, h2, hb.trans h3⟩
end Go.Proofs.YtokhindolimchaaGreat

/-
  The program's cborReader.read.
-/
namespace Go.Proofs.YtokhindolimchaaGreat
open Go.RowKit
set_option linter.unusedSimpArgs false
set_option linter.unusedVariables false

theorem headI_le {L : List UInt8} {p n q : Nat} (h : headI L p = some (n, q)) : p + 1 ≤ q := by
  unfold headI at h
  split at h
  · simp only [Option.some.injEq, Prod.mk.injEq] at h; omega
  · split at h
    · unfold numI at h
      split at h
      · simp only [Option.some.injEq, Prod.mk.injEq] at h; obtain ⟨_, rfl⟩ := h; exact Nat.le_add_right _ _
      · cases h
    · cases h
theorem number_any {rb p : Nat} {s : ByteArray} {w : World} (h : BrAt w rb s (p + 1)) (hs : s.size ≤ 4000) :
    Calls Tryz.prog 56 #[.pointer (some ⟨rb, 0, none⟩), .int .u8 ((byAt s.data.toList p % 32 : Nat) : Int)] w (NumOr (headI s.data.toList p) rb s w) := by
  have hlen := len_is s
  unfold NumOr headI
  by_cases h1 : byAt s.data.toList p % 32 < 24
  · rw [if_pos h1]
    refine (number_short h h1).mono ?_
    rintro e w' ⟨rfl, hw⟩
    rw [hw]
    exact ⟨.inl ⟨_, _, rfl, rfl, h, by omega⟩, But.refl _ _⟩
  · rw [if_neg h1]
    by_cases h2 : byAt s.data.toList p % 32 < 28
    · rw [if_pos h2]
      obtain ⟨k, hk⟩ : ∃ k, byAt s.data.toList p % 32 = 24 + k := ⟨byAt s.data.toList p % 32 - 24, by omega⟩
      rw [hk, show 24 + k - 24 = k by omega]
      unfold numI
      by_cases h3 : p + 1 + 2 ^ k ≤ s.size
      · refine (number_yes h hs k (by omega) h3).mono ?_
        rintro e w' ⟨⟨rfl, hb, hr⟩ | ⟨rfl, hb⟩, hbt⟩
        · rw [if_pos ⟨by omega, hb⟩]
          exact ⟨.inl ⟨_, _, rfl, rfl, hr, hb⟩, hbt⟩
        · rw [if_neg (fun hx => by have := hx.2; unfold maxI at this; omega)]
          exact ⟨.inr ⟨rfl, rfl⟩, hbt⟩
      · refine (number_cut h hs k (by omega) (by omega)).mono ?_
        rintro e w' ⟨rfl, hbt⟩
        rw [if_neg (fun hx => h3 (by have := hx.1; omega))]
        exact ⟨.inr ⟨rfl, rfl⟩, hbt⟩
    · rw [if_neg h2]
      refine (number_bad h (by omega) (by omega)).mono ?_
      rintro e w' ⟨rfl, hw⟩
      rw [hw]
      exact ⟨.inr ⟨rfl, rfl⟩, But.refl _ _⟩
theorem rdC_text (L : List UInt8) : ∀ f p t q z, rdC L f p = some (t, q) → textOf t = some z → z.size ≤ L.length := by
  intro f
  cases f with
  | zero => intro p t q z h; simp [rdC] at h
  | succ f =>
    intro p t q z h hz
    have leaf : ∀ {k n : Int} {q' : Nat}, some ((VT.mk k n ByteArray.empty [] [] : VT), q') = some (t, q) → z.size ≤ L.length := fun {k n q'} h => by
      simp only [Option.some.injEq, Prod.mk.injEq] at h
      obtain ⟨rfl, _⟩ := h
      simp only [textOf] at hz
      split at hz
      · simp only [Option.some.injEq] at hz; subst hz; exact Nat.zero_le _
      · cases hz
    rw [rdC] at h
    split at h
    · cases h
    split at h
    · exact leaf h
    split at h
    · exact leaf h
    split at h
    · exact leaf h
    split at h
    · cases h
    · unfold kindI at h
      repeat' (split at h)
      all_goals first
        | (cases h; done)
        | exact leaf h
        | exact word_size h hz
        | (rw [textOf_row h] at hz; cases hz)
theorem call_cread (v : Value) : ∀ w, (callFunc 28 #[v]).run Tryz.prog w = .ok (.enter 28 #[v]) w := fun w => by kernel_rfl
theorem u8_quo32 (c : Nat) (h : c < 256) : IntKind.u8.wrap ((c : Int) / 32) = ((c / 32 : Nat) : Int) := by rw [u8_wrap (by omega) (by omega)]; omega
theorem u8_rem32 (c : Nat) : ((c : Int)).tmod 32 = ((c % 32 : Nat) : Int) := by rw [Int.tmod_eq_emod_of_nonneg (by omega)]; omega

set_option maxRecDepth 100000 in
set_option maxHeartbeats 6400000 in
theorem cread_any (rb : Nat) (s : ByteArray) (hs : s.size ≤ 4000) : ∀ f, GAll 28 s.data.toList (rdC s.data.toList f) f rb s := by
  intro f
  induction f with
  | zero => intro p w h hf; have := h.le; omega
  | succ f ih =>
    intro p w h hf
    have H := hideIt h
    have IH := hideIt ih
    have hle := h.le
    have hlen := len_is s
    have HLN := hideIt hlen
    have HCF := hideIt (call_cread (.pointer (some ⟨rb, 0, none⟩)))
    clear ih
    by_cases hend : p = s.size
    · subst hend
      have HN := hideIt (rdC_end (L := s.data.toList) (f := f) (p := s.size) (by omega))
      clear hlen
      go_enter Tryz.func28, Tryz.ntmps28
      go_wp2_with fail
      refine (next_no H.out (by omega)).mono ?_
      rintro e w1 ⟨rfl, _, b1⟩
      unfold gup
      go_wp2_with fail
      exact ⟨rfl, .inr ⟨HN.out, rfl, b1⟩⟩
    have hp : p < s.size := by omega
    have hpl : p < s.data.toList.length := by omega
    have HNX := hideIt (next_yes h hp (by omega))
    have hby := getB hp
    rw [← hby] at HNX
    have hb256 := byAt_lt s.data.toList p
    have HRH := hideIt (rdC_head (L := s.data.toList) (f := f) hpl)
    have HR0 := hideIt (rdC_null (L := s.data.toList) (f := f) hpl)
    have HR1 := hideIt (rdC_no (L := s.data.toList) (f := f) hpl)
    have HR2 := hideIt (rdC_yes (L := s.data.toList) (f := f) hpl)
    have HNUM := hideIt (fun w (h : BrAt w rb s (p + 1)) => number_any h hs)
    have HHL := hideIt (fun n q => headI_le (L := s.data.toList) (p := p) (n := n) (q := q))
    obtain ⟨b, hb⟩ : ∃ b, byAt s.data.toList p = b := ⟨_, rfl⟩
    rw [hb] at HNX hb256 HRH HR0 HR1 HR2 HNUM
    clear hby hb h hlen
    by_cases b0 : b = 246
    · subst b0
      have HE := hideIt (HR0.out rfl)
      go_enter Tryz.func28, Tryz.ntmps28
      go_wp2_with fail
      refine HNX.out.mono ?_
      rintro e w1 ⟨rfl, h1, k1⟩
      have HH := hideIt h1
      have HK := hideIt k1
      clear h1 k1
      go_wp2_with fail
      go_ret
      exact .inl ⟨_, _, _, HE.out, rfl, (leafP f).1, HH.out, HK.out, by omega⟩
    by_cases b1 : b = 244
    · subst b1
      have HE := hideIt (HR1.out rfl)
      go_enter Tryz.func28, Tryz.ntmps28
      go_wp2_with fail
      refine HNX.out.mono ?_
      rintro e w1 ⟨rfl, h1, k1⟩
      have HH := hideIt h1
      have HK := hideIt k1
      clear h1 k1
      go_wp2_with fail
      go_ret
      exact .inl ⟨_, _, _, HE.out, rfl, (leafP f).2.1 0, HH.out, HK.out, by omega⟩
    by_cases b2 : b = 245
    · subst b2
      have HE := hideIt (HR2.out rfl)
      go_enter Tryz.func28, Tryz.ntmps28
      go_wp2_with fail
      refine HNX.out.mono ?_
      rintro e w1 ⟨rfl, h1, k1⟩
      have HH := hideIt h1
      have HK := hideIt k1
      clear h1 k1
      go_wp2_with fail
      go_ret
      exact .inl ⟨_, _, _, HE.out, rfl, (leafP f).2.1 1, HH.out, HK.out, by omega⟩
    have HE := hideIt (HRH.out (by omega))
    clear HRH HR0 HR1 HR2
    have i0 : ((b : Int) == 246) = false := by simp; omega
    have i1 : ((b : Int) == 244) = false := by simp; omega
    have i2 : ((b : Int) == 245) = false := by simp; omega
    have j0 : ¬ (b : Int) = 246 := by omega
    have j1 : ¬ (b : Int) = 244 := by omega
    have j2 : ¬ (b : Int) = 245 := by omega
    have hq1 := u8_quo32 b hb256
    have hq2 := u8_rem32 b
    go_enter Tryz.func28, Tryz.ntmps28
    go_wp2_with fail
    refine HNX.out.mono ?_
    rintro e w1 ⟨rfl, h1, k1⟩
    have HK1 := hideIt k1
    have HC := hideIt (HNUM.out w1 h1)
    clear h1 k1
    go_wp2_with fail
    refine HC.out.mono ?_
    rintro e w2 ⟨⟨n, q, hr, rfl, hbr, hn⟩ | ⟨hr, rfl⟩, hbt⟩
    rotate_left
    · have HN : Hid (rdC s.data.toList (f + 1) p = none) := by rw [Hid, HE.out, hr]
      have HK2 := hideIt (HK1.out.trans hbt)
      clear hr hbt
      unfold gup
      go_wp2_with fail
      exact ⟨rfl, .inr ⟨HN.out, rfl, HK2.out⟩⟩
    have HN : Hid (rdC s.data.toList (f + 1) p = kindI s.data.toList (rdC s.data.toList f) (b / 32) n q) := by rw [Hid, HE.out, hr]
    have hpq := HHL.out n q hr
    have HBR := hideIt hbr
    have HK2 := hideIt (HK1.out.trans hbt)
    have hqs := hbr.le
    clear hr hbr hbt HE HNUM HHL HNX HC
    obtain ⟨m, hm⟩ : ∃ m, b / 32 = m := ⟨_, rfl⟩
    rw [hm] at hq1 HN
    have hm8 : m < 8 := by omega
    have HM := hideIt hm
    clear hm
    rcases (show m = 0 ∨ m = 1 ∨ m = 2 ∨ m = 3 ∨ m = 4 ∨ m = 5 ∨ m = 6 ∨ m = 7 by omega) with rfl | rfl | rfl | rfl | rfl | rfl | rfl | rfl
    · go_wp2_with fail
      go_ret
      exact .inl ⟨_, q, _, HN.out, rfl, (leafP f).2.2.1 n, HBR.out, HK2.out, by omega⟩
    · have e1 : (-1 : Int) - (n : Int) = -1 - (n : Int) := rfl
      go_wp2_with fail
      go_ret
      exact .inl ⟨_, q, _, HN.out, rfl, (leafP f).2.2.1 _, HBR.out, HK2.out, by omega⟩
    · go_wp2_with fail
      exact ⟨rfl, .inr ⟨HN.out, rfl, HK2.out⟩⟩
    · by_cases hfit : q + n ≤ s.size
      · have HW : Hid (rdC s.data.toList (f + 1) p = some (wordT (cutT s.data.toList q n), q + n)) := by rw [Hid, HN.out]; show wordI _ _ _ = _; unfold wordI; rw [if_pos (by rw [HLN.out]; exact hfit)]
        go_wp2_with fail
        refine (take_yes HBR.out hfit (by omega)).mono ?_
        rintro e w3 ⟨rfl, h3, k3⟩
        have HB3 := hideIt h3
        have HK3 := hideIt (HK2.out.trans k3)
        clear h3 k3
        go_wp2_with fail
        go_ret
        exact .inl ⟨_, _, _, HW.out, rfl, (leafP f).2.2.2 _, HB3.out, HK3.out, by omega⟩
      · have HW : Hid (rdC s.data.toList (f + 1) p = none) := by rw [Hid, HN.out]; show wordI _ _ _ = _; unfold wordI; rw [if_neg (by rw [HLN.out]; exact hfit)]
        go_wp2_with fail
        refine (take_no HBR.out (by omega) (by omega) (by omega)).mono ?_
        rintro e w3 ⟨rfl, k3⟩
        have HK3 := hideIt (HK2.out.trans k3)
        clear k3
        unfold gup
        go_wp2_with fail
        exact ⟨rfl, .inr ⟨HW.out, rfl, HK3.out⟩⟩
    · have HC := hideIt (readItems_any 28 s.data.toList (rdC s.data.toList f) f rb s IH.out HCF.out n q w2 HBR.out (by omega) (by omega) hs)
      go_wp2_with fail
      refine HC.out.mono ?_
      intro e w3 hro
      have HRO := hideIt (hro.read (p := p) HK2.out (by omega))
      rcases hro with ⟨t, q', x, _, rfl, _⟩ | ⟨_, rfl, _⟩
      · go_wp2_with fail
        go_ret
        have := HRO.out
        rw [HN.out]
        exact this
      · unfold gup
        go_wp2_with fail
        refine ⟨rfl, ?_⟩
        have := HRO.out
        rw [HN.out]
        exact this
    · have HC := hideIt (readPairs_any 28 s.data.toList (rdC s.data.toList f) f rb s IH.out (rdC_full s.data.toList f) (fun p t q z h hz => by have := rdC_text s.data.toList f p t q z h hz; have := HLN.out; omega) HCF.out n q w2 HBR.out (by omega) (by omega) hs)
      go_wp2_with fail
      refine HC.out.mono ?_
      intro e w3 hro
      have HRO := hideIt (hro.read (p := p) HK2.out (by omega))
      rcases hro with ⟨t, q', x, _, rfl, _⟩ | ⟨_, rfl, _⟩
      · go_wp2_with fail
        go_ret
        have := HRO.out
        rw [HN.out]
        exact this
      · unfold gup
        go_wp2_with fail
        refine ⟨rfl, ?_⟩
        have := HRO.out
        rw [HN.out]
        exact this
    · go_wp2_with fail
      exact ⟨rfl, .inr ⟨HN.out, rfl, HK2.out⟩⟩
    · go_wp2_with fail
      exact ⟨rfl, .inr ⟨HN.out, rfl, HK2.out⟩⟩
end Go.Proofs.YtokhindolimchaaGreat

/-
  What turns giving up into false: unlessGivenUp at a reading that hands back a value.
-/
namespace Go.Proofs.YtokhindolimchaaGreat
open Go.RowKit
set_option linter.unusedSimpArgs false
set_option linter.unusedVariables false

theorem catchV_gave (q : Addr) (x : Bool) (w : World) (hc : w.cell? q = some (.bool x)) (hz : w.frozen? q = false) :
    CallsD Tryz.prog 89 #[.pointer (some q)] (.panicking [{ v := .iface 97 (.agg #[]), recovered := false }]) w fun e u' w' =>
      e = .returned (.tuple #[]) ∧ u' = .panicking [{ v := .iface 97 (.agg #[]), recovered := true }] ∧ w' = w.setCell q (.bool false) := by
  refine callsD_of_wpS Tryz.func89 rfl fun c₀ cs hu => ?_
  apply wpS_seq
  apply wpS_region
  simp [wpOpsS, go_sem, recoverD, hu, Tryz.ntmps89, Exit.thenS]
  refine wpS_cond (t := true) (by simp [Act.eval, Array.replicate]) ?_
  simp only [if_true]
  apply wpS_region
  simp [wpOpsS, go_sem, hc, hz, bodyPostS, results, Tryz.results89]

theorem catchV_idle (q : Addr) (w : World) :
    CallsD Tryz.prog 89 #[.pointer (some q)] .returning w fun e u' w' => e = .returned (.tuple #[]) ∧ u' = .returning ∧ w' = w := by
  refine callsD_of_wpS Tryz.func89 rfl fun c₀ cs hu => ?_
  apply wpS_seq
  apply wpS_region
  simp [wpOpsS, go_sem, recoverD, hu, Tryz.ntmps89, Exit.thenS]
  refine wpS_cond (t := false) (by simp [Act.eval, Array.replicate]) ?_
  simp only [Bool.false_eq_true, if_false]
  refine wpS_of_wp (wp_skip ?_)
  cases c₀
  simp_all [bodyPostS, results, Tryz.results89]

set_option maxRecDepth 100000 in
set_option maxHeartbeats 1600000 in
theorem unlessV_yes (G : FuncId) (x : Value) (w : World) (Z : Value → World → Prop) (hcf : ∀ w, (callFunc G #[x]).run Tryz.prog w = .ok (.enter G #[x]) w)
    (hc : Calls Tryz.prog G #[x] (w.alloc (.cells #[.bool false] 4)) fun e w' => ∃ v, e = .returned v ∧ Z v w')
    (hZ : ∀ v w', Z v w' → w'.cell? ⟨w.heap.size, 0, none⟩ = some (.bool false) ∧ w'.frozen? ⟨w.heap.size, 0, none⟩ = false) :
    Calls Tryz.prog 53 #[.func (.func G) #[x] #[]] w fun e w' => ∃ v, e = .returned (.tuple #[v, .bool true]) ∧ ∃ w1, Z v w1 ∧ w' = w1.setCell ⟨w.heap.size, 0, none⟩ (.bool true) := by
  have hmf : ∀ (fn : Fn) (first cap : Array Value) (w : World), (Instr.makeFunc fn first cap).run Tryz.prog w = .ok (.func fn first cap) w := fun _ _ _ _ => rfl
  go_enter_defers Tryz.func53, Tryz.ntmps53
  go_wp2_with fail
  refine hc.mono ?_
  rintro e w1 ⟨v, rfl, hz⟩
  obtain ⟨c1, f1⟩ := hZ v w1 hz
  go_wp2_with fail
  refine leaves_cons (f := 89) (args := #[.pointer (some ⟨w.heap.size, 0, none⟩)]) (by simp) (by simp [go_sem]) ?_
  refine (catchV_idle ⟨w.heap.size, 0, none⟩ _).mono ?_
  rintro e u' w'' ⟨rfl, rfl, rfl⟩
  have c2 : (w1.setCell ⟨w.heap.size, 0, none⟩ (.bool true)).cell? ⟨w.heap.size, 0, none⟩ = some (.bool true) := World.cell?_setCell_same _ _ _ c1
  simp [Leaves, settle, results, Tryz.results53, go_sem, c2]
  exact ⟨w1, hz, rfl⟩

set_option maxRecDepth 100000 in
set_option maxHeartbeats 1600000 in
theorem unlessV_no (G : FuncId) (x : Value) (w : World) (Z : World → Prop) (hcf : ∀ w, (callFunc G #[x]).run Tryz.prog w = .ok (.enter G #[x]) w)
    (hc : Calls Tryz.prog G #[x] (w.alloc (.cells #[.bool false] 4)) fun e w' => e = gup ∧ Z w')
    (hZ : ∀ w', Z w' → w'.cell? ⟨w.heap.size, 0, none⟩ = some (.bool false) ∧ w'.frozen? ⟨w.heap.size, 0, none⟩ = false) :
    Calls Tryz.prog 53 #[.func (.func G) #[x] #[]] w fun e w' => e = .returned (.tuple #[.nilIface, .bool false]) ∧ ∃ w1, Z w1 ∧ w' = w1.setCell ⟨w.heap.size, 0, none⟩ (.bool false) := by
  have hmf : ∀ (fn : Fn) (first cap : Array Value) (w : World), (Instr.makeFunc fn first cap).run Tryz.prog w = .ok (.func fn first cap) w := fun _ _ _ _ => rfl
  go_enter_defers Tryz.func53, Tryz.ntmps53
  go_wp2_with fail
  refine hc.mono ?_
  rintro e w1 ⟨rfl, hz⟩
  obtain ⟨c1, f1⟩ := hZ w1 hz
  unfold gup
  go_wp2_with fail
  refine leaves_cons (f := 89) (args := #[.pointer (some ⟨w.heap.size, 0, none⟩)]) (by simp) (by simp [go_sem]) ?_
  refine (catchV_gave ⟨w.heap.size, 0, none⟩ false _ c1 f1).mono ?_
  rintro e u' w'' ⟨rfl, rfl, rfl⟩
  have c2 : (w1.setCell ⟨w.heap.size, 0, none⟩ (.bool false)).cell? ⟨w.heap.size, 0, none⟩ = some (.bool false) := World.cell?_setCell_same _ _ _ c1
  simp [Leaves, settle, results, Tryz.results53, go_sem, c2]
  exact ⟨w1, hz, rfl⟩
end Go.Proofs.YtokhindolimchaaGreat

/-
  The program's readFront, over whatever reads a value.
-/
namespace Go.Proofs.YtokhindolimchaaGreat
open Go.RowKit
set_option linter.unusedSimpArgs false
set_option linter.unusedVariables false

/-- What is read of a text, and how much of it. -/
def frontV (L : List UInt8) (r : Option (VT × Nat)) : Option (List VN × Nat) := if 4000 < L.length then none else okOf (L.length + 1) r
def nsOf (r : Option (List VN × Nat)) : List VN := match r with
  | none => []
  | some (ns, _) => ns
def usedOf (r : Option (List VN × Nat)) : Nat := match r with
  | none => 0
  | some (_, q) => q

set_option maxRecDepth 100000 in
set_option maxHeartbeats 3200000 in
theorem readFront_any (G : FuncId) (R : Nat → Option (VT × Nat)) (rb : Nat) (s : ByteArray) (hG : s.size ≤ 4000 → GAll G s.data.toList R (s.size + 1) rb s) (hok : s.size ≤ 4000 → RdOk (s.size + 1) s.data.toList R) (hcf : ∀ w, (callFunc G #[.pointer (some ⟨rb, 0, none⟩)]).run Tryz.prog w = .ok (.enter G #[.pointer (some ⟨rb, 0, none⟩)]) w) (w : World) (h : BrAt w rb s 0) (hs : s.size ≤ 9223372036854775807) :
    Calls Tryz.prog 27 #[.pointer (some ⟨rb, 0, none⟩), .func (.func G) #[.pointer (some ⟨rb, 0, none⟩)] #[]] w fun e w' => ∃ r base KV IV, e = .returned (.tuple #[r, .int .i64 (usedOf (frontV s.data.toList (R 0))), .bool (frontV s.data.toList (R 0)).isSome]) ∧ w.heap.size ≤ base ∧ base ≤ w'.heap.size ∧ Nest base w' r (nsOf (frontV s.data.toList (R 0))) KV IV ∧ But rb w w' := by
  have H := hideIt h
  have hlen := len_is s
  have c0 := h.src
  have hrb := h.lt
  clear h
  by_cases hbig : 4000 < s.size
  · have hbig' : (4000 : Int) < (s.size : Int) := by omega
    have HV : Hid (frontV s.data.toList (R 0) = none) := by rw [Hid]; unfold frontV; rw [if_pos (by omega)]
    go_enter Tryz.func27, Tryz.ntmps27
    go_wp2_with fail
    refine bodyPost_ret (v := .tuple #[.slice none 0 0, .int .i64 0, .bool false]) (by simp [results, Tryz.results27, go_sem]) rfl ?_
    rw [HV.out]
    exact ⟨.slice none 0 0, w.heap.size, fun _ => undef, fun _ => undef, rfl, Nat.le_refl _, Nat.le_refl _, Nest.nil _ _ _ _, But.refl _ _⟩
  have hbig' : ¬ (4000 : Int) < (s.size : Int) := by omega
  have HG := hideIt (hG (by omega))
  have HOK := hideIt (hok (by omega))
  have HFV : Hid (frontV s.data.toList (R 0) = okOf (s.size + 1) (R 0)) := by rw [Hid]; unfold frontV; rw [if_neg (by omega), hlen]
  rw [HFV.out]
  have HBA : Hid (Below w.heap.size w (w.alloc (.cells #[.bool false] 4))) := (Below.refl _ _).alloc (Nat.le_refl _) _
  have HC := hideIt (HG.out 0 _ (H.out.below HBA.out) (by omega))
  have HLEN := hideIt hlen
  clear hG hok hlen
  have hz1 : (w.alloc (.cells #[.bool false] 4)).heap.size = w.heap.size + 1 := by simp
  have HKEEP : Hid (∀ w', But rb (w.alloc (.cells #[.bool false] 4)) w' → w'.cell? ⟨w.heap.size, 0, none⟩ = some (.bool false) ∧ w'.frozen? ⟨w.heap.size, 0, none⟩ = false) := fun w' hb => by
    have hh := (hb.block w.heap.size (by rw [hz1]; omega) (by omega)).trans (heap_alloc_new w (.cells #[.bool false] 4))
    exact ⟨by rw [Lib.cell_of_heap hh]; rfl, Lib.frozen_of_heap hh 0⟩
  cases hr : R 0 with
  | none =>
    have HO : Hid (okOf (s.size + 1) (none : Option (VT × Nat)) = none) := rfl
    rw [hr] at HC
    have hcn : Calls Tryz.prog G #[.pointer (some ⟨rb, 0, none⟩)] (w.alloc (.cells #[.bool false] 4)) fun e w' => e = gup ∧ But rb (w.alloc (.cells #[.bool false] 4)) w' := HC.out.mono (by
      rintro e w' (⟨t, q, x, h1, _⟩ | ⟨_, h2, h3⟩)
      · cases h1
      · exact ⟨h2, h3⟩)
    have HU := hideIt (unlessV_no G (.pointer (some ⟨rb, 0, none⟩)) w _ hcf hcn HKEEP.out)
    clear hcn HC
    go_enter Tryz.func27, Tryz.ntmps27
    go_wp2_with fail
    refine HU.out.mono ?_
    rintro e w1 ⟨rfl, w9, hb9, rfl⟩
    have HB1 : Hid (But rb w (w9.setCell ⟨w.heap.size, 0, none⟩ (.bool false))) := by
      have h1 := (But.of_below (rb := rb) HBA.out).trans hb9
      exact ⟨h1.os, h1.tape, h1.output, by simpa using h1.size, fun c hc hn => (Below.heap_setCell _ _ _ _ (by show c ≠ w.heap.size; omega)).trans (h1.block c hc hn)⟩
    clear hb9
    generalize w9.setCell ⟨w.heap.size, 0, none⟩ (.bool false) = w1 at HB1 ⊢
    go_wp2_with fail
    refine bodyPost_ret (v := .tuple #[.slice none 0 0, .int .i64 0, .bool false]) (by simp [results, Tryz.results27, go_sem]) rfl ?_
    rw [HO.out]
    exact ⟨.slice none 0 0, w.heap.size, fun _ => undef, fun _ => undef, rfl, Nat.le_refl _, HB1.out.size, Nest.nil _ _ _ _, HB1.out⟩
  | some tq =>
    obtain ⟨t, q⟩ := tq
    obtain ⟨hq1, hq2, hq3, hq4, _⟩ := HOK.out 0 t q hr
    have hqs : q ≤ 4000 := by have := HLEN.out; omega
    have hnn : (layT (s.size + 1) t 0).length ≤ 4000 := by omega
    have HFT := hideIt (fits_lay hq4 0 (by omega))
    rw [hr] at HC
    obtain ⟨ns, hns⟩ : ∃ ns, layT (s.size + 1) t 0 = ns := ⟨_, rfl⟩
    have HO : Hid (okOf (s.size + 1) (some (t, q)) = if okB ns = true then some (ns, q) else none) := by rw [Hid, ← hns]; rfl
    rw [hns] at hnn HFT
    have HNS := hideIt hns
    clear hq3 hq4 hns
    have hcy : Calls Tryz.prog G #[.pointer (some ⟨rb, 0, none⟩)] (w.alloc (.cells #[.bool false] 4)) fun e w' => ∃ x, e = .returned x ∧ TreeP (NewB (w.alloc (.cells #[.bool false] 4)) w') w' (s.size + 1) t x ∧ BrAt w' rb s q ∧ But rb (w.alloc (.cells #[.bool false] 4)) w' := HC.out.mono (by
      rintro e w' (⟨t', q', x, h1, h2, h3, h4, h5, _⟩ | ⟨h1, _⟩)
      · simp only [Option.some.injEq, Prod.mk.injEq] at h1
        obtain ⟨rfl, rfl⟩ := h1
        exact ⟨x, h2, h3, h4, h5⟩
      · cases h1)
    clear HC
    have HU := hideIt (unlessV_yes G (.pointer (some ⟨rb, 0, none⟩)) w (fun x w' => TreeP (NewB (w.alloc (.cells #[.bool false] 4)) w') w' (s.size + 1) t x ∧ BrAt w' rb s q ∧ But rb (w.alloc (.cells #[.bool false] 4)) w') hcf hcy (fun x w' hz => HKEEP.out w' hz.2.2))
    clear hcy
    go_enter Tryz.func27, Tryz.ntmps27
    go_wp2_with fail
    refine HU.out.mono ?_
    rintro e w1 ⟨x, rfl, w9, ⟨htr, hbr9, hb9⟩, rfl⟩
    have HB1 : Hid (But rb w (w9.setCell ⟨w.heap.size, 0, none⟩ (.bool true))) := by
      have h1 := (But.of_below (rb := rb) HBA.out).trans hb9
      exact ⟨h1.os, h1.tape, h1.output, by simpa using h1.size, fun c hc hn => (Below.heap_setCell _ _ _ _ (by show c ≠ w.heap.size; omega)).trans (h1.block c hc hn)⟩
    have HT1 : Hid (TreeAt (w9.setCell ⟨w.heap.size, 0, none⟩ (.bool true)).heap.size (w9.setCell ⟨w.heap.size, 0, none⟩ (.bool true)) (s.size + 1) t x) :=
      (htr.keep (P' := fun b => b < (w9.setCell ⟨w.heap.size, 0, none⟩ (.bool true)).heap.size) (fun b hb' => Below.heap_setCell _ _ _ _ (by show b ≠ w.heap.size; have := hb'.1; omega)) (fun b hb' => by simpa using hb'.2)).at (fun b hb' => hb')
    have HR1 : Hid (BrAt (w9.setCell ⟨w.heap.size, 0, none⟩ (.bool true)) rb s q) := hbr9.keep (Below.heap_setCell _ _ _ _ (by show rb ≠ w.heap.size; omega)) (by simp)
    clear htr hbr9 hb9
    generalize w9.setCell ⟨w.heap.size, 0, none⟩ (.bool true) = w1 at HB1 HT1 HR1 ⊢
    obtain ⟨ty, xx, rfl⟩ := HT1.out.iface
    have z1 := HB1.out.size
    have HRN := hideIt (rightNodes_any (s.size + 1) t _ ns w1 HT1.out HNS.out (by omega) HFT.out)
    go_wp2_with fail
    refine HRN.out.mono ?_
    rintro e w2 ⟨r, base, KV, IV, rfl, hb1, hb2, hn2, hbl2⟩
    have HR2 := hideIt (HR1.out.below hbl2)
    have c2 := HR2.out.place
    have HB2 := hideIt (HB1.out.next (hbl2.mono z1))
    have HN2 := hideIt hn2
    obtain ⟨ar, cr, er⟩ := own_slice hn2.row
    obtain ⟨M, hM⟩ : ∃ M, (rightNs ns).length = M := ⟨_, rfl⟩
    rw [hM] at er
    subst er
    clear hn2 hbl2 hM
    cases hok : okB ns
    · have HRN : Hid (rightNs ns = []) := by rw [Hid]; unfold rightNs; rw [hok]; rfl
      rw [hok] at HO
      go_wp2_with fail
      refine bodyPost_ret (v := .tuple #[.slice none 0 0, .int .i64 0, .bool false]) (by simp [results, Tryz.results27, go_sem]) rfl ?_
      rw [HO.out]
      exact ⟨.slice none 0 0, w2.heap.size, fun _ => undef, fun _ => undef, rfl, HB2.out.size, Nat.le_refl _, Nest.nil _ _ _ _, HB2.out⟩
    · have HRN : Hid (rightNs ns = ns) := by rw [Hid]; unfold rightNs; rw [hok]; rfl
      rw [hok] at HO
      rw [HRN.out] at HN2
      go_wp2_with fail
      go_quiet (fail)
      have HB3 := hideIt (HB2.out.trans (But.of_below (below_drewB (w := w2) nq)))
      have HN3 := hideIt (HN2.out.below (below_drewB (w := w2) nq))
      have hb3 : base ≤ (w2.drewN nq).heap.size := hb2
      generalize w2.drewN nq = w3 at HB3 HN3 hb3 ⊢
      go_wp2_with fail
      refine bodyPost_ret (v := .tuple #[.slice ar M cr, .int .i64 q, .bool true]) (by simp [results, Tryz.results27, go_sem]) rfl ?_
      rw [HO.out]
      exact ⟨.slice ar M cr, base, KV, IV, rfl, Nat.le_trans z1 hb1, hb3, HN3.out, HB3.out⟩
end Go.Proofs.YtokhindolimchaaGreat
