/-
  The program's cborReader.read.
-/
import Derived.Test.YtokhindolimchaaCbM
import Derived.Test.YtokhindolimchaaRdJ
import Derived.Test.YtokhindolimchaaRdM
import Derived.Test.YtokhindolimchaaCbR
namespace Go.Proofs.Ytokhindolimchaa
open Go.RowKit
set_option linter.unusedSimpArgs false
set_option linter.unusedVariables false

/-- What reading a head's number answers. -/
def NumOr (r : Option (Nat × Nat)) (rb : Nat) (s : ByteArray) (w : World) (e : Ending) (w' : World) : Prop :=
  ((∃ n q, r = some (n, q) ∧ e = .returned (.int .i64 n) ∧ BrAt w' rb s q ∧ n ≤ 1000000000000000) ∨ (r = none ∧ e = gup)) ∧ But rb w w'
theorem headI_le {L : List UInt8} {p n q : Nat} (h : headI L p = some (n, q)) : p + 1 ≤ q := by
  unfold headI at h
  split at h
  · simp only [Option.some.injEq, Prod.mk.injEq] at h; omega
  · split at h
    · unfold numI at h
      split at h
      · simp only [Option.some.injEq, Prod.mk.injEq] at h; obtain ⟨_, rfl⟩ := h; exact Nat.le_add_right _ _
      · cases h
    · cases h
theorem number_any {rb p : Nat} {s : ByteArray} {w : World} (h : BrAt w rb s (p + 1)) (hs : s.size ≤ 4000) :
    Calls Try.prog 58 #[.pointer (some ⟨rb, 0, none⟩), .int .u8 ((byAt s.data.toList p % 32 : Nat) : Int)] w (NumOr (headI s.data.toList p) rb s w) := by
  have hlen := len_is s
  unfold NumOr headI
  by_cases h1 : byAt s.data.toList p % 32 < 24
  · rw [if_pos h1]
    refine (number_short h h1).mono ?_
    rintro e w' ⟨rfl, hw⟩
    rw [hw]
    exact ⟨.inl ⟨_, _, rfl, rfl, h, by omega⟩, But.refl _ _⟩
  · rw [if_neg h1]
    by_cases h2 : byAt s.data.toList p % 32 < 28
    · rw [if_pos h2]
      obtain ⟨k, hk⟩ : ∃ k, byAt s.data.toList p % 32 = 24 + k := ⟨byAt s.data.toList p % 32 - 24, by omega⟩
      rw [hk, show 24 + k - 24 = k by omega]
      unfold numI
      by_cases h3 : p + 1 + 2 ^ k ≤ s.size
      · refine (number_yes h hs k (by omega) h3).mono ?_
        rintro e w' ⟨⟨rfl, hb, hr⟩ | ⟨rfl, hb⟩, hbt⟩
        · rw [if_pos ⟨by omega, hb⟩]
          exact ⟨.inl ⟨_, _, rfl, rfl, hr, hb⟩, hbt⟩
        · rw [if_neg (fun hx => by have := hx.2; unfold maxI at this; omega)]
          exact ⟨.inr ⟨rfl, rfl⟩, hbt⟩
      · refine (number_cut h hs k (by omega) (by omega)).mono ?_
        rintro e w' ⟨rfl, hbt⟩
        rw [if_neg (fun hx => h3 (by have := hx.1; omega))]
        exact ⟨.inr ⟨rfl, rfl⟩, hbt⟩
    · rw [if_neg h2]
      refine (number_bad h (by omega) (by omega)).mono ?_
      rintro e w' ⟨rfl, hw⟩
      rw [hw]
      exact ⟨.inr ⟨rfl, rfl⟩, But.refl _ _⟩
theorem word_size {L : List UInt8} {n p : Nat} {t : VT} {q : Nat} {z : ByteArray} (h : wordI L n p = some (t, q)) (hz : textOf t = some z) : z.size ≤ L.length := by
  unfold wordI at h
  split at h
  · rename_i hn
    simp only [Option.some.injEq, Prod.mk.injEq] at h
    obtain ⟨rfl, _⟩ := h
    simp [textOf, wordT] at hz
    subst hz
    rw [cutT_size hn]; omega
  · cases h
theorem rdC_text (L : List UInt8) : ∀ f p t q z, rdC L f p = some (t, q) → textOf t = some z → z.size ≤ L.length := by
  intro f
  cases f with
  | zero => intro p t q z h; simp [rdC] at h
  | succ f =>
    intro p t q z h hz
    have leaf : ∀ {k n : Int} {q' : Nat}, some ((VT.mk k n ByteArray.empty [] [] : VT), q') = some (t, q) → z.size ≤ L.length := fun {k n q'} h => by
      simp only [Option.some.injEq, Prod.mk.injEq] at h
      obtain ⟨rfl, _⟩ := h
      simp only [textOf] at hz
      split at hz
      · simp only [Option.some.injEq] at hz; subst hz; exact Nat.zero_le _
      · cases hz
    rw [rdC] at h
    split at h
    · cases h
    split at h
    · exact leaf h
    split at h
    · exact leaf h
    split at h
    · exact leaf h
    split at h
    · cases h
    · unfold kindI at h
      repeat' (split at h)
      all_goals first
        | (cases h; done)
        | exact leaf h
        | exact word_size h hz
        | (rw [textOf_row h] at hz; cases hz)
theorem RowOr.read {r : Option (VT × Nat)} {f rb p p' : Nat} {s : ByteArray} {w w1 : World} {e : Ending} {w' : World} (h : RowOr r f rb s p' w1 e w') (hb : But rb w w1) (hp : p < p') : ReadOr r f rb s p w e w' := by
  rcases h with ⟨t, q, x, h1, h2, h3, h4, h5, h6⟩ | ⟨h1, h2, h3⟩
  · exact .inl ⟨t, q, x, h1, h2, h3.keep (fun b _ => rfl) (fun b hb' => ⟨Nat.le_trans hb.size hb'.1, hb'.2⟩), h4, hb.trans h5, by omega⟩
  · exact .inr ⟨h1, h2, hb.trans h3⟩
theorem call_cread (v : Value) : ∀ w, (callFunc 29 #[v]).run Try.prog w = .ok (.enter 29 #[v]) w := fun w => by kernel_rfl
theorem u8_quo32 (c : Nat) (h : c < 256) : IntKind.u8.wrap ((c : Int) / 32) = ((c / 32 : Nat) : Int) := by rw [u8_wrap (by omega) (by omega)]; omega
theorem u8_rem32 (c : Nat) : ((c : Int)).tmod 32 = ((c % 32 : Nat) : Int) := by rw [Int.tmod_eq_emod_of_nonneg (by omega)]; omega

set_option maxRecDepth 100000 in
set_option maxHeartbeats 6400000 in
theorem cread_any (rb : Nat) (s : ByteArray) (hs : s.size ≤ 4000) : ∀ f, GAll 29 s.data.toList (rdC s.data.toList f) f rb s := by
  intro f
  induction f with
  | zero => intro p w h hf; have := h.le; omega
  | succ f ih =>
    intro p w h hf
    have H := hideIt h
    have IH := hideIt ih
    have hle := h.le
    have hlen := len_is s
    have HLN := hideIt hlen
    have HCF := hideIt (call_cread (.pointer (some ⟨rb, 0, none⟩)))
    clear ih
    by_cases hend : p = s.size
    · subst hend
      have HN := hideIt (rdC_end (L := s.data.toList) (f := f) (p := s.size) (by omega))
      clear hlen
      go_enter Try.func29, Try.ntmps29
      go_wp2_with fail
      refine (next_no H.out (by omega)).mono ?_
      rintro e w1 ⟨rfl, _, b1⟩
      unfold gup
      go_wp2_with fail
      exact ⟨rfl, .inr ⟨HN.out, rfl, b1⟩⟩
    have hp : p < s.size := by omega
    have hpl : p < s.data.toList.length := by omega
    have HNX := hideIt (next_yes h hp (by omega))
    have hby := getB hp
    rw [← hby] at HNX
    have hb256 := byAt_lt s.data.toList p
    have HRH := hideIt (rdC_head (L := s.data.toList) (f := f) hpl)
    have HR0 := hideIt (rdC_null (L := s.data.toList) (f := f) hpl)
    have HR1 := hideIt (rdC_no (L := s.data.toList) (f := f) hpl)
    have HR2 := hideIt (rdC_yes (L := s.data.toList) (f := f) hpl)
    have HNUM := hideIt (fun w (h : BrAt w rb s (p + 1)) => number_any h hs)
    have HHL := hideIt (fun n q => headI_le (L := s.data.toList) (p := p) (n := n) (q := q))
    obtain ⟨b, hb⟩ : ∃ b, byAt s.data.toList p = b := ⟨_, rfl⟩
    rw [hb] at HNX hb256 HRH HR0 HR1 HR2 HNUM
    clear hby hb h hlen
    by_cases b0 : b = 246
    · subst b0
      have HE := hideIt (HR0.out rfl)
      go_enter Try.func29, Try.ntmps29
      go_wp2_with fail
      refine HNX.out.mono ?_
      rintro e w1 ⟨rfl, h1, k1⟩
      have HH := hideIt h1
      have HK := hideIt k1
      clear h1 k1
      go_wp2_with fail
      go_ret
      exact .inl ⟨_, _, _, HE.out, rfl, (leafP f).1, HH.out, HK.out, by omega⟩
    by_cases b1 : b = 244
    · subst b1
      have HE := hideIt (HR1.out rfl)
      go_enter Try.func29, Try.ntmps29
      go_wp2_with fail
      refine HNX.out.mono ?_
      rintro e w1 ⟨rfl, h1, k1⟩
      have HH := hideIt h1
      have HK := hideIt k1
      clear h1 k1
      go_wp2_with fail
      go_ret
      exact .inl ⟨_, _, _, HE.out, rfl, (leafP f).2.1 0, HH.out, HK.out, by omega⟩
    by_cases b2 : b = 245
    · subst b2
      have HE := hideIt (HR2.out rfl)
      go_enter Try.func29, Try.ntmps29
      go_wp2_with fail
      refine HNX.out.mono ?_
      rintro e w1 ⟨rfl, h1, k1⟩
      have HH := hideIt h1
      have HK := hideIt k1
      clear h1 k1
      go_wp2_with fail
      go_ret
      exact .inl ⟨_, _, _, HE.out, rfl, (leafP f).2.1 1, HH.out, HK.out, by omega⟩
    have HE := hideIt (HRH.out (by omega))
    clear HRH HR0 HR1 HR2
    have i0 : ((b : Int) == 246) = false := by simp; omega
    have i1 : ((b : Int) == 244) = false := by simp; omega
    have i2 : ((b : Int) == 245) = false := by simp; omega
    have j0 : ¬ (b : Int) = 246 := by omega
    have j1 : ¬ (b : Int) = 244 := by omega
    have j2 : ¬ (b : Int) = 245 := by omega
    have hq1 := u8_quo32 b hb256
    have hq2 := u8_rem32 b
    go_enter Try.func29, Try.ntmps29
    go_wp2_with fail
    refine HNX.out.mono ?_
    rintro e w1 ⟨rfl, h1, k1⟩
    have HK1 := hideIt k1
    have HC := hideIt (HNUM.out w1 h1)
    clear h1 k1
    go_wp2_with fail
    refine HC.out.mono ?_
    rintro e w2 ⟨⟨n, q, hr, rfl, hbr, hn⟩ | ⟨hr, rfl⟩, hbt⟩
    rotate_left
    · have HN : Hid (rdC s.data.toList (f + 1) p = none) := by rw [Hid, HE.out, hr]
      have HK2 := hideIt (HK1.out.trans hbt)
      clear hr hbt
      unfold gup
      go_wp2_with fail
      exact ⟨rfl, .inr ⟨HN.out, rfl, HK2.out⟩⟩
    have HN : Hid (rdC s.data.toList (f + 1) p = kindI s.data.toList (rdC s.data.toList f) (b / 32) n q) := by rw [Hid, HE.out, hr]
    have hpq := HHL.out n q hr
    have HBR := hideIt hbr
    have HK2 := hideIt (HK1.out.trans hbt)
    have hqs := hbr.le
    clear hr hbr hbt HE HNUM HHL HNX HC
    obtain ⟨m, hm⟩ : ∃ m, b / 32 = m := ⟨_, rfl⟩
    rw [hm] at hq1 HN
    have hm8 : m < 8 := by omega
    have HM := hideIt hm
    clear hm
    rcases (show m = 0 ∨ m = 1 ∨ m = 2 ∨ m = 3 ∨ m = 4 ∨ m = 5 ∨ m = 6 ∨ m = 7 by omega) with rfl | rfl | rfl | rfl | rfl | rfl | rfl | rfl
    · go_wp2_with fail
      go_ret
      exact .inl ⟨_, q, _, HN.out, rfl, (leafP f).2.2.1 n, HBR.out, HK2.out, by omega⟩
    · have e1 : (-1 : Int) - (n : Int) = -1 - (n : Int) := rfl
      go_wp2_with fail
      go_ret
      exact .inl ⟨_, q, _, HN.out, rfl, (leafP f).2.2.1 _, HBR.out, HK2.out, by omega⟩
    · go_wp2_with fail
      exact ⟨rfl, .inr ⟨HN.out, rfl, HK2.out⟩⟩
    · by_cases hfit : q + n ≤ s.size
      · have HW : Hid (rdC s.data.toList (f + 1) p = some (wordT (cutT s.data.toList q n), q + n)) := by rw [Hid, HN.out]; show wordI _ _ _ = _; unfold wordI; rw [if_pos (by rw [HLN.out]; exact hfit)]
        go_wp2_with fail
        refine (take_yes HBR.out hfit (by omega)).mono ?_
        rintro e w3 ⟨rfl, h3, k3⟩
        have HB3 := hideIt h3
        have HK3 := hideIt (HK2.out.trans k3)
        clear h3 k3
        go_wp2_with fail
        go_ret
        exact .inl ⟨_, _, _, HW.out, rfl, (leafP f).2.2.2 _, HB3.out, HK3.out, by omega⟩
      · have HW : Hid (rdC s.data.toList (f + 1) p = none) := by rw [Hid, HN.out]; show wordI _ _ _ = _; unfold wordI; rw [if_neg (by rw [HLN.out]; exact hfit)]
        go_wp2_with fail
        refine (take_no HBR.out (by omega) (by omega) (by omega)).mono ?_
        rintro e w3 ⟨rfl, k3⟩
        have HK3 := hideIt (HK2.out.trans k3)
        clear k3
        unfold gup
        go_wp2_with fail
        exact ⟨rfl, .inr ⟨HW.out, rfl, HK3.out⟩⟩
    · have HC := hideIt (readItems_any 29 s.data.toList (rdC s.data.toList f) f rb s IH.out HCF.out n q w2 HBR.out (by omega) (by omega) hs)
      go_wp2_with fail
      refine HC.out.mono ?_
      intro e w3 hro
      have HRO := hideIt (hro.read (p := p) HK2.out (by omega))
      rcases hro with ⟨t, q', x, _, rfl, _⟩ | ⟨_, rfl, _⟩
      · go_wp2_with fail
        go_ret
        have := HRO.out
        rw [HN.out]
        exact this
      · unfold gup
        go_wp2_with fail
        refine ⟨rfl, ?_⟩
        have := HRO.out
        rw [HN.out]
        exact this
    · have HC := hideIt (readPairs_any 29 s.data.toList (rdC s.data.toList f) f rb s IH.out (rdC_full s.data.toList f) (fun p t q z h hz => by have := rdC_text s.data.toList f p t q z h hz; have := HLN.out; omega) HCF.out n q w2 HBR.out (by omega) (by omega) hs)
      go_wp2_with fail
      refine HC.out.mono ?_
      intro e w3 hro
      have HRO := hideIt (hro.read (p := p) HK2.out (by omega))
      rcases hro with ⟨t, q', x, _, rfl, _⟩ | ⟨_, rfl, _⟩
      · go_wp2_with fail
        go_ret
        have := HRO.out
        rw [HN.out]
        exact this
      · unfold gup
        go_wp2_with fail
        refine ⟨rfl, ?_⟩
        have := HRO.out
        rw [HN.out]
        exact this
    · go_wp2_with fail
      exact ⟨rfl, .inr ⟨HN.out, rfl, HK2.out⟩⟩
    · go_wp2_with fail
      exact ⟨rfl, .inr ⟨HN.out, rfl, HK2.out⟩⟩
end Go.Proofs.Ytokhindolimchaa

/-
  What turns giving up into false: unlessGivenUp at a reading that hands back a value.
-/
namespace Go.Proofs.Ytokhindolimchaa
open Go.RowKit
set_option linter.unusedSimpArgs false
set_option linter.unusedVariables false

theorem catchV_gave (q : Addr) (x : Bool) (w : World) (hc : w.cell? q = some (.bool x)) (hz : w.frozen? q = false) :
    CallsD Try.prog 93 #[.pointer (some q)] (.panicking [{ v := .iface 109 (.agg #[]), recovered := false }]) w fun e u' w' =>
      e = .returned (.tuple #[]) ∧ u' = .panicking [{ v := .iface 109 (.agg #[]), recovered := true }] ∧ w' = w.setCell q (.bool false) := by
  refine callsD_of_wpS Try.func93 rfl fun c₀ cs hu => ?_
  apply wpS_seq
  apply wpS_region
  simp [wpOpsS, go_sem, recoverD, hu, Try.ntmps93, Exit.thenS]
  refine wpS_cond (t := true) (by simp [Act.eval, Array.replicate]) ?_
  simp only [if_true]
  apply wpS_region
  simp [wpOpsS, go_sem, hc, hz, bodyPostS, results, Try.results93]

theorem catchV_idle (q : Addr) (w : World) :
    CallsD Try.prog 93 #[.pointer (some q)] .returning w fun e u' w' => e = .returned (.tuple #[]) ∧ u' = .returning ∧ w' = w := by
  refine callsD_of_wpS Try.func93 rfl fun c₀ cs hu => ?_
  apply wpS_seq
  apply wpS_region
  simp [wpOpsS, go_sem, recoverD, hu, Try.ntmps93, Exit.thenS]
  refine wpS_cond (t := false) (by simp [Act.eval, Array.replicate]) ?_
  simp only [Bool.false_eq_true, if_false]
  refine wpS_of_wp (wp_skip ?_)
  cases c₀
  simp_all [bodyPostS, results, Try.results93]

set_option maxRecDepth 100000 in
set_option maxHeartbeats 1600000 in
theorem unlessV_yes (G : FuncId) (x : Value) (w : World) (Z : Value → World → Prop) (hcf : ∀ w, (callFunc G #[x]).run Try.prog w = .ok (.enter G #[x]) w)
    (hc : Calls Try.prog G #[x] (w.alloc (.cells #[.bool false] 4)) fun e w' => ∃ v, e = .returned v ∧ Z v w')
    (hZ : ∀ v w', Z v w' → w'.cell? ⟨w.heap.size, 0, none⟩ = some (.bool false) ∧ w'.frozen? ⟨w.heap.size, 0, none⟩ = false) :
    Calls Try.prog 55 #[.func (.func G) #[x] #[]] w fun e w' => ∃ v, e = .returned (.tuple #[v, .bool true]) ∧ ∃ w1, Z v w1 ∧ w' = w1.setCell ⟨w.heap.size, 0, none⟩ (.bool true) := by
  have hmf : ∀ (fn : Fn) (first cap : Array Value) (w : World), (Instr.makeFunc fn first cap).run Try.prog w = .ok (.func fn first cap) w := fun _ _ _ _ => rfl
  go_enter_defers Try.func55, Try.ntmps55
  go_wp2_with fail
  refine hc.mono ?_
  rintro e w1 ⟨v, rfl, hz⟩
  obtain ⟨c1, f1⟩ := hZ v w1 hz
  go_wp2_with fail
  refine leaves_cons (f := 93) (args := #[.pointer (some ⟨w.heap.size, 0, none⟩)]) (by simp) (by simp [go_sem]) ?_
  refine (catchV_idle ⟨w.heap.size, 0, none⟩ _).mono ?_
  rintro e u' w'' ⟨rfl, rfl, rfl⟩
  have c2 : (w1.setCell ⟨w.heap.size, 0, none⟩ (.bool true)).cell? ⟨w.heap.size, 0, none⟩ = some (.bool true) := World.cell?_setCell_same _ _ _ c1
  simp [Leaves, settle, results, Try.results55, go_sem, c2]
  exact ⟨w1, hz, rfl⟩

set_option maxRecDepth 100000 in
set_option maxHeartbeats 1600000 in
theorem unlessV_no (G : FuncId) (x : Value) (w : World) (Z : World → Prop) (hcf : ∀ w, (callFunc G #[x]).run Try.prog w = .ok (.enter G #[x]) w)
    (hc : Calls Try.prog G #[x] (w.alloc (.cells #[.bool false] 4)) fun e w' => e = gup ∧ Z w')
    (hZ : ∀ w', Z w' → w'.cell? ⟨w.heap.size, 0, none⟩ = some (.bool false) ∧ w'.frozen? ⟨w.heap.size, 0, none⟩ = false) :
    Calls Try.prog 55 #[.func (.func G) #[x] #[]] w fun e w' => e = .returned (.tuple #[.nilIface, .bool false]) ∧ ∃ w1, Z w1 ∧ w' = w1.setCell ⟨w.heap.size, 0, none⟩ (.bool false) := by
  have hmf : ∀ (fn : Fn) (first cap : Array Value) (w : World), (Instr.makeFunc fn first cap).run Try.prog w = .ok (.func fn first cap) w := fun _ _ _ _ => rfl
  go_enter_defers Try.func55, Try.ntmps55
  go_wp2_with fail
  refine hc.mono ?_
  rintro e w1 ⟨rfl, hz⟩
  obtain ⟨c1, f1⟩ := hZ w1 hz
  unfold gup
  go_wp2_with fail
  refine leaves_cons (f := 93) (args := #[.pointer (some ⟨w.heap.size, 0, none⟩)]) (by simp) (by simp [go_sem]) ?_
  refine (catchV_gave ⟨w.heap.size, 0, none⟩ false _ c1 f1).mono ?_
  rintro e u' w'' ⟨rfl, rfl, rfl⟩
  have c2 : (w1.setCell ⟨w.heap.size, 0, none⟩ (.bool false)).cell? ⟨w.heap.size, 0, none⟩ = some (.bool false) := World.cell?_setCell_same _ _ _ c1
  simp [Leaves, settle, results, Try.results55, go_sem, c2]
  exact ⟨w1, hz, rfl⟩
end Go.Proofs.Ytokhindolimchaa

/-
  Plain: what is read has no more nodes than bytes, and each node fits.
-/
namespace Go.Proofs.Ytokhindolimchaa
open Go.RowKit
set_option linter.unusedSimpArgs false
set_option linter.unusedVariables false

def FitT : Nat → VT → Prop
  | 0, _ => False
  | f + 1, .mk kind n s keys kids => (1 ≤ kind ∧ kind ≤ 6) ∧ (-9000000000000000000 ≤ n ∧ n ≤ 9000000000000000000) ∧ s.size ≤ 100000 ∧ keys.length ≤ 100000 ∧ (∀ i, i < keys.length → (keyAt keys i).size ≤ 100000) ∧ kids.length ≤ 100000 ∧ ∀ j, j < kids.length → FitT f (kidT kids j)
theorem FitT.full : ∀ {f : Nat} {t : VT}, FitT f t → FullT f t
  | 0, _, h => h.elim
  | f + 1, .mk _ _ _ _ _, h => fun j hj => (h.2.2.2.2.2.2 j hj).full
theorem ksT_get (f sh : Nat) {l : List VT} : ∀ {m j : Nat}, j < m → m ≤ l.length → intAt (ksT f sh l m) j = ((sh + (accT f sh l (j + 1)).length : Nat) : Int) - 1 := by
  intro m
  induction m with
  | zero => intro j h; omega
  | succ m ih =>
    intro j hj hm
    have hl := ksT_len f sh l (k := m) (by omega)
    rw [ksT_succ f sh (by omega)]
    by_cases e : j < m
    · have := ih e (by omega)
      unfold intAt at this ⊢
      rw [List.getD_eq_getElem?_getD, List.getElem?_append_left (by omega), ← List.getD_eq_getElem?_getD]
      exact this
    · obtain rfl : j = m := by omega
      unfold intAt
      rw [List.getD_eq_getElem?_getD, List.getElem?_append_right (by omega), hl, Nat.sub_self]
      rfl
theorem fits_lay : ∀ {f : Nat} {t : VT}, FitT f t → ∀ sh, sh + (layT f t sh).length ≤ 1000000 → ∀ j, j < (layT f t sh).length → Fits (nodeAt (layT f t sh) j) := by
  intro f
  induction f with
  | zero => intro t h; exact h.elim
  | succ f ih =>
    intro t h sh hn
    obtain ⟨kind, n, s, keys, kids⟩ := t
    obtain ⟨h1, h2, h3, h4, h5, h6, h7⟩ := h
    rw [layT_eq] at hn ⊢
    rw [List.length_append, List.length_cons, List.length_nil] at hn ⊢
    have ha := acc_nodes f sh kids Fits kids.length (Nat.le_refl _)
    have hall : ∀ j, j < (accT f sh kids kids.length).length → Fits (nodeAt (accT f sh kids kids.length) j) := ha.2 (fun i hi => by
      refine ih (h7 i hi) _ ?_
      have hle := accT_le f sh kids (i + 1)
      rw [accT_succ f sh hi, List.length_append] at hle
      omega)
    intro j hj
    by_cases e : j < (accT f sh kids kids.length).length
    · rw [nodeAt_left e]; exact hall j e
    · obtain rfl : j = (accT f sh kids kids.length).length := by omega
      rw [nodeAt_right (Nat.le_refl _), Nat.sub_self]
      have hkl := ksT_len f sh kids (Nat.le_refl _)
      refine ⟨by show keys.length ≤ _; omega, fun i hi => by have := h5 i hi; show (keyAt keys i).size ≤ _; omega, by show (ksT f sh kids kids.length).length ≤ _; omega, fun i hi => ?_, by show s.size ≤ _; omega, by show _ ≤ kind; omega, by show kind ≤ _; omega, by show _ ≤ n; omega, by show n ≤ _; omega⟩
      have hi' : i < kids.length := by have : i < (ksT f sh kids kids.length).length := hi; omega
      have := ksT_get f sh (l := kids) hi' (Nat.le_refl _)
      have hle := accT_le f sh kids (i + 1)
      show -9223372036854775808 ≤ intAt (ksT f sh kids kids.length) i ∧ intAt (ksT f sh kids kids.length) i ≤ 9223372036854775807
      rw [this]
      omega
/-- What a reading gives is bounded by the bytes that it takes. -/
def RdOk (f : Nat) (L : List UInt8) (R : Nat → Option (VT × Nat)) : Prop := ∀ p t q, R p = some (t, q) → p < q ∧ q ≤ L.length ∧ (layT f t 0).length ≤ q - p ∧ FitT f t ∧ ∀ z, textOf t = some z → z.size ≤ L.length
theorem items_ok {f : Nat} {L : List UInt8} {R : Nat → Option (VT × Nat)} (H : RdOk f L R) : ∀ {k p : Nat} {l : List VT} {q : Nat}, p ≤ L.length → rdItems R k p = some (l, q) → p + k ≤ q ∧ q ≤ L.length ∧ sumL (fun i => layT f (kidT l i) 0) k ≤ q - p ∧ ∀ i, i < k → FitT f (kidT l i) := by
  intro k
  induction k with
  | zero =>
    intro p l q hp h
    simp [rdItems] at h
    obtain ⟨rfl, rfl⟩ := h
    exact ⟨by omega, hp, by simp [sumL], fun i hi => by omega⟩
  | succ k ih =>
    intro p l q hp h
    rw [rdItems_eq] at h
    cases e : R p with
    | none => simp [e] at h
    | some x =>
      obtain ⟨t, z⟩ := x
      simp only [e] at h
      cases e2 : rdItems R k z with
      | none => simp [e2] at h
      | some y =>
        obtain ⟨m, z2⟩ := y
        simp only [e2, Option.some.injEq, Prod.mk.injEq] at h
        obtain ⟨rfl, rfl⟩ := h
        obtain ⟨a1, a2, a3, a4, _⟩ := H _ _ _ e
        obtain ⟨b1, b2, b3, b4⟩ := ih a2 e2
        have hs : sumL (fun i => layT f (kidT (t :: m) i) 0) (k + 1) = (layT f t 0).length + sumL (fun i => layT f (kidT m i) 0) k := sumL_cons _ _
        refine ⟨by omega, b2, by rw [hs]; omega, fun i hi => ?_⟩
        cases i with
        | zero => exact a4
        | succ i => exact b4 i (by omega)
theorem pairs_ok {f : Nat} {L : List UInt8} {R : Nat → Option (VT × Nat)} (H : RdOk f L R) : ∀ {k p : Nat} {ks : List ByteArray} {l : List VT} {q : Nat}, p ≤ L.length → rdPairs R k p = some (ks, l, q) → p + k ≤ q ∧ q ≤ L.length ∧ sumL (fun i => layT f (kidT l i) 0) k ≤ q - p ∧ (∀ i, i < k → FitT f (kidT l i)) ∧ ∀ i, i < k → (keyAt ks i).size ≤ L.length := by
  intro k
  induction k with
  | zero =>
    intro p ks l q hp h
    simp [rdPairs] at h
    obtain ⟨rfl, rfl, rfl⟩ := h
    exact ⟨by omega, hp, by simp [sumL], fun i hi => by omega, fun i hi => by omega⟩
  | succ k ih =>
    intro p ks l q hp h
    rw [rdPairs] at h
    cases e : R p with
    | none => simp [e] at h
    | some x =>
      obtain ⟨t1, q1⟩ := x
      simp only [e] at h
      cases e1 : textOf t1 with
      | none => simp [e1] at h
      | some s1 =>
        simp only [e1] at h
        cases e2 : R q1 with
        | none => simp [e2] at h
        | some y =>
          obtain ⟨u1, r1⟩ := y
          simp only [e2] at h
          cases e3 : rdPairs R k r1 with
          | none => simp [e3] at h
          | some y =>
            obtain ⟨k1, m, z2⟩ := y
            simp only [e3, Option.some.injEq, Prod.mk.injEq] at h
            obtain ⟨rfl, rfl, rfl⟩ := h
            obtain ⟨a1, a2, a3, a4, a5⟩ := H _ _ _ e
            obtain ⟨c1, c2, c3, c4, _⟩ := H _ _ _ e2
            obtain ⟨b1, b2, b3, b4, b5⟩ := ih c2 e3
            have hs : sumL (fun i => layT f (kidT (u1 :: m) i) 0) (k + 1) = (layT f u1 0).length + sumL (fun i => layT f (kidT m i) 0) k := sumL_cons _ _
            refine ⟨by omega, b2, by rw [hs]; omega, fun i hi => ?_, fun i hi => ?_⟩
            · cases i with
              | zero => exact c4
              | succ i => exact b4 i (by omega)
            · cases i with
              | zero => exact a5 _ e1
              | succ i => exact b5 i (by omega)
theorem row_ok {f : Nat} {L : List UInt8} {R : Nat → Option (VT × Nat)} (H : RdOk f L R) (hL : L.length ≤ 4000) {named : Bool} {n p : Nat} {t : VT} {q : Nat} (hp : p ≤ L.length) (h : rowT R named n p = some (t, q)) : p ≤ q ∧ q ≤ L.length ∧ (layT (f + 1) t 0).length ≤ q - p + 1 ∧ FitT (f + 1) t ∧ ∀ z, textOf t = some z → z.size ≤ L.length := by
  have ht := textOf_row h
  have htz : ∀ z, textOf t = some z → z.size ≤ L.length := fun z hz => by rw [ht] at hz; cases hz
  unfold rowT at h
  cases named
  · simp only [Bool.false_eq_true, if_false] at h
    cases e : rdItems R n p with
    | none => simp [e] at h
    | some x =>
      obtain ⟨l, z⟩ := x
      simp only [e, Option.some.injEq, Prod.mk.injEq] at h
      obtain ⟨rfl, rfl⟩ := h
      obtain ⟨b1, b2, b3, b4⟩ := items_ok H hp e
      have hl := items_len e
      refine ⟨by omega, b2, by rw [listT_size, hl]; omega, ⟨by decide, by decide, by decide, by simp, fun i hi => absurd hi (by simp), by omega, fun j hj => b4 j (by omega)⟩, htz⟩
  · simp only [if_true] at h
    cases e : rdPairs R n p with
    | none => simp [e] at h
    | some x =>
      obtain ⟨ks, l, z⟩ := x
      simp only [e, Option.some.injEq, Prod.mk.injEq] at h
      obtain ⟨rfl, rfl⟩ := h
      obtain ⟨b1, b2, b3, b4, b5⟩ := pairs_ok H hp e
      obtain ⟨hl1, hl2, _⟩ := pairs_full (fun p t q h => (H p t q h).2.2.2.1.full) e
      have hsl := srt_len ks
      refine ⟨by omega, b2, by rw [mapT_size, hl1]; omega, ⟨by decide, by decide, by decide, by rw [List.length_map, hsl]; omega, fun i hi => ?_, by rw [List.length_map, hsl]; omega, fun j hj => ?_⟩, htz⟩
      · rw [List.length_map, hsl] at hi
        have e9 : keyAt ((srt ks).map (keyAt ks)) i = keyAt ks ((srt ks).getD i 0) := by
          conv => lhs; unfold keyAt
          rw [List.getD_eq_getElem?_getD, List.getElem?_map, List.getElem?_eq_getElem (by omega), List.getD_eq_getElem?_getD (l := srt ks), List.getElem?_eq_getElem (show i < (srt ks).length by omega)]
          rfl
        rw [e9]
        have := b5 ((srt ks).getD i 0) (by have := srt_lt hi; omega)
        omega
      · rw [List.length_map, hsl] at hj
        rw [kid_srt hj]
        exact b4 _ (by have := srt_lt hj; omega)
theorem num_ok {L : List UInt8} {p w n q : Nat} (h : numI L p w = some (n, q)) : n ≤ maxI ∧ q = p + w ∧ q ≤ L.length := by
  unfold numI at h
  split at h
  · rename_i hx
    simp only [Option.some.injEq, Prod.mk.injEq] at h
    obtain ⟨rfl, rfl⟩ := h
    exact ⟨hx.2, rfl, hx.1⟩
  · cases h
theorem word_ok {L : List UInt8} (hL : L.length ≤ 4000) {n p : Nat} {t : VT} {q : Nat} (h : wordI L n p = some (t, q)) (f : Nat) : p ≤ q ∧ q ≤ L.length ∧ (layT (f + 1) t 0).length = 1 ∧ FitT (f + 1) t ∧ ∀ z, textOf t = some z → z.size ≤ L.length := by
  unfold wordI at h
  split at h
  · rename_i hx
    simp only [Option.some.injEq, Prod.mk.injEq] at h
    obtain ⟨rfl, rfl⟩ := h
    have hz := cutT_size hx
    refine ⟨by omega, hx, rfl, ⟨by decide, by decide, by omega, by simp, fun i hi => absurd hi (by simp), by simp, fun j hj => absurd hj (by simp)⟩, fun z e => ?_⟩
    simp [textOf, wordT] at e
    subst e
    omega
  · cases h
theorem leaf_ok {f : Nat} {k n : Int} (hk : 1 ≤ k ∧ k ≤ 6 ∧ k ≠ 4) (hn : -9000000000000000000 ≤ n ∧ n ≤ 9000000000000000000) : (layT (f + 1) (.mk k n ByteArray.empty [] []) 0).length = 1 ∧ FitT (f + 1) (.mk k n ByteArray.empty [] []) ∧ textOf (.mk k n ByteArray.empty [] []) = none :=
  ⟨rfl, ⟨⟨hk.1, hk.2.1⟩, hn, by decide, by simp, fun i hi => absurd hi (by simp), by simp, fun j hj => absurd hj (by simp)⟩, by simp [textOf, hk.2.2]⟩
theorem rdC_ok (L : List UInt8) (hL : L.length ≤ 4000) : ∀ f, RdOk f L (rdC L f) := by
  intro f
  induction f with
  | zero => intro p t q h; simp [rdC] at h
  | succ f ih =>
    intro p t q h
    have leaf : ∀ {k n : Int} {q' : Nat}, p < q' → q' ≤ L.length → (1 ≤ k ∧ k ≤ 6 ∧ k ≠ 4) → (-9000000000000000000 ≤ n ∧ n ≤ 9000000000000000000) → some ((VT.mk k n ByteArray.empty [] [] : VT), q') = some (t, q) → p < q ∧ q ≤ L.length ∧ (layT (f + 1) t 0).length ≤ q - p ∧ FitT (f + 1) t ∧ ∀ z, textOf t = some z → z.size ≤ L.length := fun {k n q'} h1 h2 hk hn h => by
      simp only [Option.some.injEq, Prod.mk.injEq] at h
      obtain ⟨rfl, rfl⟩ := h
      obtain ⟨l1, l2, l3⟩ := leaf_ok (f := f) hk hn
      exact ⟨h1, h2, by omega, l2, fun z hz => by rw [l3] at hz; cases hz⟩
    by_cases hp : p < L.length
    rotate_left
    · rw [rdC_end (by omega)] at h; cases h
    by_cases b0 : byAt L p = 246
    · rw [rdC_null hp b0] at h; exact leaf (by omega) (by omega) (by decide) (by decide) h
    by_cases b1 : byAt L p = 244
    · rw [rdC_no hp b1] at h; exact leaf (by omega) (by omega) (by decide) (by decide) h
    by_cases b2 : byAt L p = 245
    · rw [rdC_yes hp b2] at h; exact leaf (by omega) (by omega) (by decide) (by decide) h
    rw [rdC_head hp (by omega)] at h
    cases e : headI L p with
    | none => rw [e] at h; cases h
    | some x =>
      obtain ⟨n, z⟩ := x
      rw [e] at h
      simp only at h
      have hh : p < z ∧ z ≤ L.length ∧ n ≤ maxI := by
        unfold headI at e
        split at e
        · simp only [Option.some.injEq, Prod.mk.injEq] at e; unfold maxI; omega
        · split at e
          · obtain ⟨c1, c2, c3⟩ := num_ok e
            have := two_pos (byAt L p % 32 - 24)
            exact ⟨by rw [c2]; omega, c3, c1⟩
          · cases e
      obtain ⟨h1, h2, h3⟩ := hh
      unfold maxI at h3
      unfold kindI at h
      split at h
      · exact leaf h1 h2 (by decide) (by omega) h
      split at h
      · exact leaf h1 h2 (by decide) (by omega) h
      split at h
      · obtain ⟨c1, c2, c3, c4, c5⟩ := word_ok hL h f
        exact ⟨by omega, c2, by omega, c4, c5⟩
      split at h
      · obtain ⟨c1, c2, c3, c4, c5⟩ := row_ok ih hL h2 h
        exact ⟨by omega, c2, by omega, c4, c5⟩
      split at h
      · obtain ⟨c1, c2, c3, c4, c5⟩ := row_ok ih hL h2 h
        exact ⟨by omega, c2, by omega, c4, c5⟩
      · cases h
end Go.Proofs.Ytokhindolimchaa
