/-
  A value is drawn: nodes of its own, few.
-/
import Derived.Test.YtpfnkpkcjefelaaPartOk
import Derived.Test.YtpfnkpkcjefelaaRowK
namespace Go.Proofs.Ytpfnkpkcjefelaa
open Go.RowKit
set_option linter.unusedSimpArgs false
set_option linter.unusedVariables false

def capD : Nat → Nat
  | 0 => 1
  | d + 1 => 3 * capD d + 1
theorem capD_pos (d : Nat) : 1 ≤ capD d := by cases d <;> simp [capD]

theorem RdAt.belowB {base : Nat} {w w' : World} {rb n p : Nat} (h : RdAt w rb n p) (hb : Below base w w') (hl : rb < base) : RdAt w' rb n p := by
  refine ⟨by have := hb.size; have := h.lt; omega, ?_, (below_cell hb hl).trans h.place, h.le, h.few, (frozen_same (hb.block rb hl)).trans h.free⟩
  obtain ⟨a, cap, h1, h2⟩ := h.src
  refine ⟨a, cap, (below_cell hb hl).trans h1, fun hp => ?_⟩
  obtain ⟨b, o, e, hlt, hx⟩ := h2 hp
  exact ⟨b, o, e, hlt, fun i hi => by obtain ⟨x, h3, h4⟩ := hx i hi; exact ⟨x, h3, (below_cell hb (by omega)).trans h4⟩⟩

/-- Blocks that came behind the start may turn, too. -/
theorem Drawn.far {rb n base : Nat} {a b c : World} (h : Drawn rb n a b) (k : Below base b c) (hb : rb < base) (ha : a.heap.size ≤ base) : Drawn rb n a c := by
  obtain ⟨p, hp⟩ := h.rd
  exact ⟨⟨p, hp.belowB k hb⟩, ⟨Nat.le_trans h.only.1 k.size, fun c hc hn => (k.block c (by omega)).trans (h.only.2 c hc hn)⟩, h.below.trans (k.mono (by omega))⟩

def ValAll (rb n d : Nat) : Prop := ∀ w, (∃ p, RdAt w rb n p) → Calls Try.prog 72 #[.pointer (some ⟨rb, 0, none⟩), .int .i64 d] w fun e w' => (∃ r vs KV IV, e = .returned r ∧ Fine (capD d) vs ∧ Nest w.heap.size w' r vs KV IV) ∧ Drawn rb n w w'

set_option maxRecDepth 100000 in
set_option maxHeartbeats 6400000 in
theorem rdValue_any (rb n : Nat) : ∀ d, d ≤ 3 → ValAll rb n d := by
  intro d
  obtain ⟨i1, hi1, hzz1, hs1, hy1⟩ := info_parts infoStr
  obtain ⟨i2, hi2, hzz2, hs2, hy2⟩ := info_parts infoRowV
  induction d with
  | zero =>
    intro _ w h
    have H := hideIt h
    clear h
    go_enter Try.func72, Try.ntmps72
    go_wp2_with fail
    refine (rdBelow_any rb n 9 w H.out (by omega) (by omega)).mono ?_
    rintro e w0 ⟨⟨x9, hx9, rfl⟩, hd0⟩
    have HD0 := hideIt hd0
    have zd0 := hd0.only.1
    clear hd0
    go_wp2_with fail
    refine (rdBelow_any rb n 5 w0 HD0.out.rd (by omega) (by omega)).mono ?_
    rintro e w1 ⟨⟨x, hx, rfl⟩, hd⟩
    have HD := hideIt (HD0.out.trans hd)
    have zd : w.heap.size ≤ w1.heap.size := Nat.le_trans zd0 hd.only.1
    clear hd

    by_cases x0 : x = 0
    · subst x0
      go_wp2_with fail
      refine (l1Null_any w1).mono ?_
      rintro e w2 ⟨r, vs, KV, IV, rfl, hf, hn, hb⟩
      have HF := hideIt hf
      have HN := hideIt (hn.low zd)
      have HD2 := hideIt (HD.out.next hb)
      obtain ⟨a, c, e⟩ := own_slice hn.row
      obtain ⟨M, hM⟩ : ∃ M, vs.length = M := ⟨_, rfl⟩
      rw [hM] at e
      subst e
      clear hf hn hb hM
      go_wp2_with fail
      go_ret
      exact ⟨⟨_, vs, KV, IV, rfl, HF.out.wide (capD_pos _), HN.out⟩, HD2.out⟩
    by_cases x1 : x = 1
    · subst x1
      go_wp2_with fail
      refine (rdOnce_any rb n 2 w1 HD.out.rd (by omega) (by omega)).mono ?_
      rintro e w2 ⟨⟨b, rfl⟩, hd⟩
      have HD1 := hideIt (HD.out.trans hd)
      have z2 := hd.only.1
      clear hd
      go_wp2_with fail
      refine (l1Bool_any b w2).mono ?_
      rintro e w3 ⟨r, vs, KV, IV, rfl, hf, hn, hb⟩
      have HF := hideIt hf
      have HN := hideIt (hn.low (Nat.le_trans zd z2))
      have HD2 := hideIt (HD1.out.next hb)
      obtain ⟨a, c, e⟩ := own_slice hn.row
      obtain ⟨M, hM⟩ : ∃ M, vs.length = M := ⟨_, rfl⟩
      rw [hM] at e
      subst e
      clear hf hn hb hM
      go_wp2_with fail
      go_ret
      exact ⟨⟨_, vs, KV, IV, rfl, HF.out.wide (capD_pos _), HN.out⟩, HD2.out⟩
    have e0 : ((x : Int) == 0) = false := by simp; omega
    have e1 : ((x : Int) == 1) = false := by simp; omega
    by_cases x2 : x = 2 ∨ x = 3
    · rcases x2 with rfl | rfl
      all_goals
        go_wp2_with fail
        refine (rdNumber_any rb n w1 HD.out.rd).mono ?_
        rintro e w2 ⟨⟨b, hb1, hb2, rfl⟩, hd⟩
        have HD1 := hideIt (HD.out.trans hd)
        have z2 := hd.only.1
        clear hd
        go_wp2_with fail
        refine (l1Number_any b w2 hb1 hb2).mono ?_
        rintro e w3 ⟨r, vs, KV, IV, rfl, hf, hn, hb⟩
        have HF := hideIt hf
        have HN := hideIt (hn.low (Nat.le_trans zd z2))
        have HD2 := hideIt (HD1.out.next hb)
        obtain ⟨a, c, e⟩ := own_slice hn.row
        obtain ⟨M, hM⟩ : ∃ M, vs.length = M := ⟨_, rfl⟩
        rw [hM] at e
        subst e
        clear hf hn hb hM
        go_wp2_with fail
        go_ret
        exact ⟨⟨_, vs, KV, IV, rfl, HF.out.wide (capD_pos _), HN.out⟩, HD2.out⟩
    have e2 : ((x : Int) == 2) = false := by simp; omega
    have e3 : ((x : Int) == 3) = false := by simp; omega
    by_cases x4 : x = 4
    · subst x4
      go_wp2_with fail
      refine (rdText_any rb n w1 HD.out.rd).mono ?_
      rintro e w2 ⟨⟨b, hb1, rfl⟩, hd⟩
      have HD1 := hideIt (HD.out.trans hd)
      have z2 := hd.only.1
      clear hd
      go_wp2_with fail
      refine (l1Word_any b w2 hb1).mono ?_
      rintro e w3 ⟨r, vs, KV, IV, rfl, hf, hn, hb⟩
      have HF := hideIt hf
      have HN := hideIt (hn.low (Nat.le_trans zd z2))
      have HD2 := hideIt (HD1.out.next hb)
      obtain ⟨a, c, e⟩ := own_slice hn.row
      obtain ⟨M, hM⟩ : ∃ M, vs.length = M := ⟨_, rfl⟩
      rw [hM] at e
      subst e
      clear hf hn hb hM
      go_wp2_with fail
      go_ret
      exact ⟨⟨_, vs, KV, IV, rfl, HF.out.wide (capD_pos _), HN.out⟩, HD2.out⟩
    omega
  | succ d ih0 =>
    intro hd3 w h
    have ih := ih0 (by omega)
    have hcap : capD d ≤ 80 := by
      match d, hd3 with
      | 0, _ => decide
      | 1, _ => decide
      | 2, _ => decide
    have H := hideIt h
    clear h
    have hdn : (((d + 1 : Nat) : Int) == 0) = false := by simp; omega
    have hds : ((d + 1 : Nat) : Int) - 1 = (d : Int) := by omega
    have hdz : ¬ ((d : Int) + 1 = 0) := by omega
    go_enter Try.func72, Try.ntmps72
    go_wp2_with fail
    refine (rdBelow_any rb n 9 w H.out (by omega) (by omega)).mono ?_
    rintro e w1 ⟨⟨x, hx, rfl⟩, hd⟩
    have HD := hideIt hd
    have zd := hd.only.1
    have hrb1 : rb < w1.heap.size := by obtain ⟨p, hp⟩ := hd.rd; exact hp.lt
    clear hd

    by_cases x0 : x = 0
    · subst x0
      go_wp2_with fail
      refine (l1Null_any w1).mono ?_
      rintro e w2 ⟨r, vs, KV, IV, rfl, hf, hn, hb⟩
      have HF := hideIt hf
      have HN := hideIt (hn.low zd)
      have HD2 := hideIt (HD.out.next hb)
      obtain ⟨a, c, e⟩ := own_slice hn.row
      obtain ⟨M, hM⟩ : ∃ M, vs.length = M := ⟨_, rfl⟩
      rw [hM] at e
      subst e
      clear hf hn hb hM
      go_wp2_with fail
      go_ret
      exact ⟨⟨_, vs, KV, IV, rfl, HF.out.wide (capD_pos _), HN.out⟩, HD2.out⟩
    by_cases x1 : x = 1
    · subst x1
      go_wp2_with fail
      refine (rdOnce_any rb n 2 w1 HD.out.rd (by omega) (by omega)).mono ?_
      rintro e w2 ⟨⟨b, rfl⟩, hd⟩
      have HD1 := hideIt (HD.out.trans hd)
      have z2 := hd.only.1
      clear hd
      go_wp2_with fail
      refine (l1Bool_any b w2).mono ?_
      rintro e w3 ⟨r, vs, KV, IV, rfl, hf, hn, hb⟩
      have HF := hideIt hf
      have HN := hideIt (hn.low (Nat.le_trans zd z2))
      have HD2 := hideIt (HD1.out.next hb)
      obtain ⟨a, c, e⟩ := own_slice hn.row
      obtain ⟨M, hM⟩ : ∃ M, vs.length = M := ⟨_, rfl⟩
      rw [hM] at e
      subst e
      clear hf hn hb hM
      go_wp2_with fail
      go_ret
      exact ⟨⟨_, vs, KV, IV, rfl, HF.out.wide (capD_pos _), HN.out⟩, HD2.out⟩
    have e0 : ((x : Int) == 0) = false := by simp; omega
    have e1 : ((x : Int) == 1) = false := by simp; omega
    by_cases x2 : x = 2 ∨ x = 3
    · rcases x2 with rfl | rfl
      all_goals
        go_wp2_with fail
        refine (rdNumber_any rb n w1 HD.out.rd).mono ?_
        rintro e w2 ⟨⟨b, hb1, hb2, rfl⟩, hd⟩
        have HD1 := hideIt (HD.out.trans hd)
        have z2 := hd.only.1
        clear hd
        go_wp2_with fail
        refine (l1Number_any b w2 hb1 hb2).mono ?_
        rintro e w3 ⟨r, vs, KV, IV, rfl, hf, hn, hb⟩
        have HF := hideIt hf
        have HN := hideIt (hn.low (Nat.le_trans zd z2))
        have HD2 := hideIt (HD1.out.next hb)
        obtain ⟨a, c, e⟩ := own_slice hn.row
        obtain ⟨M, hM⟩ : ∃ M, vs.length = M := ⟨_, rfl⟩
        rw [hM] at e
        subst e
        clear hf hn hb hM
        go_wp2_with fail
        go_ret
        exact ⟨⟨_, vs, KV, IV, rfl, HF.out.wide (capD_pos _), HN.out⟩, HD2.out⟩
    have e2 : ((x : Int) == 2) = false := by simp; omega
    have e3 : ((x : Int) == 3) = false := by simp; omega
    by_cases x4 : x = 4
    · subst x4
      go_wp2_with fail
      refine (rdText_any rb n w1 HD.out.rd).mono ?_
      rintro e w2 ⟨⟨b, hb1, rfl⟩, hd⟩
      have HD1 := hideIt (HD.out.trans hd)
      have z2 := hd.only.1
      clear hd
      go_wp2_with fail
      refine (l1Word_any b w2 hb1).mono ?_
      rintro e w3 ⟨r, vs, KV, IV, rfl, hf, hn, hb⟩
      have HF := hideIt hf
      have HN := hideIt (hn.low (Nat.le_trans zd z2))
      have HD2 := hideIt (HD1.out.next hb)
      obtain ⟨a, c, e⟩ := own_slice hn.row
      obtain ⟨M, hM⟩ : ∃ M, vs.length = M := ⟨_, rfl⟩
      rw [hM] at e
      subst e
      clear hf hn hb hM
      go_wp2_with fail
      go_ret
      exact ⟨⟨_, vs, KV, IV, rfl, HF.out.wide (capD_pos _), HN.out⟩, HD2.out⟩

    have e4 : ((x : Int) == 4) = false := by simp; omega
    by_cases x5 : x = 5 ∨ x = 6
    · rcases x5 with rfl | rfl
      all_goals
        clear x0 x1 x2 x4
        go_wp2_with fail
        have hba : Below w1.heap.size w1 (w1.alloc (.cells #[] 24)) := (Below.refl _ _).alloc (Nat.le_refl _) _
        have HDA := hideIt (HD.out.next hba)
        have HRA : Hid ((w1.alloc (.cells #[] 24)).ownsRow w1.heap.size 24 1 (.slice (some ⟨w1.heap.size, 0, none⟩) 0 0) 0 []) := by
          have := World.ownsRow_lit (base := w1.heap.size) (e := 24) (size := 1) w1 #[] 0 (Nat.le_refl _) (by simp [maxLen]) rfl
          simpa [Hid] using this
        have hsA : w1.heap.size ≤ (w1.alloc (.cells #[] 24)).heap.size := by simp
        generalize w1.alloc (.cells #[] 24) = WA at HDA HRA hsA ⊢
        clear hba
        refine (rdBelow_any rb n 4 WA HDA.out.rd (by omega) (by omega)).mono ?_
        rintro e w2 ⟨⟨y, hy, rfl⟩, hd⟩
        have HD2 := hideIt (HDA.out.trans hd)
        have z2 := hd.only.1
        have HR0 := hideIt (Rows2.start (own_from HRA.out (hd.from hrb1)) (Nat.le_trans hsA z2) (fun _ => []))
        clear hd HRA
        go_wp2_with fail
        go_loopw [6, 7] (fun o i wr => ∃ (k j : Nat) (L : Nat → List VN) (rs : Nat → Value) (KV IV : Nat → Nat → Value) (lo : Nat → Nat), k + j ≤ 3 ∧ i = .int .i64 j ∧ Rows2 w1.heap.size wr o k L rs KV IV lo ∧ (∀ t, t < k → Fine (capD d) (L t)) ∧ Drawn rb n w wr ∧ w1.heap.size ≤ wr.heap.size) (fun _ i _ => (intOf i).toNat)
        case atStart => exact ⟨0, y, _, _, _, _, _, by omega, rfl, HR0.out, fun t ht => by omega, HD2.out, Nat.le_trans hsA z2⟩
        case round =>
          obtain ⟨k, j, L, rs, KV, IV, lo, hkj, rfl, hrw, hfi, hdr, zr⟩ := hrel
          have HR := hideIt hrw
          have HFI := hideIt hfi
          have HDR := hideIt hdr
          obtain ⟨ao, co, eo⟩ := own_slice hrw.row
          subst eo
          clear hrw hfi hdr HR0 HD2
          by_cases hj : 0 < j
          · have hj' : (0 : Int) < (j : Int) := by omega
            go_wp2_with fail
            refine (ih wr HDR.out.rd).mono ?_
            rintro e w3 ⟨⟨r, vs, KV3, IV3, rfl, hf3, hn3⟩, hd3⟩
            have HN3 := hideIt hn3
            have HF3 := hideIt hf3
            have HD3 := hideIt (HDR.out.trans hd3)
            have HFR := hideIt (hd3.from hrb1)
            have z3 := hd3.only.1
            have HRO := hideIt (HR.out.from HFR.out).row
            obtain ⟨ar, cr, er⟩ := own_slice hn3.row
            obtain ⟨Lk, hLk⟩ : ∃ Lk, vs.length = Lk := ⟨_, rfl⟩
            rw [hLk] at er
            subst er
            have HRC := hideIt (HR.out.congr (L' := updF L k vs) (fun i hi => updF_other _ _ (by omega)))
            clear hn3 hf3 hd3 hLk
            go_wp2_with (at_builtin; refine wpList_append_own_at _ rfl _ _ 35 rfl w1.heap.size 24 i2 (.slice none 0 0) 1 24 Try.underlying35 hi2 hzz2 hs2 hy2 rfl (by decide) _ _ _ rfl (HRO.out.alloc _) ⟨w3.heap.size, 0, none⟩ 1 1 [.slice ar Lk cr] rfl rfl ?c1 ?c2 ?c3 ?c4 ?c5 ?_)
            case c1 => exact cell_one_new _ _ _
            case c2 => intro u hu; simp at hu; subst hu; rfl
            case c3 => unfold maxLen; omega
            case c4 => omega
            case c5 => simp; omega
            intro v' w5 hown hgrow _ _
            have HR5 := hideIt (HRC.out.snocF HFR.out (by rw [updF_same]; exact HN3.out) hown hgrow)
            have hb5 : Below w1.heap.size w3 w5 := ((Below.refl w1.heap.size w3).alloc (by omega) _).grown hgrow (by simp; omega) (fun y hy => (HRO.out.lt y hy).1)
            have HD5 := hideIt (HD3.out.far hb5 hrb1 zd)
            have z5 := hb5.size
            have HF5 : Hid (∀ t, t < k + 1 → Fine (capD d) (updF L k vs t)) := fun t ht => by
              by_cases e : t = k
              · subst e; rw [updF_same]; exact HF3.out
              · rw [updF_other _ _ e]; exact HFI.out t (by omega)
            clear hown hgrow hb5
            go_wp2_with fail
            go_roundw
            case rel => exact ⟨k + 1, j - 1, _, _, _, _, _, by omega, by go_num, HR5.out, HF5.out, HD5.out, by omega⟩
            case measure => simp [intOf]; omega
          · obtain rfl : j = 0 := by omega
            have hfm := fine_make (L := L) (m := k) HFI.out (by omega) (kind := 5) (by omega) (by omega) (keys := []) (by simp) (fun i hi => absurd hi (by simp))
            have hcat := (fine_cat (L := L) (m := k) HFI.out k (Nat.le_refl _)).1
            have hkc : k * capD d ≤ 3 * capD d := Nat.mul_le_mul_right _ (by omega)
            have HFM := hideIt hfm
            go_wp2_with fail
            refine (l1Make_any wr.heap.size 5 (.slice none 0 0) _ [] k L wr ⟨by simp, fun i hi => absurd hi (by simp), none, 0, rfl, fun h => absurd h (by simp)⟩ (HR.out.rows (by omega) (fun i hi => (HFI.out i hi).few hcap)) (Nat.le_refl _) (by omega) (by simp) (by omega) (fun i hi => (HFI.out i hi).near hcap)).mono ?_
            rintro e w6 ⟨r, KV6, IV6, rfl, hn6, hb6⟩
            have HN6 := hideIt (hn6.low (Nat.le_trans zd zr))
            have HD6 := hideIt (HDR.out.next hb6)
            obtain ⟨ar, cr, er⟩ := own_slice hn6.row
            obtain ⟨M, hM⟩ : ∃ M, (makeNs 5 [] L k).length = M := ⟨_, rfl⟩
            rw [hM] at er
            subst er
            clear hn6 hb6 hM hfm hcat hkc
            go_wp2_with fail
            go_ret
            exact ⟨⟨_, _, KV6, IV6, rfl, HFM.out, HN6.out⟩, HD6.out⟩
    have e5 : ((x : Int) == 5) = false := by simp; omega
    have e6 : ((x : Int) == 6) = false := by simp; omega
    clear x0 x1 x2 x4 x5
    go_wp2_with fail
    have hba : Below w1.heap.size w1 ((w1.alloc (.cells #[] 9)).alloc (.cells #[] 24)) := ((Below.refl _ _).alloc (Nat.le_refl _) _).alloc (by simp) _
    have HDA := hideIt (HD.out.next hba)
    have HKA : Hid (((w1.alloc (.cells #[] 9)).alloc (.cells #[] 24)).ownsRow w1.heap.size 9 1 (.slice (some ⟨w1.heap.size, 0, none⟩) 0 0) 0 (([] : List ByteArray).map .string)) := (World.ownsRow_lit (base := w1.heap.size) w1 #[] 0 (Nat.le_refl _) (by simp [maxLen]) rfl).alloc _
    have HRA : Hid (((w1.alloc (.cells #[] 9)).alloc (.cells #[] 24)).ownsRow w1.heap.size 24 1 (.slice (some ⟨w1.heap.size + 1, 0, none⟩) 0 0) 0 []) := by
      have := World.ownsRow_lit (base := w1.heap.size) (e := 24) (size := 1) (w1.alloc (.cells #[] 9)) #[] 0 (by simp) (by simp [maxLen]) rfl
      simpa [Hid] using this
    have hsA : w1.heap.size ≤ ((w1.alloc (.cells #[] 9)).alloc (.cells #[] 24)).heap.size := by simp; omega
    generalize (w1.alloc (.cells #[] 9)).alloc (.cells #[] 24) = WA at HDA HKA HRA hsA ⊢
    clear hba
    refine (rdBelow_any rb n 4 WA HDA.out.rd (by omega) (by omega)).mono ?_
    rintro e w2 ⟨⟨y, hy, rfl⟩, hd⟩
    have HD2 := hideIt (HDA.out.trans hd)
    have z2 := hd.only.1
    have HR0 := hideIt (Rows2.start (own_from HRA.out (hd.from hrb1)) (Nat.le_trans hsA z2) (fun _ => []))
    have HK0 := hideIt (own_from HKA.out (hd.from hrb1))
    clear hd HRA HKA
    go_wp2_with fail
    go_loopw [8, 9, 10] (fun kv o i wr => ∃ (k j : Nat) (ks : List ByteArray) (L : Nat → List VN) (rs : Nat → Value) (KV IV : Nat → Nat → Value) (lo : Nat → Nat), k + j ≤ 3 ∧ i = .int .i64 j ∧ Rows2 w1.heap.size wr o k L rs KV IV lo ∧ (∀ t, t < k → Fine (capD d) (L t)) ∧ ks.length = k ∧ (∀ t, t < k → (keyAt ks t).size ≤ 60) ∧ wr.ownsRow w1.heap.size 9 1 kv k (ks.map .string) ∧ (∀ i, i < k → ∀ x, InNest (rs i) (L i).length (KV i) (IV i) x → kv.ownBlock ≠ some x) ∧ Drawn rb n w wr ∧ w1.heap.size ≤ wr.heap.size) (fun _ _ i _ => (intOf i).toNat)
    case atStart => exact ⟨0, y, [], _, _, _, _, _, by omega, rfl, HR0.out, fun t ht => by omega, rfl, fun t ht => by omega, HK0.out, fun t ht => by omega, HD2.out, Nat.le_trans hsA z2⟩
    case round =>
      obtain ⟨k, j, ks, L, rs, KV, IV, lo, hkj, rfl, hrw, hfi, hkl, hksz, hkr, hin, hdr, zr⟩ := hrel
      have HR := hideIt hrw
      have HFI := hideIt hfi
      have HDR := hideIt hdr
      have HKL := hideIt hkl
      have HKS := hideIt hksz
      have HK := hideIt hkr
      have HIN := hideIt hin
      have HTOP : Hid (∀ i, i < k → ∀ x, InNest (rs i) (L i).length (KV i) (IV i) x → x < wr.heap.size) := fun i hi x hx => by
        have h1 := hrw.inn i hi x hx
        have h2 := hrw.mono (i + 1) k (by omega) (Nat.le_refl _)
        have h3 := hrw.top
        omega
      obtain ⟨ao, co, eo⟩ := own_slice hrw.row
      subst eo
      obtain ⟨ak, ck, ek⟩ := own_slice hkr
      subst ek
      clear hrw hfi hdr hkl hksz hkr hin HR0 HK0 HD2
      by_cases hj : 0 < j
      · have hj' : (0 : Int) < (j : Int) := by omega
        go_wp2_with fail
        refine (rdText_any rb n wr HDR.out.rd).mono ?_
        rintro e w3 ⟨⟨s, hs, rfl⟩, hd3⟩
        have HD3 := hideIt (HDR.out.trans hd3)
        have z3 := hd3.only.1
        have HK3 := hideIt (own_from HK.out (hd3.from hrb1))
        have HR3 := hideIt (HR.out.from (hd3.from hrb1))
        clear hd3
        go_wp2_with (at_builtin; refine wpList_append_own_at _ rfl _ _ 38 rfl w1.heap.size 9 i1 (.string ByteArray.empty) 1 16 Try.underlying38 hi1 hzz1 hs1 hy1 rfl (by decide) _ _ _ rfl (HK3.out.alloc _) ⟨w3.heap.size, 0, none⟩ 1 1 [.string s] rfl rfl ?c1 ?c2 ?c3 ?c4 ?c5 ?_)
        case c1 => exact cell_one_new _ _ _
        case c2 => intro u hu; simp at hu; subst hu; rfl
        case c3 => unfold maxLen; omega
        case c4 => omega
        case c5 => simp; omega
        intro kv' w4 hownk hgk _ hatk
        have hg1 : w3.grownBy w4 (Value.slice ak k ck).ownBlock := (World.grownBy_alloc w3 _ _).trans hgk
        have HR4 := hideIt (HR3.out.kept hg1 (own_apart HR3.out.row HK3.out (by decide)) HIN.out)
        have HK4 : Hid (w4.ownsRow w1.heap.size 9 1 kv' (k + 1) ((ks ++ [s]).map .string)) := by rw [Hid, List.map_append]; exact hownk
        have hb4 : Below w1.heap.size w3 w4 := ((Below.refl w1.heap.size w3).alloc (by omega) _).grown hgk (by simp; omega) (fun y hy => (HK3.out.lt y hy).1)
        have HD4 := hideIt (HD3.out.far hb4 hrb1 zd)
        have z4 := hb4.size
        have HIN4 : Hid (∀ i, i < k → ∀ x, InNest (rs i) (L i).length (KV i) (IV i) x → kv'.ownBlock ≠ some x) := fun i hi x hx e2 => by
          rcases hatk with e | e
          · rw [e] at e2; exact HIN.out i hi x hx e2
          · rw [e] at e2
            have h1 := HTOP.out i hi x hx
            simp at e2
            omega
        obtain ⟨ak4, ck4, ek4⟩ := own_slice hownk
        subst ek4
        clear hownk hgk hatk hg1 hb4 HR3 HK3
        go_wp2_with fail
        refine (ih w4 HD4.out.rd).mono ?_
        rintro e w5 ⟨⟨r, vs, KV5, IV5, rfl, hf5, hn5⟩, hd5⟩
        have HN5 := hideIt hn5
        have HF5 := hideIt hf5
        have HD5 := hideIt (HD4.out.trans hd5)
        have HFR := hideIt (hd5.from hrb1)
        have z5 := hd5.only.1
        have HRO := hideIt (HR4.out.from HFR.out).row
        have HK5 := hideIt (own_from HK4.out HFR.out)
        obtain ⟨ar, cr, er⟩ := own_slice hn5.row
        obtain ⟨Lk, hLk⟩ : ∃ Lk, vs.length = Lk := ⟨_, rfl⟩
        have HLK := hideIt hLk
        rw [hLk] at er
        subst er
        have HRC := hideIt (HR4.out.congr (L' := updF L k vs) (fun i hi => updF_other _ _ (by omega)))
        clear hn5 hf5 hd5 hLk
        go_wp2_with (at_builtin; refine wpList_append_own_at _ rfl _ _ 35 rfl w1.heap.size 24 i2 (.slice none 0 0) 1 24 Try.underlying35 hi2 hzz2 hs2 hy2 rfl (by decide) _ _ _ rfl (HRO.out.alloc _) ⟨w5.heap.size, 0, none⟩ 1 1 [.slice ar Lk cr] rfl rfl ?c1 ?c2 ?c3 ?c4 ?c5 ?_)
        case c1 => exact cell_one_new _ _ _
        case c2 => intro u hu; simp at hu; subst hu; rfl
        case c3 => unfold maxLen; omega
        case c4 => omega
        case c5 => simp; omega
        intro v' w7 hown hgrow _ _
        have HR7 := hideIt (HRC.out.snocF HFR.out (by rw [updF_same]; exact HN5.out) hown hgrow)
        have hg7 : w5.grownBy w7 (Value.slice ao k co).ownBlock := (World.grownBy_alloc w5 _ _).trans hgrow
        have HK7 := hideIt (HK5.out.kept hg7 (own_apart HK5.out HRO.out (by decide)))
        have hb7 : Below w1.heap.size w5 w7 := ((Below.refl w1.heap.size w5).alloc (by omega) _).grown hgrow (by simp; omega) (fun y hy => (HRO.out.lt y hy).1)
        have HD7 := hideIt (HD5.out.far hb7 hrb1 zd)
        have z7 := hb7.size
        have HF7 : Hid (∀ t, t < k + 1 → Fine (capD d) (updF L k vs t)) := fun t ht => by
          by_cases e : t = k
          · subst e; rw [updF_same]; exact HF5.out
          · rw [updF_other _ _ e]; exact HFI.out t (by omega)
        have HKS7 : Hid (∀ t, t < k + 1 → (keyAt (ks ++ [s]) t).size ≤ 60) := fun t ht => by
          rw [keyAt_snoc (by rw [HKL.out]; exact ht)]
          split
          · rename_i e; rw [HKL.out] at e; exact HKS.out t e
          · exact hs
        have HIN7 : Hid (∀ i, i < k + 1 → ∀ x, InNest (updF rs k (Value.slice ar Lk cr) i) (updF L k vs i).length (updF KV k KV5 i) (updF IV k IV5 i) x → (Value.slice ak4 (k + 1) ck4).ownBlock ≠ some x) := fun i hi x hx e2 => by
          by_cases e : i = k
          · subst e
            simp only [updF_same] at hx
            have h1 := (HN5.out.inn hx).1
            have h2 := (HK4.out.lt x e2).2
            omega
          · simp only [updF_other _ _ e] at hx
            exact HIN4.out i (by omega) x hx e2
        clear hown hgrow hb7 hg7
        go_wp2_with fail
        go_roundw
        case rel => exact ⟨k + 1, j - 1, ks ++ [s], _, _, _, _, _, by omega, by go_num, HR7.out, HF7.out, by rw [List.length_append, HKL.out]; rfl, HKS7.out, HK7.out, HIN7.out, HD7.out, by omega⟩
        case measure => simp [intOf]; omega
      · obtain rfl : j = 0 := by omega
        have HST : Hid (StrsAt wr.heap.size wr (.slice ak k ck) ks) := own_strs (by rw [HKL.out]; exact HK.out) (by rw [HKL.out]; omega) (fun i hi => by have := HKS.out i (by rw [← HKL.out]; exact hi); omega)
        have HCL : Hid (CellsAt wr.heap.size wr (.slice ao k co) ks.length rs) := by
          rw [Hid, HKL.out]
          refine ⟨ao, co, rfl, fun i hi => ?_, fun hp => ?_⟩
          · obtain ⟨a, c, e⟩ := own_slice (HR.out.nest i hi).row; exact ⟨a, _, c, e⟩
          · obtain ⟨g, cap, e, _, hlt⟩ := HR.out.row.form hp
            cases e
            exact ⟨g, 0, rfl, hlt, fun i hi => by rw [Nat.zero_add, HR.out.row.cellAt i (by omega)]; simp [hi]⟩
        go_wp2_with fail
        refine (l1Sorted_any wr.heap.size _ _ ks rs wr HST.out HCL.out (Nat.le_refl _) (by rw [HKL.out]; omega)).mono ?_
        rintro e w6 ⟨hso, hb6⟩
        have HB6 := hideIt hb6
        have z6 := hb6.size
        have HD6 := hideIt (HDR.out.next hb6)
        clear hb6
        cases hs : sortIn ks ks.length with
        | none =>
          rw [hs] at hso
          obtain rfl : e = _ := hso
          go_wp2_with fail
          refine (l1Word_any _ w6 (by decide)).mono ?_
          rintro e w8 ⟨r, vs, KV8, IV8, rfl, hf, hn, hb⟩
          have HF := hideIt hf
          have HN := hideIt (hn.low (Nat.le_trans zd (Nat.le_trans zr z6)))
          have HD8 := hideIt (HD6.out.next hb)
          obtain ⟨a, c, e⟩ := own_slice hn.row
          obtain ⟨M, hM⟩ : ∃ M, vs.length = M := ⟨_, rfl⟩
          rw [hM] at e
          subst e
          clear hf hn hb hM
          go_wp2_with fail
          go_ret
          exact ⟨⟨_, vs, KV8, IV8, rfl, HF.out.wide (capD_pos _), HN.out⟩, HD8.out⟩
        | some q =>
          obtain ⟨ns, ps⟩ := q
          rw [hs] at hso
          obtain ⟨nv, lv, rfl, hnv, hlv⟩ := hso
          obtain ⟨hl1, hl2⟩ := sortIn_len hs
          rw [HKL.out] at hl1 hl2
          have HNS : Hid (∀ i, i < ns.length → (keyAt ns i).size ≤ 60) := fun i hi => by
            obtain ⟨j, h1, h2⟩ := sortIn_keys hs _ (keyAt_mem hi)
            rw [h2]; exact HKS.out j (by rw [← HKL.out]; exact h1)
          have HSN : Hid (StrsAt w6.heap.size w6 nv ns) := own_strs hnv (by omega) (fun i hi => by have := HNS.out i hi; omega)
          have HPL := hideIt (HR.out.places HB6.out (fun x hx => by have := sortIn_mem hs x hx; rw [HKL.out] at this; exact this) hl2 (by omega) (fun i hi => (HFI.out i hi).few hcap) hlv)
          have HPF : Hid (∀ i, i < k → Fine (capD d) (L (ps.getD i 0))) := fun i hi => HFI.out _ (by
            have hi' : i < ps.length := by omega
            rw [List.getD_eq_getElem?_getD, List.getElem?_eq_getElem hi']
            have := sortIn_mem hs _ (List.getElem_mem hi')
            rw [HKL.out] at this
            exact this)
          have hfm := fine_make (L := fun i => L (ps.getD i 0)) (m := k) HPF.out (by omega) (kind := 6) (by omega) (by omega) (keys := ns) (by omega) HNS.out
          have hcat := (fine_cat (L := fun i => L (ps.getD i 0)) (m := k) HPF.out k (Nat.le_refl _)).1
          have hkc : k * capD d ≤ 3 * capD d := Nat.mul_le_mul_right _ (by omega)
          have HFM := hideIt hfm
          have HL1 := hideIt hl1
          obtain ⟨an, cn, en⟩ := own_slice hnv
          rw [hl1] at en
          subst en
          obtain ⟨al, cl, el⟩ := own_slice hlv
          rw [hl2] at el
          subst el
          clear hnv hlv hl1 hl2 hs hfm
          go_wp2_with fail
          refine (l1Make_any w6.heap.size 6 _ _ ns k (fun i => L (ps.getD i 0)) w6 HSN.out HPL.out (Nat.le_refl _) (by omega) (by rw [HL1.out]; omega) (by omega) (fun i hi => (HPF.out i hi).near hcap)).mono ?_
          rintro e w8 ⟨r, KV8, IV8, rfl, hn8, hb8⟩
          have HN8 := hideIt (hn8.low (Nat.le_trans zd (Nat.le_trans zr z6)))
          have HD8 := hideIt (HD6.out.next hb8)
          obtain ⟨ar, cr, er⟩ := own_slice hn8.row
          obtain ⟨M, hM⟩ : ∃ M, (makeNs 6 ns (fun i => L (ps.getD i 0)) k).length = M := ⟨_, rfl⟩
          rw [hM] at er
          subst er
          clear hn8 hb8 hM hcat hkc
          go_wp2_with fail
          go_ret
          exact ⟨⟨_, _, KV8, IV8, rfl, HFM.out, HN8.out⟩, HD8.out⟩
end Go.Proofs.Ytpfnkpkcjefelaa
