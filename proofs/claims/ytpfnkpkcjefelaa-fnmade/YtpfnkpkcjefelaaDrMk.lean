/-
  Codes of bytes that came in: paths drawn.
-/
import Derived.Test.YtpfnkpkcjefelaaDrO
import Derived.Test.YtpfnkpkcjefelaaBigK
import Derived.ProofKit
import Derived.OpenShut
import Derived.ShutString
import Derived.ChangeOld
import Derived.Below
import Derived.Test.YtpfnkpkcjefelaaBSrch
namespace Go.Proofs.Ytpfnkpkcjefelaa
open Go.ChangeShapes Go.WideShapes Go.ChangeAt Go.RowKit
set_option linter.unusedSimpArgs false
set_option linter.unusedVariables false

end Go.Proofs.Ytpfnkpkcjefelaa

/-
  The draws of FnMade: rows of values; keys beside them.
-/
namespace Go.Proofs.Ytpfnkpkcjefelaa
open Go.RowKit
set_option linter.unusedSimpArgs false
set_option linter.unusedVariables false

set_option maxRecDepth 100000 in
set_option maxHeartbeats 3200000 in
theorem drawListOf_any (B : Nat) (v : Value) (n : Nat) (w : World) (h : CodeAt B w v n) (hB : B ≤ w.heap.size) :
    Calls Try.prog 28 #[v] w fun e w' => ∃ r m L, e = .returned r ∧ m ≤ 4 ∧ (∀ i, i < m → Fine 40 (L i)) ∧ RowsAt w'.heap.size w' r m L ∧ Below w.heap.size w w' := by
  have H := hideIt h
  obtain ⟨_, a, cap, rfl, _⟩ := h
  obtain ⟨i2, hi2, hzz2, hs2, hy2⟩ := info_parts infoRowV
  obtain ⟨rb, hrb⟩ : ∃ rb, w.heap.size = rb := ⟨_, rfl⟩
  have HRB := hideIt hrb
  clear hrb
  go_enter Try.func28, Try.ntmps28
  go_wp2_with fail
  refine (l1Open_any B _ n w H.out hB).mono ?_
  rintro e w1 ⟨rfl, hr, hb⟩
  rw [HRB.out] at hr ⊢
  have HB := hideIt hb
  have z1 := hb.size
  have hrb1 : rb < w1.heap.size := hr.lt
  have HD := hideIt (Drawn.refl hr)
  clear hr hb
  go_wp2_with fail
  have hba : Below w1.heap.size w1 (w1.alloc (.cells #[] 24)) := (Below.refl _ _).alloc (Nat.le_refl _) _
  have HDA := hideIt (HD.out.next hba)
  have HRA : Hid ((w1.alloc (.cells #[] 24)).ownsRow w1.heap.size 24 1 (.slice (some ⟨w1.heap.size, 0, none⟩) 0 0) 0 []) := by
    have := World.ownsRow_lit (base := w1.heap.size) (e := 24) (size := 1) w1 #[] 0 (Nat.le_refl _) (by simp [maxLen]) rfl
    simpa [Hid] using this
  have hsA : w1.heap.size ≤ (w1.alloc (.cells #[] 24)).heap.size := by simp
  generalize w1.alloc (.cells #[] 24) = WA at HDA HRA hsA ⊢
  clear hba
  refine (rdBelow_any rb n 5 WA HDA.out.rd (by omega) (by omega)).mono ?_
  rintro e w2 ⟨⟨y, hy, rfl⟩, hd⟩
  have HD2 := hideIt (HDA.out.trans hd)
  have z2 := hd.only.1
  have HR0 := hideIt (Rows2.start (own_from HRA.out (hd.from hrb1)) (Nat.le_trans hsA z2) (fun _ => []))
  clear hd HRA
  go_wp2_with fail
  go_loopw [4, 5] (fun o i wr => ∃ (k j : Nat) (L : Nat → List VN) (rs : Nat → Value) (KV IV : Nat → Nat → Value) (lo : Nat → Nat), k + j ≤ 4 ∧ i = .int .i64 j ∧ Rows2 w1.heap.size wr o k L rs KV IV lo ∧ (∀ t, t < k → Fine 40 (L t)) ∧ Drawn rb n w1 wr ∧ w1.heap.size ≤ wr.heap.size) (fun _ i _ => (intOf i).toNat)
  case atStart => exact ⟨0, y, _, _, _, _, _, by omega, rfl, HR0.out, fun t ht => by omega, HD2.out, Nat.le_trans hsA z2⟩
  case round =>
    obtain ⟨k, j, L, rs, KV, IV, lo, hkj, rfl, hrw, hfi, hdr, zr⟩ := hrel
    have HR := hideIt hrw
    have HFI := hideIt hfi
    have HDR := hideIt hdr
    obtain ⟨ao, co, eo⟩ := own_slice hrw.row
    subst eo
    clear hrw hfi hdr HR0 HD2
    by_cases hj : 0 < j
    · have hj' : (0 : Int) < (j : Int) := by omega
      go_wp2_with fail
      refine (rdMaybe_any rb n wr HDR.out.rd).mono ?_
      rintro e w3 ⟨⟨r, vs, KV3, IV3, rfl, hf3, hn3⟩, hd3⟩
      have HN3 := hideIt hn3
      have HF3 := hideIt hf3
      have HD3 := hideIt (HDR.out.trans hd3)
      have HFR := hideIt (hd3.from hrb1)
      have z3 := hd3.only.1
      have HRO := hideIt (HR.out.from HFR.out).row
      obtain ⟨ar, cr, er⟩ := own_slice hn3.row
      obtain ⟨Lk, hLk⟩ : ∃ Lk, vs.length = Lk := ⟨_, rfl⟩
      rw [hLk] at er
      subst er
      have HRC := hideIt (HR.out.congr (L' := updF L k vs) (fun i hi => updF_other _ _ (by omega)))
      clear hn3 hf3 hd3 hLk
      go_wp2_with (at_builtin; refine wpList_append_own_at _ rfl _ _ 35 rfl w1.heap.size 24 i2 (.slice none 0 0) 1 24 Try.underlying35 hi2 hzz2 hs2 hy2 rfl (by decide) _ _ _ rfl (HRO.out.alloc _) ⟨w3.heap.size, 0, none⟩ 1 1 [.slice ar Lk cr] rfl rfl ?c1 ?c2 ?c3 ?c4 ?c5 ?_)
      case c1 => exact cell_one_new _ _ _
      case c2 => intro u hu; simp at hu; subst hu; rfl
      case c3 => unfold maxLen; omega
      case c4 => omega
      case c5 => simp; omega
      intro v' w5 hown hgrow _ _
      have HR5 := hideIt (HRC.out.snocF HFR.out (by rw [updF_same]; exact HN3.out) hown hgrow)
      have hb5 : Below w1.heap.size w3 w5 := ((Below.refl w1.heap.size w3).alloc (by omega) _).grown hgrow (by simp; omega) (fun y hy => (HRO.out.lt y hy).1)
      have HD5 := hideIt (HD3.out.far hb5 hrb1 (Nat.le_refl _))
      have z5 := hb5.size
      have HF5 : Hid (∀ t, t < k + 1 → Fine 40 (updF L k vs t)) := fun t ht => by
        by_cases e : t = k
        · subst e; rw [updF_same]; exact HF3.out
        · rw [updF_other _ _ e]; exact HFI.out t (by omega)
      clear hown hgrow hb5
      go_wp2_with fail
      go_roundw
      case rel => exact ⟨k + 1, j - 1, _, _, _, _, _, by omega, by go_num, HR5.out, HF5.out, HD5.out, by omega⟩
      case measure => simp [intOf]; omega
    · obtain rfl : j = 0 := by omega
      have HRW := hideIt (HR.out.rows (by omega) (fun i hi => (HFI.out i hi).few (by omega)))
      have HBW := hideIt (HB.out.trans (by rw [HRB.out]; exact HDR.out.below))
      go_wp2_with fail
      go_ret
      exact ⟨_, k, L, rfl, by omega, HFI.out, HRW.out, HBW.out⟩

set_option maxRecDepth 100000 in
set_option maxHeartbeats 6400000 in
theorem drawMapOf_any (B : Nat) (v : Value) (n : Nat) (w : World) (h : CodeAt B w v n) (hB : B ≤ w.heap.size) :
    Calls Try.prog 30 #[v] w fun e w' => ∃ kv r ks m L, e = .returned (.tuple #[kv, r]) ∧ m ≤ 4 ∧ ks.length ≤ 5 ∧ (∀ t, t < ks.length → (keyAt ks t).size ≤ 60) ∧ (∀ i, i < m → Fine 40 (L i)) ∧ StrsAt w'.heap.size w' kv ks ∧ RowsAt w'.heap.size w' r m L ∧ Below w.heap.size w w' := by
  have H := hideIt h
  obtain ⟨_, a, cap, rfl, _⟩ := h
  obtain ⟨i1, hi1, hzz1, hs1, hy1⟩ := info_parts infoStr
  obtain ⟨i2, hi2, hzz2, hs2, hy2⟩ := info_parts infoRowV
  obtain ⟨rb, hrb⟩ : ∃ rb, w.heap.size = rb := ⟨_, rfl⟩
  have HRB := hideIt hrb
  clear hrb
  go_enter Try.func30, Try.ntmps30
  go_wp2_with fail
  refine (l1Open_any B _ n w H.out hB).mono ?_
  rintro e w1 ⟨rfl, hr, hb⟩
  rw [HRB.out] at hr ⊢
  have HB := hideIt hb
  have z1 := hb.size
  have hrb1 : rb < w1.heap.size := hr.lt
  have HD := hideIt (Drawn.refl hr)
  clear hr hb
  go_wp2_with fail
  have hba : Below w1.heap.size w1 ((w1.alloc (.cells #[] 9)).alloc (.cells #[] 24)) := ((Below.refl _ _).alloc (Nat.le_refl _) _).alloc (by simp) _
  have HDA := hideIt (HD.out.next hba)
  have HKA : Hid (((w1.alloc (.cells #[] 9)).alloc (.cells #[] 24)).ownsRow w1.heap.size 9 1 (.slice (some ⟨w1.heap.size, 0, none⟩) 0 0) 0 (([] : List ByteArray).map .string)) := (World.ownsRow_lit (base := w1.heap.size) w1 #[] 0 (Nat.le_refl _) (by simp [maxLen]) rfl).alloc _
  have HRA : Hid (((w1.alloc (.cells #[] 9)).alloc (.cells #[] 24)).ownsRow w1.heap.size 24 1 (.slice (some ⟨w1.heap.size + 1, 0, none⟩) 0 0) 0 []) := by
    have := World.ownsRow_lit (base := w1.heap.size) (e := 24) (size := 1) (w1.alloc (.cells #[] 9)) #[] 0 (by simp) (by simp [maxLen]) rfl
    simpa [Hid] using this
  have hsA : w1.heap.size ≤ ((w1.alloc (.cells #[] 9)).alloc (.cells #[] 24)).heap.size := by simp; omega
  generalize (w1.alloc (.cells #[] 9)).alloc (.cells #[] 24) = WA at HDA HKA HRA hsA ⊢
  clear hba
  refine (rdBelow_any rb n 5 WA HDA.out.rd (by omega) (by omega)).mono ?_
  rintro e w2 ⟨⟨y, hy, rfl⟩, hd⟩
  have HD2 := hideIt (HDA.out.trans hd)
  have z2 := hd.only.1
  have HR0 := hideIt (Rows2.start (own_from HRA.out (hd.from hrb1)) (Nat.le_trans hsA z2) (fun _ => []))
  have HK0 := hideIt (own_from HKA.out (hd.from hrb1))
  clear hd HRA HKA
  go_wp2_with fail
  go_loopw [5, 6, 7] (fun kv o i wr => ∃ (k j : Nat) (ks : List ByteArray) (L : Nat → List VN) (rs : Nat → Value) (KV IV : Nat → Nat → Value) (lo : Nat → Nat), k + j ≤ 4 ∧ i = .int .i64 j ∧ Rows2 w1.heap.size wr o k L rs KV IV lo ∧ (∀ t, t < k → Fine 40 (L t)) ∧ ks.length = k ∧ (∀ t, t < k → (keyAt ks t).size ≤ 60) ∧ wr.ownsRow w1.heap.size 9 1 kv k (ks.map .string) ∧ (∀ i, i < k → ∀ x, InNest (rs i) (L i).length (KV i) (IV i) x → kv.ownBlock ≠ some x) ∧ Drawn rb n w1 wr ∧ w1.heap.size ≤ wr.heap.size) (fun _ _ i _ => (intOf i).toNat)
  case atStart => exact ⟨0, y, [], _, _, _, _, _, by omega, rfl, HR0.out, fun t ht => by omega, rfl, fun t ht => by omega, HK0.out, fun t ht => by omega, HD2.out, Nat.le_trans hsA z2⟩
  case round =>
    obtain ⟨k, j, ks, L, rs, KV, IV, lo, hkj, rfl, hrw, hfi, hkl, hksz, hkr, hin, hdr, zr⟩ := hrel
    have HR := hideIt hrw
    have HFI := hideIt hfi
    have HDR := hideIt hdr
    have HKL := hideIt hkl
    have HKS := hideIt hksz
    have HK := hideIt hkr
    have HIN := hideIt hin
    have HTOP : Hid (∀ i, i < k → ∀ x, InNest (rs i) (L i).length (KV i) (IV i) x → x < wr.heap.size) := fun i hi x hx => by
      have h1 := hrw.inn i hi x hx
      have h2 := hrw.mono (i + 1) k (by omega) (Nat.le_refl _)
      have h3 := hrw.top
      omega
    obtain ⟨ao, co, eo⟩ := own_slice hrw.row
    subst eo
    obtain ⟨ak, ck, ek⟩ := own_slice hkr
    subst ek
    clear hrw hfi hdr hkl hksz hkr hin HR0 HK0 HD2
    by_cases hj : 0 < j
    · have hj' : (0 : Int) < (j : Int) := by omega
      go_wp2_with fail
      refine (rdText_any rb n wr HDR.out.rd).mono ?_
      rintro e w3 ⟨⟨s, hs, rfl⟩, hd3⟩
      have HD3 := hideIt (HDR.out.trans hd3)
      have z3 := hd3.only.1
      have HK3 := hideIt (own_from HK.out (hd3.from hrb1))
      have HR3 := hideIt (HR.out.from (hd3.from hrb1))
      clear hd3
      go_wp2_with (at_builtin; refine wpList_append_own_at _ rfl _ _ 38 rfl w1.heap.size 9 i1 (.string ByteArray.empty) 1 16 Try.underlying38 hi1 hzz1 hs1 hy1 rfl (by decide) _ _ _ rfl (HK3.out.alloc _) ⟨w3.heap.size, 0, none⟩ 1 1 [.string s] rfl rfl ?c1 ?c2 ?c3 ?c4 ?c5 ?_)
      case c1 => exact cell_one_new _ _ _
      case c2 => intro u hu; simp at hu; subst hu; rfl
      case c3 => unfold maxLen; omega
      case c4 => omega
      case c5 => simp; omega
      intro kv' w4 hownk hgk _ hatk
      have hg1 : w3.grownBy w4 (Value.slice ak k ck).ownBlock := (World.grownBy_alloc w3 _ _).trans hgk
      have HR4 := hideIt (HR3.out.kept hg1 (own_apart HR3.out.row HK3.out (by decide)) HIN.out)
      have HK4 : Hid (w4.ownsRow w1.heap.size 9 1 kv' (k + 1) ((ks ++ [s]).map .string)) := by rw [Hid, List.map_append]; exact hownk
      have hb4 : Below w1.heap.size w3 w4 := ((Below.refl w1.heap.size w3).alloc (by omega) _).grown hgk (by simp; omega) (fun y hy => (HK3.out.lt y hy).1)
      have HD4 := hideIt (HD3.out.far hb4 hrb1 (Nat.le_refl _))
      have z4 := hb4.size
      have HIN4 : Hid (∀ i, i < k → ∀ x, InNest (rs i) (L i).length (KV i) (IV i) x → kv'.ownBlock ≠ some x) := fun i hi x hx e2 => by
        rcases hatk with e | e
        · rw [e] at e2; exact HIN.out i hi x hx e2
        · rw [e] at e2
          have h1 := HTOP.out i hi x hx
          simp at e2
          omega
      obtain ⟨ak4, ck4, ek4⟩ := own_slice hownk
      subst ek4
      clear hownk hgk hatk hg1 hb4 HR3 HK3
      go_wp2_with fail
      refine (rdValue_any rb n 2 (by omega) w4 HD4.out.rd).mono ?_
      rintro e w5 ⟨⟨r, vs, KV5, IV5, rfl, hf5, hn5⟩, hd5⟩
      have HN5 := hideIt hn5
      have HF5 := hideIt (hf5.wide (show capD 2 ≤ 40 by decide))
      have HD5 := hideIt (HD4.out.trans hd5)
      have HFR := hideIt (hd5.from hrb1)
      have z5 := hd5.only.1
      have HRO := hideIt (HR4.out.from HFR.out).row
      have HK5 := hideIt (own_from HK4.out HFR.out)
      obtain ⟨ar, cr, er⟩ := own_slice hn5.row
      obtain ⟨Lk, hLk⟩ : ∃ Lk, vs.length = Lk := ⟨_, rfl⟩
      have HLK := hideIt hLk
      rw [hLk] at er
      subst er
      have HRC := hideIt (HR4.out.congr (L' := updF L k vs) (fun i hi => updF_other _ _ (by omega)))
      clear hn5 hf5 hd5 hLk
      go_wp2_with (at_builtin; refine wpList_append_own_at _ rfl _ _ 35 rfl w1.heap.size 24 i2 (.slice none 0 0) 1 24 Try.underlying35 hi2 hzz2 hs2 hy2 rfl (by decide) _ _ _ rfl (HRO.out.alloc _) ⟨w5.heap.size, 0, none⟩ 1 1 [.slice ar Lk cr] rfl rfl ?c1 ?c2 ?c3 ?c4 ?c5 ?_)
      case c1 => exact cell_one_new _ _ _
      case c2 => intro u hu; simp at hu; subst hu; rfl
      case c3 => unfold maxLen; omega
      case c4 => omega
      case c5 => simp; omega
      intro v' w7 hown hgrow _ _
      have HR7 := hideIt (HRC.out.snocF HFR.out (by rw [updF_same]; exact HN5.out) hown hgrow)
      have hg7 : w5.grownBy w7 (Value.slice ao k co).ownBlock := (World.grownBy_alloc w5 _ _).trans hgrow
      have HK7 := hideIt (HK5.out.kept hg7 (own_apart HK5.out HRO.out (by decide)))
      have hb7 : Below w1.heap.size w5 w7 := ((Below.refl w1.heap.size w5).alloc (by omega) _).grown hgrow (by simp; omega) (fun y hy => (HRO.out.lt y hy).1)
      have HD7 := hideIt (HD5.out.far hb7 hrb1 (Nat.le_refl _))
      have z7 := hb7.size
      have HF7 : Hid (∀ t, t < k + 1 → Fine 40 (updF L k vs t)) := fun t ht => by
        by_cases e : t = k
        · subst e; rw [updF_same]; exact HF5.out
        · rw [updF_other _ _ e]; exact HFI.out t (by omega)
      have HKS7 : Hid (∀ t, t < k + 1 → (keyAt (ks ++ [s]) t).size ≤ 60) := fun t ht => by
        rw [keyAt_snoc (by rw [HKL.out]; exact ht)]
        split
        · rename_i e; rw [HKL.out] at e; exact HKS.out t e
        · exact hs
      have HIN7 : Hid (∀ i, i < k + 1 → ∀ x, InNest (updF rs k (Value.slice ar Lk cr) i) (updF L k vs i).length (updF KV k KV5 i) (updF IV k IV5 i) x → (Value.slice ak4 (k + 1) ck4).ownBlock ≠ some x) := fun i hi x hx e2 => by
        by_cases e : i = k
        · subst e
          simp only [updF_same] at hx
          have h1 := (HN5.out.inn hx).1
          have h2 := (HK4.out.lt x e2).2
          omega
        · simp only [updF_other _ _ e] at hx
          exact HIN4.out i (by omega) x hx e2
      clear hown hgrow hb7 hg7
      go_wp2_with fail
      go_roundw
      case rel => exact ⟨k + 1, j - 1, ks ++ [s], _, _, _, _, _, by omega, by go_num, HR7.out, HF7.out, by rw [List.length_append, HKL.out]; rfl, HKS7.out, HK7.out, HIN7.out, HD7.out, by omega⟩
      case measure => simp [intOf]; omega
    · obtain rfl : j = 0 := by omega
      go_wp2_with fail
      refine (rdOnce_any rb n 20 wr HDR.out.rd (by omega) (by omega)).mono ?_
      rintro e w3 ⟨⟨b, rfl⟩, hd3⟩
      have HD3 := hideIt (HDR.out.trans hd3)
      have z3 := hd3.only.1
      have HK3 := hideIt (own_from HK.out (hd3.from hrb1))
      have HR3 := hideIt (HR.out.from (hd3.from hrb1))
      have HBW := hideIt (HB.out.trans (by rw [HRB.out]; exact HD3.out.below))
      clear hd3
      cases b
      · have HST : Hid (StrsAt w3.heap.size w3 (.slice ak k ck) ks) := own_strs (by rw [HKL.out]; exact HK3.out) (by rw [HKL.out]; omega) (fun i hi => by have := HKS.out i (by rw [← HKL.out]; exact hi); omega)
        have HRW := hideIt (HR3.out.rows (by omega) (fun i hi => (HFI.out i hi).few (by omega)))
        go_wp2_with fail
        go_ret2
        exact ⟨_, _, ks, k, L, rfl, by omega, by rw [HKL.out]; omega, fun t ht => HKS.out t (by rw [← HKL.out]; exact ht), HFI.out, HST.out, HRW.out, HBW.out⟩
      · obtain ⟨s, hsz, hse⟩ : ∃ s : ByteArray, s.size ≤ 60 ∧ (⟨#[109, 111, 114, 101]⟩ : ByteArray) = s := ⟨_, by decide, rfl⟩
        go_wp2_with (at_builtin; refine wpList_append_own_at _ rfl _ _ 38 rfl w1.heap.size 9 i1 (.string ByteArray.empty) 1 16 Try.underlying38 hi1 hzz1 hs1 hy1 rfl (by decide) _ _ _ rfl (HK3.out.alloc _) ⟨w3.heap.size, 0, none⟩ 1 1 [.string s] rfl rfl ?c1 ?c2 ?c3 ?c4 ?c5 ?_)
        case c1 => exact cell_one_new _ _ _
        case c2 => intro u hu; simp at hu; subst hu; rfl
        case c3 => unfold maxLen; omega
        case c4 => omega
        case c5 => simp; omega
        intro kv' w4 hownk hgk _ hatk
        have hg1 : w3.grownBy w4 (Value.slice ak k ck).ownBlock := (World.grownBy_alloc w3 _ _).trans hgk
        have HR4 := hideIt (HR3.out.kept hg1 (own_apart HR3.out.row HK3.out (by decide)) HIN.out)
        have HK4 : Hid (w4.ownsRow w1.heap.size 9 1 kv' (k + 1) ((ks ++ [s]).map .string)) := by rw [Hid, List.map_append]; exact hownk
        have hb4 : Below w1.heap.size w3 w4 := ((Below.refl w1.heap.size w3).alloc (by omega) _).grown hgk (by simp; omega) (fun y hy => (HK3.out.lt y hy).1)
        have HB4 := hideIt (HBW.out.trans (hb4.mono z1))
        have HKS4 : Hid (∀ t, t < (ks ++ [s]).length → (keyAt (ks ++ [s]) t).size ≤ 60) := fun t ht => by
          have ht' : t < k + 1 := by simpa [HKL.out] using ht
          rw [keyAt_snoc (by rw [HKL.out]; exact ht')]
          split
          · rename_i e; rw [HKL.out] at e; exact HKS.out t e
          · exact hsz
        have HLL : Hid ((ks ++ [s]).length = k + 1) := by rw [Hid, List.length_append, HKL.out]; rfl
        have HST : Hid (StrsAt w4.heap.size w4 kv' (ks ++ [s])) := own_strs (by rw [HLL.out]; exact HK4.out) (by rw [HLL.out]; omega) (fun i hi => by have := HKS4.out i hi; omega)
        have HRW := hideIt (HR4.out.rows (by omega) (fun i hi => (HFI.out i hi).few (by omega)))
        obtain ⟨ak4, ck4, ek4⟩ := own_slice hownk
        subst ek4
        clear hownk hgk hatk hg1 hb4 hse
        go_wp2_with fail
        go_ret2
        exact ⟨_, _, ks ++ [s], k, L, rfl, by omega, by rw [HLL.out]; omega, HKS4.out, HFI.out, HST.out, HRW.out, HB4.out⟩
end Go.Proofs.Ytpfnkpkcjefelaa
