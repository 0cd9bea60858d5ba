import Derived.Test.YtcidjhnogldgmaaGreatDoorGupN
import Derived.Test.YtcidjhnogldgmaaGreatDoorIxB
import Derived.Test.YtcidjhnogldgmaaGreatDoorPick
namespace Go.Proofs.YtcidjhnogldgmaaGreatDoor
open Go.RowKit
set_option linter.unusedSimpArgs false
set_option linter.unusedVariables false
structure SrAt (w : World) (rb : Nat) (s : ByteArray) (p : Nat) : Prop where
  br : BrAt w rb s p
  bl : w.cell? ⟨rb, 2, none⟩ = some (.string ⟨#[9, 10, 13, 32]⟩)
def placeOf (w : World) (rb : Nat) : Nat := match w.cell? ⟨rb, 1, none⟩ with
  | some v => (intOf v).toNat
  | none => 0
theorem byS {s : ByteArray} {p : Nat} (h : p < s.size) : s[p].toNat = byAt s.data.toList p := (getB h).symm
set_option maxRecDepth 100000 in
set_option maxHeartbeats 1600000 in
theorem peek_any {rb p : Nat} {s : ByteArray} {w : World} (h : BrAt w rb s p) (hs : s.size ≤ 1048576) :
    Calls Tryz.prog 103 #[.pointer (some ⟨rb, 0, none⟩)] w fun e w' => e = .returned (.int .u8 (byAt s.data.toList p : Int)) ∧ Below w.heap.size w w' := by
  have H := hideB h
  have h1 := h.src
  have h2 := h.place
  have h4 := h.lt
  have h5 := h.le
  clear h
  by_cases hp : p < s.size
  · have hne : ((p : Int) == (s.size : Int)) = false := by simp; omega
    have HB := hideB (byS hp)
    go_enter Tryz.func103, Tryz.ntmps103
    go_wp2_with fail
    go_quiet (fail)
    have HD1 := hideB (below_drewB (w := w) nq)
    have HR1 := hideB (H.out.below HD1.out)
    have k1 := HR1.out.src
    have k2 := HR1.out.place
    generalize w.drewN nq = W1 at HR1 HD1 k1 k2 ⊢
    clear nq h1 h2
    go_wp2_with fail
    go_quiet (fail)
    have HD2 := hideB (below_drewB (w := W1) nq)
    go_wp2_with fail
    go_ret
    exact ⟨by rw [HB.out]; rfl, HD1.out.trans (HD2.out.mono HD1.out.size)⟩
  · obtain rfl : p = s.size := by omega
    have HB : Hid (byAt s.data.toList s.size = 0) := byAt_past (by rw [len_is]; omega)
    go_enter Tryz.func103, Tryz.ntmps103
    go_wp2_with fail
    go_quiet (fail)
    go_wp2_with fail
    go_ret
    exact ⟨by rw [HB.out]; rfl, below_drewB nq⟩
end Go.Proofs.YtcidjhnogldgmaaGreatDoor

namespace Go.Proofs.YtcidjhnogldgmaaGreatDoor
open Go.RowKit
set_option linter.unusedSimpArgs false
set_option linter.unusedVariables false
structure SfAt (X : Nat → Option Value) (w : World) (rb : Nat) (s : ByteArray) (p : Nat) : Prop where
  br : BrAt w rb s p
  bl : ∀ j, j ≠ 1 → w.cell? ⟨rb, j, none⟩ = X j
  fz : ∀ j, w.frozen? ⟨rb, j, none⟩ = false
theorem SfAt.keep {X : Nat → Option Value} {w w' : World} {rb p : Nat} {s : ByteArray} (h : SfAt X w rb s p) (hb : w'.heap[rb]? = w.heap[rb]?) (hz : w.heap.size ≤ w'.heap.size) : SfAt X w' rb s p := ⟨h.br.keep hb hz, fun j hj => (cellOf hb).trans (h.bl j hj), fun j => (frozenOf hb).trans (h.fz j)⟩
theorem SfAt.below {X : Nat → Option Value} {w w' : World} {rb p : Nat} {s : ByteArray} (h : SfAt X w rb s p) (hb : Below w.heap.size w w') : SfAt X w' rb s p := h.keep (hb.block rb h.br.lt) hb.size
theorem SfAt.to {X : Nat → Option Value} {w : World} {rb p q : Nat} {s : ByteArray} (h : SfAt X w rb s p) (hq : q ≤ s.size) : SfAt X (w.setCell ⟨rb, 1, none⟩ (.int .i64 (q : Int))) rb s q :=
  ⟨⟨by simpa using h.br.lt, by rw [World.cell?_setCell_other (h := by simp)]; exact h.br.src, World.cell?_setCell_same _ _ _ h.br.place, by rw [World.frozen?_setCell]; exact h.br.free, hq⟩, fun j hj => by rw [World.cell?_setCell_other (h := by simp)]; exact h.bl j hj, fun j => by rw [World.frozen?_setCell]; exact h.fz j⟩
theorem SfAt.placeOf {X : Nat → Option Value} {w : World} {rb p : Nat} {s : ByteArray} (h : SfAt X w rb s p) : placeOf w rb = p := by unfold Go.Proofs.YtcidjhnogldgmaaGreatDoor.placeOf; rw [h.br.place]; simp [intOf]
set_option maxRecDepth 100000 in
set_option maxHeartbeats 1600000 in
theorem nextF_yes {X : Nat → Option Value} {rb p : Nat} {s : ByteArray} {w : World} (h : SfAt X w rb s p) (hp : p < s.size) (hs : s.size ≤ 1048576) :
    Calls Tryz.prog 142 #[.pointer (some ⟨rb, 0, none⟩)] w fun e w' => e = .returned (.int .u8 (s[p].toNat : Int)) ∧ SfAt X w' rb s (p + 1) ∧ But rb w w' := by
  have H := hideB h
  have h1 := h.br.src
  have h2 := h.br.place
  have h3 := h.br.free
  have h4 := h.br.lt
  clear h
  have hne : ((p : Int) == (s.size : Int)) = false := by simp; omega
  go_enter Tryz.func142, Tryz.ntmps142
  go_wp2_with fail
  go_quiet (fail)
  have HD1 := hideB (below_drewB (w := w) nq)
  have HR1 := hideB (H.out.below HD1.out)
  have k1 := HR1.out.br.src
  have k2 := HR1.out.br.place
  have k3 := HR1.out.br.free
  generalize w.drewN nq = W1 at HR1 HD1 k1 k2 k3 ⊢
  clear nq h1 h2 h3
  go_wp2_with fail
  go_quiet (fail)
  have HD2 := hideB (below_drewB (w := W1) nq)
  have HR2 := hideB (HR1.out.below HD2.out)
  have l1 := HR2.out.br.src
  have l2 := HR2.out.br.place
  have l3 := HR2.out.br.free
  generalize W1.drewN nq = W2 at HR2 HD2 l1 l2 l3 ⊢
  clear nq k1 k2 k3
  go_wp2_with fail
  go_ret
  refine ⟨rfl, HR2.out.to hp, ?_⟩
  exact ((But.of_below HD1.out).trans (But.of_below HD2.out)).trans (But.of_set _ _)
end Go.Proofs.YtcidjhnogldgmaaGreatDoor

namespace Go.Proofs.YtcidjhnogldgmaaGreatDoor
open Go.RowKit
set_option linter.unusedSimpArgs false
set_option linter.unusedVariables false
theorem hex_ix0 : ∀ n : Fin 256, Go.Lib.indexByte [48, 49, 50, 51, 52, 53, 54, 55, 56, 57, 97, 98, 99, 100, 101, 102] (UInt8.ofNat (if 65 ≤ n.val ∧ n.val ≤ 70 then n.val + 32 else n.val)) = (match hexC n.val with | some d => (d : Int) | none => -1) := by decide +kernel
set_option maxRecDepth 100000 in
set_option maxHeartbeats 1600000 in
theorem hexValue_any (c : Nat) (hc : c < 256) (w : World) :
    Calls Tryz.prog 173 #[.int .u8 (c : Int)] w fun e w' => w' = w ∧ ((∃ d : Nat, hexC c = some d ∧ e = .returned (.int .i64 (d : Int))) ∨ (hexC c = none ∧ e = gup)) := by
  have HX := hideB (hex_ix0 ⟨c, hc⟩)
  obtain ⟨b, hb⟩ : ∃ b, (if 65 ≤ c ∧ c ≤ 70 then c + 32 else c) = b := ⟨_, rfl⟩
  have hb256 : b < 256 := by rw [← hb]; split <;> omega
  have HBI : Hid (∀ w, Calls Tryz.prog 75 #[.string ⟨#[48, 49, 50, 51, 52, 53, 54, 55, 56, 57, 97, 98, 99, 100, 101, 102]⟩, .int .u8 (b : Int)] w fun e w' => e = .returned (.int .i64 (Go.Lib.indexByte [48, 49, 50, 51, 52, 53, 54, 55, 56, 57, 97, 98, 99, 100, 101, 102] (UInt8.ofNat b))) ∧ w' = w) := fun w => by
    have := indexByte_any ⟨#[48, 49, 50, 51, 52, 53, 54, 55, 56, 57, 97, 98, 99, 100, 101, 102]⟩ (UInt8.ofNat b) w
    rw [UInt8.toNat_ofNat', Nat.mod_eq_of_lt (by omega)] at this
    exact this
  cases hh : hexC c with
  | some d =>
    have h1 := HX.out
    simp only [hh] at h1
    rw [hb] at h1
    rw [h1] at HBI
    have hd : ¬ (d : Int) < 0 := by have := Int.natCast_nonneg d; omega
    clear h1 HX
    by_cases hu : 65 ≤ c ∧ c ≤ 70
    · obtain ⟨u1, u2⟩ := hu
      rw [if_pos ⟨u1, u2⟩] at hb
      have q1 : (65 : Int) ≤ (c : Int) := by omega
      have q2 : (c : Int) ≤ 70 := by omega
      have q3 : IntKind.u8.wrap ((c : Int) + 32) = (b : Int) := by rw [u8_wrap (by omega) (by omega)]; omega
      clear hb
      go_enter Tryz.func173, Tryz.ntmps173
      go_wp2_with (go_at_call 75; refine (HBI.out _).mono ?_; rintro e w1 ⟨rfl, rfl⟩)
      go_ret
      exact ⟨rfl, .inl ⟨d, rfl, rfl⟩⟩
    · rw [if_neg hu] at hb
      subst hb
      by_cases q1 : (65 : Int) ≤ (c : Int)
      · have q2 : ¬ (c : Int) ≤ 70 := by omega
        go_enter Tryz.func173, Tryz.ntmps173
        go_wp2_with (go_at_call 75; refine (HBI.out _).mono ?_; rintro e w1 ⟨rfl, rfl⟩)
        go_ret
        exact ⟨rfl, .inl ⟨d, rfl, rfl⟩⟩
      · go_enter Tryz.func173, Tryz.ntmps173
        go_wp2_with (go_at_call 75; refine (HBI.out _).mono ?_; rintro e w1 ⟨rfl, rfl⟩)
        go_ret
        exact ⟨rfl, .inl ⟨d, rfl, rfl⟩⟩
  | none =>
    have h1 := HX.out
    simp only [hh] at h1
    rw [hb] at h1
    rw [h1] at HBI
    have hu : ¬ (65 ≤ c ∧ c ≤ 70) := fun hu => by unfold hexC at hh; rw [if_neg (by omega), if_neg (by omega), if_pos hu] at hh; cases hh
    clear h1 HX
    rw [if_neg hu] at hb
    subst hb
    by_cases q1 : (65 : Int) ≤ (c : Int)
    · have q2 : ¬ (c : Int) ≤ 70 := by omega
      go_enter Tryz.func173, Tryz.ntmps173
      go_wp2_with (go_at_call 75; refine (HBI.out _).mono ?_; rintro e w1 ⟨rfl, rfl⟩)
      exact ⟨rfl, rfl, .inr ⟨by first | rfl | trivial, rfl⟩⟩
    · go_enter Tryz.func173, Tryz.ntmps173
      go_wp2_with (go_at_call 75; refine (HBI.out _).mono ?_; rintro e w1 ⟨rfl, rfl⟩)
      exact ⟨rfl, rfl, .inr ⟨by first | rfl | trivial, rfl⟩⟩
end Go.Proofs.YtcidjhnogldgmaaGreatDoor

namespace Go.Proofs.YtcidjhnogldgmaaGreatDoor
open Go.RowKit
set_option linter.unusedSimpArgs false
set_option linter.unusedVariables false
theorem esc_ix0 : ∀ n : Fin 256, n.val ≠ 47 → (escC n.val = none ∧ Go.Lib.indexByte [34, 92, 98, 116, 110, 102, 114] (UInt8.ofNat n.val) = -1) ∨ ∃ i : Fin 7, Go.Lib.indexByte [34, 92, 98, 116, 110, 102, 114] (UInt8.ofNat n.val) = (i.val : Int) ∧ escC n.val = some (([34, 92, 8, 9, 10, 12, 13] : List Nat).getD i.val 0) := by decide +kernel
theorem escJ_past {L : List UInt8} {p : Nat} (h : L.length ≤ p) : escJ L p = none := by unfold escJ; rw [if_pos h]
theorem escJ_one {L : List UInt8} {p b : Nat} (h : p < L.length) (hb : escC (byAt L p) = some b) : escJ L p = some (b, p + 1) := by unfold escJ; rw [if_neg (by omega)]; simp only [hb]
theorem escJ_code {L : List UInt8} {p : Nat} (h : p < L.length) (hb : byAt L p = 117) : escJ L p = codeJ L (p + 1) := by
  unfold escJ
  rw [if_neg (by omega)]
  have : escC (byAt L p) = none := by rw [hb]; rfl
  simp only [this, if_pos hb]
theorem escJ_none {L : List UInt8} {p : Nat} (h : p < L.length) (hb : escC (byAt L p) = none) (hc : byAt L p ≠ 117) : escJ L p = none := by
  unfold escJ
  rw [if_neg (by omega)]
  simp only [hb, if_neg hc]
theorem escS_at : ∀ i : Nat, i < 7 → ∀ h : i < (ByteArray.mk #[34, 92, 8, 9, 10, 12, 13]).size, ((ByteArray.mk #[34, 92, 8, 9, 10, 12, 13])[i]'h).toNat = ([34, 92, 8, 9, 10, 12, 13] : List Nat).getD i 0 := by
  intro i hi h
  rcases i with _ | _ | _ | _ | _ | _ | _ | i
  · rfl
  · rfl
  · rfl
  · rfl
  · rfl
  · rfl
  · rfl
  · omega
end Go.Proofs.YtcidjhnogldgmaaGreatDoor

namespace Go.Proofs.YtcidjhnogldgmaaGreatDoor
open Go.RowKit
set_option linter.unusedSimpArgs false
set_option linter.unusedVariables false
set_option maxRecDepth 100000 in
set_option maxHeartbeats 3200000 in
theorem fCode_any {X : Nat → Option Value} {rb p : Nat} {s : ByteArray} {w : World} (h : SfAt X w rb s p) (hs : s.size ≤ 1048576) :
    Calls Tryz.prog 160 #[.pointer (some ⟨rb, 0, none⟩)] w fun e w' => ((∃ b q, codeJ s.data.toList p = some (b, q) ∧ e = .returned (.int .u8 (b : Int)) ∧ SfAt X w' rb s q) ∨ (codeJ s.data.toList p = none ∧ e = gup)) ∧ But rb w w' := by
  have H := hideB h
  have hps := h.br.le
  have hln := len_is s
  have HLN := hideB hln
  clear hln
  clear h
  go_enter Tryz.func160, Tryz.ntmps160
  go_wp2_with fail
  go_loopw [3, 4] (fun n i wr => ∃ (k v : Nat), k ≤ 4 ∧ i = .int .i64 (k : Int) ∧ n = .int .i64 (v : Int) ∧ Hid (hexF s.data.toList p k = some v) ∧ p + k ≤ s.size ∧ SfAt X wr rb s (p + k) ∧ But rb w wr) (fun _ i _ => 4 - (intOf i).toNat)
  case atStart => exact ⟨0, 0, by omega, rfl, rfl, rfl, by omega, H.out, But.refl _ _⟩
  case round =>
    obtain ⟨k, v, hk, rfl, rfl, HV, hpk, hsr, hbt⟩ := hrel
    have HS := hideB hsr
    have HBT := hideB hbt
    have hv : v < 65536 := by
      have h1 := hexF_lt _ _ HV.out
      have h2 : 16 ^ k ≤ 16 ^ 4 := Nat.pow_le_pow_right (by omega) hk
      omega
    clear hsr hbt
    by_cases hlt : k < 4
    · have hlt' : (k : Int) < 4 := by omega
      by_cases hq : p + k < s.size
      · have HNX := hideB (nextF_yes HS.out hq hs)
        have hb : s[p + k].toNat = byAt s.data.toList (p + k) := byS hq
        rw [hb] at HNX
        have hb256 := byAt_lt s.data.toList (p + k)
        obtain ⟨c, hc⟩ : ∃ c, byAt s.data.toList (p + k) = c := ⟨_, rfl⟩
        have HC := hideB hc
        rw [hc] at HNX hb256
        clear hb hc
        go_wp2_with fail
        refine HNX.out.mono ?_
        rintro e w1 ⟨rfl, hr1, hb1⟩
        have HR1 := hideB hr1
        have HB1 := hideB hb1
        clear hr1 hb1
        go_wp2_with fail
        refine (hexValue_any c hb256 w1).mono ?_
        rintro e w2 ⟨rfl, ⟨d, hd, rfl⟩ | ⟨hd, rfl⟩⟩
        · have hd16 := hexC_lt hd
          have HD := hideB hd
          clear hd
          go_wp2_with fail
          go_roundw
          case rel => exact ⟨k + 1, 16 * v + d, by omega, by go_num, by go_num, hexF_step HV.out (by rw [HC.out]; exact HD.out), by omega, HR1.out, HBT.out.trans HB1.out⟩
          case measure => simp [intOf]; omega
        · have HD := hideB hd
          clear hd
          unfold gup
          go_wp2_with fail
          exact ⟨rfl, .inr ⟨codeJ_no (hexF_stop HV.out (by rw [HC.out]; exact HD.out) hlt), rfl⟩, HBT.out.trans HB1.out⟩
      · have hqe : p + k = s.size := by omega
        have HNX := hideB (next_no (w := wr) (by have := HS.out.br; rw [hqe] at this; exact this) hs)
        clear hqe
        go_wp2_with fail
        refine HNX.out.mono ?_
        rintro e w1 ⟨rfl, _, hb1⟩
        have HB1 := hideB hb1
        clear hb1
        unfold gup
        go_wp2_with fail
        exact ⟨rfl, .inr ⟨codeJ_short (by rw [HLN.out]; omega), rfl⟩, HBT.out.trans HB1.out⟩
    · obtain rfl : k = 4 := by omega
      by_cases hbig : 127 < v
      · have hbig' : (127 : Int) < (v : Int) := by omega
        go_wp2_with fail
        exact ⟨rfl, .inr ⟨codeJ_big HV.out hbig, rfl⟩, HBT.out⟩
      · have hbig' : ¬ (127 : Int) < (v : Int) := by omega
        have hw : IntKind.u8.wrap (v : Int) = (v : Int) := u8_wrap (by omega) (by omega)
        go_wp2_with fail
        go_ret
        exact ⟨.inl ⟨v, p + 4, codeJ_yes (by rw [HLN.out]; exact hpk) HV.out (by omega), rfl, HS.out⟩, HBT.out⟩
end Go.Proofs.YtcidjhnogldgmaaGreatDoor

namespace Go.Proofs.YtcidjhnogldgmaaGreatDoor
open Go.RowKit
set_option linter.unusedSimpArgs false
set_option linter.unusedVariables false
set_option linter.unusedSimpArgs false
set_option linter.unusedVariables false
set_option maxRecDepth 100000 in
set_option maxHeartbeats 3200000 in
theorem fEscape_any {X : Nat → Option Value} {rb p : Nat} {s : ByteArray} {w : World} (h : SfAt X w rb s p) (hs : s.size ≤ 1048576) :
    Calls Tryz.prog 144 #[.pointer (some ⟨rb, 0, none⟩)] w fun e w' => ((∃ b q, escJ s.data.toList p = some (b, q) ∧ e = .returned (.int .u8 (b : Int)) ∧ SfAt X w' rb s q) ∨ (escJ s.data.toList p = none ∧ e = gup)) ∧ But rb w w' := by
  have H := hideB h
  have hps := h.br.le
  have HLN := hideB (len_is s)
  clear h
  by_cases hq : p < s.size
  · have HQL : Hid (p < s.data.toList.length) := by rw [Hid, HLN.out]; exact hq
    have HNX := hideB (nextF_yes H.out hq hs)
    rw [byS hq] at HNX
    have hb256 := byAt_lt s.data.toList p
    obtain ⟨c, hc⟩ : ∃ c, byAt s.data.toList p = c := ⟨_, rfl⟩
    have HC := hideB hc
    rw [hc] at HNX hb256
    clear hc
    by_cases c1 : c = 47
    · subst c1
      have HE : Hid (escJ s.data.toList p = some (47, p + 1)) := escJ_one HQL.out (by rw [HC.out]; rfl)
      go_enter Tryz.func144, Tryz.ntmps144
      go_wp2_with fail
      refine HNX.out.mono ?_
      rintro e w1 ⟨rfl, hr1, hb1⟩
      have HR1 := hideB hr1
      have HB1 := hideB hb1
      clear hr1 hb1
      go_wp2_with fail
      go_ret
      exact ⟨.inl ⟨47, p + 1, HE.out, rfl, HR1.out⟩, HB1.out⟩
    · have q1 : ((c : Int) == 47) = false := by simp; omega
      have q1' : ¬ (c : Int) = 47 := by omega
      by_cases c2 : c = 117
      · subst c2
        have HE : Hid (escJ s.data.toList p = codeJ s.data.toList (p + 1)) := escJ_code HQL.out HC.out
        go_enter Tryz.func144, Tryz.ntmps144
        go_wp2_with fail
        refine HNX.out.mono ?_
        rintro e w1 ⟨rfl, hr1, hb1⟩
        have HR1 := hideB hr1
        have HB1 := hideB hb1
        clear hr1 hb1
        go_wp2_with fail
        refine (fCode_any HR1.out hs).mono ?_
        rintro e w2 ⟨⟨b, z, hcd, rfl, hr2⟩ | ⟨hcd, rfl⟩, hb2⟩
        · have HCD := hideB hcd
          have HR2 := hideB hr2
          have HB2 := hideB (HB1.out.trans hb2)
          clear hcd hr2 hb2
          go_wp2_with fail
          go_ret
          exact ⟨.inl ⟨b, z, by rw [HE.out]; exact HCD.out, rfl, HR2.out⟩, HB2.out⟩
        · have HCD := hideB hcd
          have HB2 := hideB (HB1.out.trans hb2)
          clear hcd hb2
          unfold gup
          go_wp2_with fail
          exact ⟨rfl, .inr ⟨by rw [HE.out]; exact HCD.out, rfl⟩, HB2.out⟩
      · have q2 : ((c : Int) == 117) = false := by simp; omega
        have q2' : ¬ (c : Int) = 117 := by omega
        have HBI : Hid (∀ w, Calls Tryz.prog 75 #[.string ⟨#[34, 92, 98, 116, 110, 102, 114]⟩, .int .u8 (c : Int)] w fun e w' => e = .returned (.int .i64 (Go.Lib.indexByte [34, 92, 98, 116, 110, 102, 114] (UInt8.ofNat c))) ∧ w' = w) := fun w => by
          have := indexByte_any ⟨#[34, 92, 98, 116, 110, 102, 114]⟩ (UInt8.ofNat c) w
          rw [UInt8.toNat_ofNat', Nat.mod_eq_of_lt (by omega)] at this
          exact this
        rcases esc_ix0 ⟨c, hb256⟩ c1 with ⟨e1, e2⟩ | ⟨i, e1, e2⟩
        · have HE : Hid (escJ s.data.toList p = none) := escJ_none HQL.out (by rw [HC.out]; exact e1) (by rw [HC.out]; exact c2)
          simp only at e2
          rw [e2] at HBI
          clear e1 e2
          go_enter Tryz.func144, Tryz.ntmps144
          go_wp2_with fail
          refine HNX.out.mono ?_
          rintro e w1 ⟨rfl, hr1, hb1⟩
          have HB1 := hideB hb1
          clear hr1 hb1
          go_wp2_with fail
          refine (HBI.out _).mono ?_
          rintro e w2 ⟨rfl, rfl⟩
          go_wp2_with fail
          exact ⟨rfl, .inr ⟨HE.out, rfl⟩, HB1.out⟩
        · obtain ⟨i, hi7⟩ := i
          dsimp only at e1 e2
          have HE : Hid (escJ s.data.toList p = some (([34, 92, 8, 9, 10, 12, 13] : List Nat).getD i 0, p + 1)) := escJ_one HQL.out (by rw [HC.out]; exact e2)
          rw [e1] at HBI
          have hi0 : ¬ (i : Int) < 0 := by omega
          have hsz : (ByteArray.mk #[34, 92, 8, 9, 10, 12, 13]).size = 7 := rfl
          have HAT := hideB (escS_at i hi7 (by rw [hsz]; exact hi7))
          have hi7' : (i : Int) < 7 := by omega
          clear e1 e2
          go_enter Tryz.func144, Tryz.ntmps144
          go_wp2_with fail
          refine HNX.out.mono ?_
          rintro e w1 ⟨rfl, hr1, hb1⟩
          have HR1 := hideB hr1
          have HB1 := hideB hb1
          clear hr1 hb1
          go_wp2_with fail
          refine (HBI.out _).mono ?_
          rintro e w2 ⟨rfl, rfl⟩
          go_wp2_with fail
          go_ret
          refine ⟨.inl ⟨_, p + 1, HE.out, ?_, HR1.out⟩, HB1.out⟩
          rw [← HAT.out]
          rfl
  · obtain rfl : p = s.size := by omega
    have HE : Hid (escJ s.data.toList s.size = none) := escJ_past (by rw [HLN.out]; omega)
    have HNX := hideB (next_no H.out.br hs)
    go_enter Tryz.func144, Tryz.ntmps144
    go_wp2_with fail
    refine HNX.out.mono ?_
    rintro e w1 ⟨rfl, _, hb1⟩
    have HB1 := hideB hb1
    clear hb1
    unfold gup
    go_wp2_with fail
    exact ⟨rfl, .inr ⟨HE.out, rfl⟩, HB1.out⟩
end Go.Proofs.YtcidjhnogldgmaaGreatDoor
