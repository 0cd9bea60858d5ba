import Derived.Test.YtcidjhnogldgmaaGreatDoorFgU
import Derived.Test.YtcidjhnogldgmaaGreatDoorFrFt
namespace Go.Proofs.YtcidjhnogldgmaaGreatDoor
open Go.RowKit
set_option linter.unusedSimpArgs false
set_option linter.unusedVariables false
theorem ix_blkF0 : ∀ n : Fin 256, (blkF n.val = true ∧ ∃ i : Fin 2, Go.Lib.indexByte [10, 32] (UInt8.ofNat n.val) = (i.val : Int)) ∨ (blkF n.val = false ∧ Go.Lib.indexByte [10, 32] (UInt8.ofNat n.val) = -1) := by decide +kernel
theorem ix_blkF (c : UInt8) : (blkF c.toNat = true ∧ ∃ i : Nat, Go.Lib.indexByte [10, 32] c = (i : Int)) ∨ (blkF c.toNat = false ∧ Go.Lib.indexByte [10, 32] c = -1) := by
  have h := ix_blkF0 ⟨c.toNat, c.toNat_lt⟩
  have e : UInt8.ofNat c.toNat = c := by simp
  simp only [e] at h
  rcases h with ⟨h1, i, h2⟩ | h
  · exact .inl ⟨h1, i.val, h2⟩
  · exact .inr h
set_option maxRecDepth 100000 in
set_option maxHeartbeats 3200000 in
theorem skipF_any {X : Nat → Option Value} {rb p : Nat} {s : ByteArray} {w : World} (h : SfAt X w rb s p) (hX : X 2 = some (.string ⟨#[10, 32]⟩)) (hs : s.size ≤ 1048576) :
    Calls Tryz.prog 56 #[.pointer (some ⟨rb, 0, none⟩)] w fun e w' => e = .returned (.tuple #[]) ∧ SfAt X w' rb s (skF s.data.toList p) ∧ But rb w w' := by
  have H := hideB h
  clear h
  go_enter Tryz.func56, Tryz.ntmps56
  go_wp2_with fail
  go_loopw [] (fun wr => ∃ q, SfAt X wr rb s q ∧ skF s.data.toList q = skF s.data.toList p ∧ But rb w wr) (fun wr => s.size - placeOf wr rb)
  case atStart => exact ⟨p, H.out, rfl, But.refl _ _⟩
  case round =>
    obtain ⟨q, hsr, hsk, hbt⟩ := hrel
    have HS := hideB hsr
    have HK := hideB hsk
    have HBT := hideB hbt
    have h1 := hsr.br.src
    have h2 := hsr.br.place
    have h3 := hsr.br.free
    have h4 := hsr.br.lt
    have h5 := hsr.br.le
    have h6 := (hsr.bl 2 (by decide)).trans hX
    clear hsr hsk hbt
    by_cases hq : q < s.size
    · have hq' : (q : Int) < (s.size : Int) := by omega
      have HB := hideB (byS hq)
      rcases ix_blkF s[q] with ⟨hb, i, hi⟩ | ⟨hb, hi⟩
      · have HIX : Hid (∀ w, Calls Tryz.prog 75 #[.string ⟨#[10, 32]⟩, .int .u8 (s[q].toNat : Int)] w fun e w' => e = .returned (.int .i64 (i : Int)) ∧ w' = w) := fun w => by
          have := indexByte_any ⟨#[10, 32]⟩ s[q] w
          rw [show (⟨#[10, 32]⟩ : ByteArray).data.toList = [10, 32] from rfl, hi] at this
          exact this
        have HNX : Hid (skF s.data.toList q = skF s.data.toList (q + 1)) := runJ_yes (by rw [len_is]; exact hq) (by rw [← HB.out]; exact hb)
        clear hi hb
        go_wp2_with fail
        go_quiet ((go_at_call 75; exact Calls.quiet_of_same (HIX.out _)))
        have HD := hideB (below_drewB (w := wr) nq)
        have HR := hideB (HS.out.below HD.out)
        have k1 := HR.out.br.src
        have k2 := HR.out.br.place
        have k3 := HR.out.br.free
        generalize wr.drewN nq = W1 at HR HD k1 k2 k3 ⊢
        clear nq h1 h2 h3 h6
        go_wp2_with fail
        go_roundw
        case rel =>
          have e : ((q : Int) + 1) = ((q + 1 : Nat) : Int) := by omega
          refine ⟨q + 1, ?_, by rw [← HNX.out]; exact HK.out, (HBT.out.trans (But.of_below HD.out)).trans (But.of_set _ _)⟩
          rw [e]
          exact HR.out.to hq
        case measure =>
          have e : ((q : Int) + 1) = ((q + 1 : Nat) : Int) := by omega
          rw [HS.out.placeOf, e, (HR.out.to hq).placeOf]
          omega
      · have HIX : Hid (∀ w, Calls Tryz.prog 75 #[.string ⟨#[10, 32]⟩, .int .u8 (s[q].toNat : Int)] w fun e w' => e = .returned (.int .i64 (-1)) ∧ w' = w) := fun w => by
          have := indexByte_any ⟨#[10, 32]⟩ s[q] w
          rw [show (⟨#[10, 32]⟩ : ByteArray).data.toList = [10, 32] from rfl, hi] at this
          exact this
        have HNX : Hid (skF s.data.toList q = q) := runJ_no (fun e => by rw [← HB.out, hb] at e; cases e.2)
        clear hi hb
        go_wp2_with fail
        go_quiet ((go_at_call 75; exact Calls.quiet_of_same (HIX.out _)))
        have HD := hideB (below_drewB (w := wr) nq)
        go_wp2_with fail
        go_end0
        exact ⟨rfl, by rw [← HK.out, HNX.out]; exact HS.out.below HD.out, HBT.out.trans (But.of_below HD.out)⟩
    · obtain rfl : q = s.size := by omega
      have HNX : Hid (skF s.data.toList s.size = s.size) := runJ_past (by rw [len_is]; omega)
      go_wp2_with fail
      go_quiet (fail)
      have HD := hideB (below_drewB (w := wr) nq)
      go_wp2_with fail
      go_end0
      exact ⟨rfl, by rw [← HK.out, HNX.out]; exact HS.out.below HD.out, HBT.out.trans (But.of_below HD.out)⟩
set_option maxRecDepth 100000 in
set_option maxHeartbeats 1600000 in
theorem tookF_yes {X : Nat → Option Value} {rb p c : Nat} {s : ByteArray} {w : World} (h : SfAt X w rb s p) (hX : X 2 = some (.string ⟨#[10, 32]⟩)) (hs : s.size ≤ 1048576) (hc : isAt s.data.toList p c = true) :
    Calls Tryz.prog 139 #[.pointer (some ⟨rb, 0, none⟩), .int .u8 (c : Int)] w fun e w' => e = .returned (.bool true) ∧ SfAt X w' rb s (skF s.data.toList (p + 1)) ∧ But rb w w' := by
  have H := hideB h
  obtain ⟨hp, hb⟩ := isAt_yes.1 hc
  rw [len_is] at hp
  have HP := hideB (peek_any h.br hs)
  rw [hb] at HP
  have hne : ((c : Int) != (c : Int)) = false := by simp
  clear h hc hb
  go_enter Tryz.func139, Tryz.ntmps139
  go_wp2_with fail
  refine HP.out.mono ?_
  rintro e w1 ⟨rfl, hb1⟩
  have HB1 := hideB hb1
  have HR := hideB (H.out.below hb1)
  have k2 := HR.out.br.place
  have k3 := HR.out.br.free
  have k4 := HR.out.br.lt
  have e1 : ((p : Int) + 1) = ((p + 1 : Nat) : Int) := by omega
  obtain ⟨W2, hW2⟩ : ∃ W2, w1.setCell ⟨rb, 1, none⟩ (.int .i64 ((p : Int) + 1)) = W2 := ⟨_, rfl⟩
  have HR2 : Hid (SfAt X W2 rb s (p + 1)) := by rw [Hid, ← hW2, e1]; exact HR.out.to (by omega)
  have HB2 : Hid (But rb w W2) := (But.of_below HB1.out).trans (by rw [← hW2]; exact But.of_set _ _)
  have HSK := hideB (skipF_any HR2.out hX hs)
  clear hb1 e1
  go_wp2_with fail
  refine HSK.out.mono ?_
  rintro e w3 ⟨rfl, hr3, hb3⟩
  have HR3 := hideB hr3
  have HB3 := hideB (HB2.out.trans hb3)
  clear hr3 hb3
  go_wp2_with fail
  go_ret
  exact ⟨rfl, HR3.out, HB3.out⟩
set_option maxRecDepth 100000 in
set_option maxHeartbeats 1600000 in
theorem tookF_no {X : Nat → Option Value} {rb p c : Nat} {s : ByteArray} {w : World} (h : SfAt X w rb s p) (hX : X 2 = some (.string ⟨#[10, 32]⟩)) (hs : s.size ≤ 1048576) (hc0 : 0 < c) (hc : isAt s.data.toList p c = false) :
    Calls Tryz.prog 139 #[.pointer (some ⟨rb, 0, none⟩), .int .u8 (c : Int)] w fun e w' => e = .returned (.bool false) ∧ SfAt X w' rb s p ∧ But rb w w' := by
  have H := hideB h
  have hb : byAt s.data.toList p ≠ c := fun e => by
    by_cases hp : p < s.data.toList.length
    · exact isAt_no.1 hc ⟨hp, e⟩
    · rw [byAt_past (by omega)] at e; omega
  have HP := hideB (peek_any h.br hs)
  obtain ⟨b, hbb⟩ : ∃ b, byAt s.data.toList p = b := ⟨_, rfl⟩
  rw [hbb] at hb HP
  have hne : ((b : Int) != (c : Int)) = true := by simp; omega
  have hne2 : ¬ (b : Int) = (c : Int) := by omega
  clear h hc hbb
  go_enter Tryz.func139, Tryz.ntmps139
  go_wp2_with fail
  refine HP.out.mono ?_
  rintro e w1 ⟨rfl, hb1⟩
  have HB1 := hideB hb1
  clear hb1
  go_wp2_with fail
  go_ret
  exact ⟨rfl, H.out.below HB1.out, But.of_below HB1.out⟩
set_option maxRecDepth 100000 in
set_option maxHeartbeats 1600000 in
theorem mustF_yes {X : Nat → Option Value} {rb p c : Nat} {s : ByteArray} {w : World} (h : SfAt X w rb s p) (hX : X 2 = some (.string ⟨#[10, 32]⟩)) (hs : s.size ≤ 1048576) (hc : isAt s.data.toList p c = true) :
    Calls Tryz.prog 141 #[.pointer (some ⟨rb, 0, none⟩), .int .u8 (c : Int)] w fun e w' => e = .returned (.tuple #[]) ∧ SfAt X w' rb s (skF s.data.toList (p + 1)) ∧ But rb w w' := by
  have HT := hideB (tookF_yes h hX hs hc)
  clear h hc
  go_enter Tryz.func141, Tryz.ntmps141
  go_wp2_with fail
  refine HT.out.mono ?_
  rintro e w1 ⟨rfl, h1, h2⟩
  have H1 := hideB h1
  have H2 := hideB h2
  clear h1 h2
  go_wp2_with fail
  go_end0
  exact ⟨rfl, H1.out, H2.out⟩
set_option maxRecDepth 100000 in
set_option maxHeartbeats 1600000 in
theorem mustF_no {X : Nat → Option Value} {rb p c : Nat} {s : ByteArray} {w : World} (h : SfAt X w rb s p) (hX : X 2 = some (.string ⟨#[10, 32]⟩)) (hs : s.size ≤ 1048576) (hc0 : 0 < c) (hc : isAt s.data.toList p c = false) :
    Calls Tryz.prog 141 #[.pointer (some ⟨rb, 0, none⟩), .int .u8 (c : Int)] w fun e w' => e = gup ∧ But rb w w' := by
  have HT := hideB (tookF_no h hX hs hc0 hc)
  clear h hc
  go_enter Tryz.func141, Tryz.ntmps141
  go_wp2_with fail
  refine HT.out.mono ?_
  rintro e w1 ⟨rfl, h1, h2⟩
  have H2 := hideB h2
  clear h1 h2
  go_wp2_with fail
  exact ⟨rfl, rfl, H2.out⟩
end Go.Proofs.YtcidjhnogldgmaaGreatDoor
