/-
  The specification's ReadJson.
-/
import Derived.Test.YtagcgnhpdmhegaaGreatDoorSjV
import Derived.Test.YtagcgnhpdmhegaaGreatDoorUpP
import Derived.Test.YtagcgnhpdmhegaaGreatDoorJrR
import Derived.Test.YtagcgnhpdmhegaaGreatDoorJbA
import Derived.Test.YtagcgnhpdmhegaaGreatDoorRowB
import Derived.Test.YtagcgnhpdmhegaaGreatDoorSame
import Derived.Test.YtagcgnhpdmhegaaGreatDoorSDig
import Derived.Test.YtagcgnhpdmhegaaGreatDoorPhase
import Derived.Test.YtagcgnhpdmhegaaGreatDoorLowN
namespace Go.Proofs.YtagcgnhpdmhegaaGreatDoor
open Go.RowKit
set_option linter.unusedSimpArgs false
set_option linter.unusedVariables false

theorem jsonF_big {s : ByteArray} (hs : 4000 < s.size) : jsonF s = none := by
  have hl := len_is s
  unfold jsonF frontV
  rw [if_pos (by omega)]
theorem jsonF_none {s : ByteArray} (hs : s.size ≤ 4000) (h : spJ s.data.toList (s.size + 1) 0 0 0 = none) : jsonF s = none := by
  have hl := len_is s
  have h1 := same_read (relJ s.data.toList (s.size + 1) 0).rel
  rw [h] at h1
  unfold jsonF frontV allJ
  rw [if_neg (by omega), hl]
  cases e : rdJ s.data.toList (s.size + 1) 0 with
  | none => rfl
  | some x =>
    obtain ⟨t, q⟩ := x
    rw [e] at h1
    dsimp only
    split
    · rfl
    · exact h1.symm
theorem jsonF_some {s : ByteArray} (hs : s.size ≤ 4000) {ns : List VN} {q d : Nat} (h : spJ s.data.toList (s.size + 1) 0 0 0 = some (ns, q, d)) : jsonF s = if q < s.size then none else if okB ns = true then some (ns, q) else none := by
  have hl := len_is s
  obtain ⟨_, _, _, t, h1, h2⟩ := (relJ s.data.toList (s.size + 1) 0).yes 0 0 ns q d (by omega) h
  unfold jsonF frontV allJ
  rw [if_neg (by omega), hl, h1]
  dsimp only
  split
  · rfl
  · unfold okOf; rw [h2]
theorem jsonF_small (s : ByteArray) : nsOf (jsonF s) = [] ∨ SmNs (nsOf (jsonF s)) := by
  by_cases hs : s.size ≤ 4000
  · cases e : spJ s.data.toList (s.size + 1) 0 0 0 with
    | none => rw [jsonF_none hs e]; exact .inl rfl
    | some x =>
      obtain ⟨ns, q, d⟩ := x
      have := (ok_json s.data.toList (s.size + 1) 0 0 0 ns q d (by omega) e).1
      rw [jsonF_some hs e]
      split
      · exact .inl rfl
      · split
        · exact .inr this
        · exact .inl rfl
  · rw [jsonF_big (by omega)]; exact .inl rfl

set_option maxRecDepth 100000 in
set_option maxHeartbeats 3200000 in
theorem specReadJson_any (s : ByteArray) (hs : s.size ≤ 9223372036854775807) : Reads 14 s (jsonF s) := by
  intro w
  by_cases hbig : 4000 < s.size
  · rw [jsonF_big hbig]
    have hb' : (4000 : Int) < (s.size : Int) := by omega
    go_enter Tryz.func14, Tryz.ntmps14
    go_wp2_with fail
    refine bodyPost_ret (v := .tuple #[.slice none 0 0, .bool false]) (by simp [results, Tryz.results14, go_sem]) rfl ?_
    exact ⟨_, w.heap.size, fun _ => undef, fun _ => undef, rfl, Nat.le_refl _, Nat.le_refl _, Nest.nil _ _ _ _, Below.refl _ _⟩
  have hb' : ¬ (4000 : Int) < (s.size : Int) := by omega
  have hs4 : s.size ≤ 4000 := by omega
  have HBA : Hid (Below w.heap.size w (w.alloc (.cells #[.string s, .int .i64 0, .bool false, .int .i64 0] 62))) := (Below.refl _ _).alloc (Nat.le_refl _) _
  have HA : Hid (SjAt (w.alloc (.cells #[.string s, .int .i64 0, .bool false, .int .i64 0] 62)) w.heap.size s 0 false 0) := ⟨heap_alloc_new w _, Nat.zero_le _, by omega⟩
  have HC := hideB (value_anyJ (rb := w.heap.size) (s := s) (by omega) (s.size + 1) 0 0 0 _ HA.out (by omega) (by omega) (by omega))
  have HZ : Hid ((w.alloc (.cells #[.string s, .int .i64 0, .bool false, .int .i64 0] 62)).heap.size = w.heap.size + 1) := by rw [Hid]; simp
  go_enter Tryz.func14, Tryz.ntmps14
  go_wp2_with fail
  refine HC.out.mono ?_
  rintro e w1 ⟨ar, M, cr, rfl, hbt, hor⟩
  have HBL : Hid (Below w.heap.size w w1) := HBA.out.trans (hbt.below (by rw [HZ.out]; omega))
  have z1 := HBL.out.size
  have HZ1 : Hid (w.heap.size + 1 ≤ w1.heap.size) := by have := hbt.size; have := HZ.out; rw [Hid]; omega
  clear hbt HC
  rcases hor with ⟨ns, q, d, KV, IV, hS, hM, hn, hsc⟩ | ⟨hS, d, _, p', hsc⟩
  rotate_left
  · have HNO : Hid (jsonF s = none) := jsonF_none hs4 hS
    have k2 := hsc.cells.2.2.1
    clear hS hsc
    go_wp2_with fail
    rw [HNO.out]
    refine bodyPost_ret (v := .tuple #[.slice none 0 0, .bool false]) (by simp [results, Tryz.results14, go_sem]) rfl ?_
    exact ⟨_, w1.heap.size, fun _ => undef, fun _ => undef, rfl, z1, Nat.le_refl _, Nest.nil _ _ _ _, HBL.out⟩
  have HIS := hideB (jsonF_some hs4 hS)
  have HSM := hideB (ok_json s.data.toList (s.size + 1) 0 0 0 ns q d (by omega) hS).1
  have HN := hideB hn
  have HSC := hideB hsc
  obtain ⟨k0, k1, k2, k3⟩ := hsc.cells
  have hq := hsc.le
  have HCO := hideB (specOk_any w1.heap.size (.slice ar M cr) ns w1 (hn.nodes (by have := HSM.out.2.1; omega) (fun j hj => HSM.out.few.2 j hj)) (Nat.le_refl _))
  clear hS hn hsc hM
  by_cases hqe : q < s.size
  · have HNO : Hid (jsonF s = none) := by rw [Hid, HIS.out, if_pos hqe]
    have hqn : ((q : Int) != (s.size : Int)) = true := by simp; omega
    have hqn2 : ¬ (q : Int) = (s.size : Int) := by omega
    clear hqe
    go_wp2_with fail
    rw [HNO.out]
    refine bodyPost_ret (v := .tuple #[.slice none 0 0, .bool false]) (by simp [results, Tryz.results14, go_sem]) rfl ?_
    exact ⟨_, w1.heap.size, fun _ => undef, fun _ => undef, rfl, z1, Nat.le_refl _, Nest.nil _ _ _ _, HBL.out⟩
  have hqn : ((q : Int) != (s.size : Int)) = false := by simp; omega
  have hqn2 : (q : Int) = (s.size : Int) := by omega
  rw [if_neg hqe] at HIS
  clear hqe
  go_wp2_with fail
  refine HCO.out.mono ?_
  rintro e w2 ⟨rfl, hb2⟩
  have HB2 := hideB (HBL.out.trans (hb2.mono z1))
  have HN2 := hideB (HN.out.below hb2)
  have z2 := hb2.size
  clear hb2 k0 k1 k2 k3
  cases hok : okB ns
  · have HNO : Hid (jsonF s = none) := by rw [Hid, HIS.out]; simp [hok]
    go_wp2_with fail
    rw [HNO.out]
    refine bodyPost_ret (v := .tuple #[.slice none 0 0, .bool false]) (by simp [results, Tryz.results14, go_sem]) rfl ?_
    exact ⟨_, w2.heap.size, fun _ => undef, fun _ => undef, rfl, HB2.out.size, Nat.le_refl _, Nest.nil _ _ _ _, HB2.out⟩
  · have HYES : Hid (jsonF s = some (ns, q)) := by rw [Hid, HIS.out]; simp [hok]
    go_wp2_with fail
    rw [HYES.out]
    refine bodyPost_ret (v := .tuple #[.slice ar M cr, .bool true]) (by simp [results, Tryz.results14, go_sem]) rfl ?_
    exact ⟨_, w.heap.size + 1, KV, IV, rfl, by omega, by have := HZ1.out; omega, by have := HN2.out; rw [HZ.out] at this; exact this, HB2.out⟩
end Go.Proofs.YtagcgnhpdmhegaaGreatDoor

/-
  Plain: what is read is right; with blanks around it, it is read so, too.
-/
namespace Go.Proofs.YtagcgnhpdmhegaaGreatDoor
open Go.RowKit
set_option linter.unusedSimpArgs false
set_option linter.unusedVariables false

theorem jsonF_says {s : ByteArray} {ns : List VN} {q : Nat} (h : jsonF s = some (ns, q)) : s.size ≤ 4000 ∧ okB ns = true ∧ ∃ t, rdJ s.data.toList (s.size + 1) 0 = some (t, q) ∧ ¬ q < s.size ∧ ns = layT (s.size + 1) t 0 := by
  have hl := len_is s
  unfold jsonF frontV at h
  split at h
  · cases h
  · rename_i h4
    rw [hl] at h h4
    cases e : allJ s.data.toList with
    | none => rw [e] at h; cases h
    | some x =>
      obtain ⟨t, z⟩ := x
      rw [e] at h
      unfold okOf at h
      dsimp only at h
      split at h
      · rename_i hok
        simp only [Option.some.injEq, Prod.mk.injEq] at h
        obtain ⟨rfl, rfl⟩ := h
        have h1 := allJ_of e
        rw [hl] at h1
        refine ⟨by omega, hok, t, h1, fun hz => ?_, rfl⟩
        have := allJ_short (L := s.data.toList) (t := t) (q := z) (by rw [hl]; exact h1) (by rw [hl]; exact hz)
        rw [this] at e
        cases e
      · cases h
theorem json_around {s u : ByteArray} {ns : List VN} {q : Nat} (h : jsonF s = some (ns, q)) (hu : u.data.toList = arnd s.data.toList) (hs : u.size ≤ 4000) : jsonF u = some (ns, u.size) := by
  have hl := len_is s
  have hul : u.size = s.size + 2 := by rw [← len_is u, hu, arnd_len, hl]
  obtain ⟨h4, hok, t, h1, h2, h3⟩ := jsonF_says h
  obtain ⟨a, b⟩ := arnd_rd s.data.toList (s.size + 1) (u.size + 1) (by omega) 0 t q (by omega) h1
  rw [hl] at a
  have hq : q = s.size := by omega
  have e0 : skipJ (arnd s.data.toList) 0 = skipJ (arnd s.data.toList) 1 := runJ_yes (by rw [arnd_len]; omega) rfl
  have e1 : rdJ (arnd s.data.toList) (u.size + 1) 0 = some (t, u.size) := by
    rw [← rdJ_skip, e0, rdJ_skip, b]
    unfold nxA
    rw [hl, if_neg (by omega), hul]
  have e2 : allJ u.data.toList = some (t, u.size) := allJ_yes (by rw [len_is, hu]; exact e1) (by rw [len_is]; omega)
  have hf := rdJ_full s.data.toList _ _ _ _ h1
  have e3 : layT (u.size + 1) t 0 = ns := by rw [h3, layT_more hf (by omega)]
  unfold jsonF frontV
  rw [if_neg (by rw [len_is]; omega), e2, len_is]
  unfold okOf
  dsimp only
  rw [e3, if_pos hok]
end Go.Proofs.YtagcgnhpdmhegaaGreatDoor

/-
  Draws of bytes; what is drawn for Escaped and for Unescaped.
-/
namespace Go.Proofs.YtagcgnhpdmhegaaGreatDoor
open Go.RowKit
set_option linter.unusedSimpArgs false
set_option linter.unusedVariables false

theorem RowB.only {base rb : Nat} {w w' : World} {v : Value} {l : List UInt8} (h : RowB base w v l) (ho : Only (fun c => c = rb) w w') (hr : rb < base) : RowB base w' v l := by
  refine ⟨h.1, ?_⟩
  rcases h.2 with ⟨hv, h0⟩ | ⟨g, cap, cur, hv, h1, h2, h3⟩
  · exact .inl ⟨hv, h0⟩
  · refine .inr ⟨g, cap, cur, hv, h1, ?_, h3⟩
    rw [ho.2 g ?_ (by omega)]
    · exact h2
    · rcases Nat.lt_or_ge g w.heap.size with h' | h'
      · exact h'
      · rw [Array.getElem?_eq_none h'] at h2; cases h2
theorem RdAt.low {w w' : World} {rb n p N : Nat} (h : RdAt w rb n p) (hb : Below N w w') (hr : rb < N) : RdAt w' rb n p := by
  have hl := h.lt
  refine ⟨by have := hb.size; omega, ?_, (below_cell hb hr).trans h.place, h.le, h.few, (frozen_same (hb.block rb hr)).trans h.free⟩
  obtain ⟨a, cap, h1, h2⟩ := h.src
  refine ⟨a, cap, (below_cell hb hr).trans h1, fun hp => ?_⟩
  obtain ⟨b, o, e, hlt, hx⟩ := h2 hp
  exact ⟨b, o, e, hlt, fun i hi => by obtain ⟨x, h3, h4⟩ := hx i hi; exact ⟨x, h3, (below_cell hb (by omega)).trans h4⟩⟩
theorem Drawn.grow {rb n : Nat} {a b c : World} (h : Drawn rb n a b) (k : Below a.heap.size b c) (hr : rb < a.heap.size) : Drawn rb n a c := by
  obtain ⟨p, hp⟩ := h.rd
  exact ⟨⟨p, hp.low k hr⟩, ⟨Nat.le_trans h.only.1 k.size, fun i h1 h2 => (k.block i h1).trans (h.only.2 i h1 h2)⟩, h.below.trans (k.mono (Nat.le_of_lt hr))⟩

set_option maxRecDepth 100000 in
set_option maxHeartbeats 1600000 in
theorem rdBytes_any (rb n m : Nat) (w : World) (h : ∃ p, RdAt w rb n p) (hM : m ≤ 1000) :
    Calls Tryz.prog 62 #[.pointer (some ⟨rb, 0, none⟩), .int .i64 m] w fun e w' => (∃ s : ByteArray, s.size ≤ m ∧ e = .returned (.string s)) ∧ Drawn rb n w w' := by
  obtain ⟨p0, h0⟩ := h
  have hlr := h0.lt
  have HD0 := hideIt ((Drawn.refl h0).next ((Below.refl _ _).alloc (Nat.le_refl _) (.cells #[] 5)))
  have HR0 := hideIt (rowB_new w)
  clear h0
  go_enter Tryz.func62, Tryz.ntmps62
  go_wp2_with fail
  refine (rdBelow_any rb n (m + 1) _ HD0.out.rd (by omega) (by omega)).mono ?_
  rintro e w1 ⟨⟨x, hx, rfl⟩, hd⟩
  have HD1 := hideIt (HD0.out.trans hd)
  have HR1 := hideIt (HR0.out.only hd.only hlr)
  clear hd
  go_wp2_with fail
  go_loopw [5, 6] (fun v i wr => ∃ (j : Nat) (o : List UInt8), i = .int .i64 j ∧ o.length + j ≤ m ∧ RowB w.heap.size wr v o ∧ Drawn rb n w wr) (fun _ i _ => (intOf i).toNat)
  case atStart => exact ⟨x, [], rfl, by simp; omega, HR1.out, HD1.out⟩
  case round =>
    obtain ⟨j, o, rfl, hj, hrow, hd⟩ := hrel
    obtain ⟨ao, co, eo⟩ := hrow.slice
    obtain ⟨q, hq⟩ : ∃ q, o.length = q := ⟨_, rfl⟩
    have HR := hideIt hrow
    have HD := hideIt hd
    have hz : w.heap.size ≤ wr.heap.size := hd.only.1
    rw [hq] at eo hj
    have HQ := hideIt hq
    subst eo
    clear hrow hd hq
    by_cases hlt : 0 < j
    · have hlt' : (0 : Int) < (j : Int) := by omega
      go_wp2_with fail
      refine (rdBelow_any rb n 256 _ HD.out.rd (by omega) (by omega)).mono ?_
      rintro e w2 ⟨⟨y, hy, rfl⟩, hd⟩
      have HD2 := hideIt (HD.out.trans hd)
      have HR2 := hideIt (HR.out.only hd.only hlr)
      have hz2 : w.heap.size ≤ w2.heap.size := (HD.out.trans hd).only.1
      clear hd
      have e1 : IntKind.u8.wrap (y : Int) = ((UInt8.ofNat y).toNat : Int) := by
        rw [u8_wrap (by omega) (by omega), UInt8.toNat_ofNat_of_lt' (show y < 256 from hy)]
      go_wp2_with (at_builtin; refine wpList_push rfl _ _ rfl w.heap.size o _ rfl HR2.out (UInt8.ofNat y) rfl (by rw [HQ.out]; omega) hz2 ?_)
      intro v' w3 hr3 hb3
      have HD3 := hideIt (HD2.out.grow hb3 hlr)
      clear hb3
      go_wp2_with fail
      refine ⟨⟨j - 1, _, by go_num, ?_, hr3, HD3.out⟩, by simp [intOf]; omega⟩
      rw [List.length_append, HQ.out]; simp; omega
    · obtain rfl : j = 0 := by omega
      have hc0 := HR.out.text HQ.out
      go_wp2_with fail
      go_ret
      exact ⟨⟨txt o, by rw [txt_size, HQ.out]; omega, rfl⟩, HD.out⟩

end Go.Proofs.YtagcgnhpdmhegaaGreatDoor

/-
  Texts drawn and hurt.
-/
namespace Go.Proofs.YtagcgnhpdmhegaaGreatDoor
open Go.RowKit
set_option linter.unusedSimpArgs false
set_option linter.unusedVariables false

theorem call_below (u v : Value) : ∀ w, (callFunc 29 #[u, v]).run Tryz.prog w = .ok (.enter 29 #[u, v]) w := fun w => by kernel_rfl

set_option maxRecDepth 100000 in
set_option maxHeartbeats 3200000 in
theorem rdHurt_any (rb n : Nat) (s : ByteArray) (hs : s.size ≤ 100000) (w : World) (h : ∃ p, RdAt w rb n p) :
    Calls Tryz.prog 30 #[.pointer (some ⟨rb, 0, none⟩), .string s] w fun e w' => (∃ t : ByteArray, t.size ≤ s.size + 60 ∧ e = .returned (.string t)) ∧ Drawn rb n w w' := by
  have H := hideIt h
  clear h
  go_enter Tryz.func30, Tryz.ntmps30
  go_wp2_with fail
  refine (rdBelow_any rb n 6 w H.out (by omega) (by omega)).mono ?_
  rintro e w1 ⟨⟨x, hx, rfl⟩, hd⟩
  have HD := hideIt hd
  clear hd
  by_cases hx1 : x = 1
  · subst hx1
    have HC := hideIt (rdBelow_any rb n (s.size + 1) w1 HD.out.rd (by omega) (by omega))
    have e1 : ((s.size + 1 : Nat) : Int) = (s.size : Int) + 1 := by omega
    rw [e1] at HC
    go_wp2_with fail
    refine HC.out.mono ?_
    rintro e w2 ⟨⟨y, hy, rfl⟩, hd⟩
    have HD2 := hideIt (HD.out.trans hd)
    have hy' : (y : Int) ≤ (s.size : Int) := by omega
    clear hd
    go_wp2_with fail
    go_ret
    exact ⟨⟨_, by simp only [ByteArray.size_extract]; omega, rfl⟩, HD2.out⟩
  have e1 : ((x : Int) == 1) = false := by simp; omega
  by_cases hx2 : x = 2
  · subst hx2
    by_cases hz : s.size = 0
    · have hz' : ¬ (0 : Int) < (s.size : Int) := by omega
      go_wp2_with fail
      go_ret
      exact ⟨⟨_, by omega, rfl⟩, HD.out⟩
    have hz' : (0 : Int) < (s.size : Int) := by omega
    go_wp2_with fail
    refine (rdBelow_any rb n s.size w1 HD.out.rd (by omega) (by omega)).mono ?_
    rintro e w2 ⟨⟨y, hy, rfl⟩, hd⟩
    have HD2 := hideIt (HD.out.trans hd)
    have hy' : (y : Int) < (s.size : Int) := by omega
    have hy1 : (y : Int) + 1 ≤ (s.size : Int) := by omega
    clear hd
    go_wp2_with fail
    rename_i Q1 K1 hK1 hpos K2 hK2
    have HDD : Hid (Drawn rb n w w2.drew) := HD2.out.next ((Below.refl _ _).drew)
    have hi1 : ((y + 1 : Nat) : Int) = (y : Int) + 1 := by omega
    refine wp_region_any (by kernel_rfl) ?_
    change wpAny _ _ _ _ _ _ _ (World.drew _)
    refine wpAny_take (i := 0) (v := .string s) rfl (by kernel_rfl) (by kernel_rfl) (by kernel_rfl) (fun _ _ _ h => h) (Or.inl ⟨by kernel_rfl, fun w => ?_⟩) ?_
    · go_simp
    refine wpAny_take (i := 1) (v := .int .i64 (y : Int)) rfl (by kernel_rfl) (by kernel_rfl) (by kernel_rfl) (fun _ _ _ h => h) (Or.inl ⟨by kernel_rfl, fun w => ?_⟩) ?_
    · go_simp
    refine wpAny_take (i := 2) (v := .string (s.extract 0 y)) rfl (by kernel_rfl) (by kernel_rfl) (by kernel_rfl) (fun _ _ _ h => h) (Or.inl ⟨by kernel_rfl, fun w => ?_⟩) ?_
    · go_simp <;> (intro hh; omega)
    refine wpAny_take (i := 4) (v := .pointer (some ⟨rb, 0, none⟩)) rfl (by kernel_rfl) (by kernel_rfl) (by kernel_rfl) (fun _ _ _ h => h) (Or.inl ⟨by kernel_rfl, fun w => ?_⟩) ?_
    · go_simp
    refine wpAny_take (i := 9) (v := .string s) rfl (by kernel_rfl) (by kernel_rfl) (by kernel_rfl) (fun _ _ _ h => h) (Or.inl ⟨by kernel_rfl, fun w => ?_⟩) ?_
    · go_simp
    refine wpAny_take (i := 10) (v := .int .i64 (y : Int)) rfl (by kernel_rfl) (by kernel_rfl) (by kernel_rfl) (fun _ _ _ h => h) (Or.inl ⟨by kernel_rfl, fun w => ?_⟩) ?_
    · go_simp
    refine wpAny_take (i := 11) (v := .int .i64 ((y : Int) + 1)) rfl (by kernel_rfl) (by kernel_rfl) (by kernel_rfl) (fun _ _ _ h => h) (Or.inl ⟨by kernel_rfl, fun w => ?_⟩) ?_
    · go_simp
      exact i64_wrap (by omega) (by omega)
    refine wpAny_take (i := 12) (v := .string (s.extract (y + 1) s.size)) rfl (by kernel_rfl) (by kernel_rfl) (by kernel_rfl) (fun _ _ _ h => h) (Or.inl ⟨by kernel_rfl, fun w => ?_⟩) ?_
    · go_simp <;> (intro hh; omega)
    have HFIN : Hid (∀ c : ByteArray, c.size ≤ 60 → (s.extract 0 y ++ c ++ s.extract (y + 1) s.size).size ≤ s.size + 60) := fun c hc => by simp only [ByteArray.size_append, ByteArray.size_extract]; omega
    have HTB : Hid (tabStr #[.string ⟨#[48]⟩, .string ⟨#[32]⟩, .string ⟨#[44]⟩, .string ⟨#[10]⟩, .string ⟨#[129]⟩, .string ⟨#[34]⟩, .string ⟨#[93]⟩, .string ⟨#[45]⟩] 8 = true) := by rfl
    refine wpAny_ready (rs := [3, 5]) (by kernel_rfl) (by simp) ?_
    refine AllReady.cons rfl (fun K hK => ?_) (AllReady.cons rfl (fun K hK => ?_) AllReady.nil)
    · go_simp
      refine hK _ _ ?_
      clear hK K
      refine wpAny_ready (rs := [5]) (by kernel_rfl) (by simp) ?_
      refine AllReady.cons rfl (fun K hK => ?_) AllReady.nil
      refine step_call2p (by kernel_rfl) 29 (.tmp 30) (.const (.int .i64 8)) 32 3 (by kernel_rfl) (.pointer (some ⟨rb, 0, none⟩)) (.int .i64 8) (by kernel_rfl) (by kernel_rfl) (call_below _ _) (rdTabS rb n 8 _ _ w2.drew HDD.out.rd (by omega) (by omega) HTB.out) ?_
      rintro e w3 ⟨⟨z, c, hz, rfl, hcs, hc⟩, hd3⟩
      have HD3 := hideIt (HDD.out.trans hd3)
      refine .inl ⟨_, rfl, ?_⟩
      refine hK _ _ ?_
      clear hK K hd3
      have hz' : (z : Int) < 8 := by omega
      obtain ⟨g, hg⟩ : ∃ g, w2.drew.heap.size = g := ⟨_, rfl⟩
      have hg2 : w2.heap.size = g := hg
      simp only [hg, hg2] at hc ⊢
      refine wpAny_take (i := 6) (v := .pointer (some ⟨g, z, none⟩)) rfl (by kernel_rfl) (by kernel_rfl) (by kernel_rfl) (fun _ _ _ h => h) (Or.inl ⟨by kernel_rfl, fun w => ?_⟩) ?_
      · go_simp <;> omega
      refine wpAny_ready (rs := [7]) (by kernel_rfl) (by simp) ?_
      refine AllReady.cons rfl (fun K hK => ?_) AllReady.nil
      go_simp
      refine hK _ _ ?_
      clear hK K
      refine wpAny_take (i := 8) (v := .string (s.extract 0 y ++ c)) rfl (by kernel_rfl) (by kernel_rfl) (by kernel_rfl) (fun _ _ _ h => h) (Or.inl ⟨by kernel_rfl, fun w => ?_⟩) ?_
      · go_simp <;> omega
      refine wpAny_take (i := 13) (v := .string (s.extract 0 y ++ c ++ s.extract (y + 1) s.size)) rfl (by kernel_rfl) (by kernel_rfl) (by kernel_rfl) (fun _ _ _ h => h) (Or.inl ⟨by kernel_rfl, fun w => ?_⟩) ?_
      · go_simp <;> omega
      refine wpAny_take (i := 14) (v := .string (s.extract 0 y ++ c ++ s.extract (y + 1) s.size)) rfl (by kernel_rfl) (by kernel_rfl) (by kernel_rfl) (fun _ _ _ h => h) (Or.inl ⟨by kernel_rfl, fun w => ?_⟩) ?_
      · go_simp
      refine wpAny_done (by kernel_rfl) ?_ _
      change K2 _ _
      refine hK2 _ _ ?_
      refine wp_ret ?_
      show Q1 .ret _ _
      refine bodyPost_ret (v := .string (s.extract 0 y ++ c ++ s.extract (y + 1) s.size)) (by kernel_rfl) (by kernel_rfl) ?_
      exact ⟨⟨_, HFIN.out c hcs, rfl⟩, HD3.out⟩
    · refine step_call2p (by kernel_rfl) 29 (.tmp 30) (.const (.int .i64 8)) 32 3 (by kernel_rfl) (.pointer (some ⟨rb, 0, none⟩)) (.int .i64 8) (by kernel_rfl) (by kernel_rfl) (call_below _ _) (rdBelow_any rb n 8 _ HDD.out.rd (by omega) (by omega)) ?_
      rintro e w4 ⟨⟨z, hz, rfl⟩, hd4⟩
      have HD4 := hideIt (HDD.out.trans hd4)
      refine .inl ⟨_, rfl, ?_⟩
      refine hK _ _ ?_
      clear hK K hd4
      have hz' : (z : Int) < 8 := by omega
      refine wpAny_ready (rs := [3]) (by kernel_rfl) (by simp) ?_
      refine AllReady.cons rfl (fun K hK => ?_) AllReady.nil
      go_simp
      refine hK _ _ ?_
      clear hK K
      obtain ⟨c, hc1, hcs⟩ := tabStr_at HTB.out hz
      have hc := cell_tab (w := w4) (T := 9) hc1
      obtain ⟨g, hg⟩ : ∃ g, w4.heap.size = g := ⟨_, rfl⟩
      have HD3 := hideIt (HD4.out.next ((Below.refl _ _).alloc (Nat.le_refl _) (.cells #[.string ⟨#[48]⟩, .string ⟨#[32]⟩, .string ⟨#[44]⟩, .string ⟨#[10]⟩, .string ⟨#[129]⟩, .string ⟨#[34]⟩, .string ⟨#[93]⟩, .string ⟨#[45]⟩] 9)))
      obtain ⟨w3, hw3⟩ : ∃ w3, w4.alloc (.cells #[.string ⟨#[48]⟩, .string ⟨#[32]⟩, .string ⟨#[44]⟩, .string ⟨#[10]⟩, .string ⟨#[129]⟩, .string ⟨#[34]⟩, .string ⟨#[93]⟩, .string ⟨#[45]⟩] 9) = w3 := ⟨_, rfl⟩
      simp only [hg, hw3] at hc HD3 ⊢
      clear hc1
      refine wpAny_take (i := 6) (v := .pointer (some ⟨g, z, none⟩)) rfl (by kernel_rfl) (by kernel_rfl) (by kernel_rfl) (fun _ _ _ h => h) (Or.inl ⟨by kernel_rfl, fun w => ?_⟩) ?_
      · go_simp <;> omega
      refine wpAny_ready (rs := [7]) (by kernel_rfl) (by simp) ?_
      refine AllReady.cons rfl (fun K hK => ?_) AllReady.nil
      go_simp
      refine hK _ _ ?_
      clear hK K
      refine wpAny_take (i := 8) (v := .string (s.extract 0 y ++ c)) rfl (by kernel_rfl) (by kernel_rfl) (by kernel_rfl) (fun _ _ _ h => h) (Or.inl ⟨by kernel_rfl, fun w => ?_⟩) ?_
      · go_simp <;> omega
      refine wpAny_take (i := 13) (v := .string (s.extract 0 y ++ c ++ s.extract (y + 1) s.size)) rfl (by kernel_rfl) (by kernel_rfl) (by kernel_rfl) (fun _ _ _ h => h) (Or.inl ⟨by kernel_rfl, fun w => ?_⟩) ?_
      · go_simp <;> omega
      refine wpAny_take (i := 14) (v := .string (s.extract 0 y ++ c ++ s.extract (y + 1) s.size)) rfl (by kernel_rfl) (by kernel_rfl) (by kernel_rfl) (fun _ _ _ h => h) (Or.inl ⟨by kernel_rfl, fun w => ?_⟩) ?_
      · go_simp
      refine wpAny_done (by kernel_rfl) ?_ _
      change K2 _ _
      refine hK2 _ _ ?_
      refine wp_ret ?_
      show Q1 .ret _ _
      refine bodyPost_ret (v := .string (s.extract 0 y ++ c ++ s.extract (y + 1) s.size)) (by kernel_rfl) (by kernel_rfl) ?_
      exact ⟨⟨_, HFIN.out c hcs, rfl⟩, HD3.out⟩
  have e2 : ((x : Int) == 2) = false := by simp; omega
  by_cases hx3 : x = 3
  · subst hx3
    go_wp2_with fail
    refine (rdBytes_any rb n 2 w1 HD.out.rd (by omega)).mono ?_
    rintro e w2 ⟨⟨t, ht, rfl⟩, hd⟩
    have HD2 := hideIt (HD.out.trans hd)
    clear hd
    go_wp2_with fail
    go_ret
    exact ⟨⟨s ++ t, by simp [ByteArray.size_append]; omega, rfl⟩, HD2.out⟩
  have e3 : ((x : Int) == 3) = false := by simp; omega
  go_wp2_with fail
  go_ret
  exact ⟨⟨_, by omega, rfl⟩, HD.out⟩
end Go.Proofs.YtagcgnhpdmhegaaGreatDoor

/-
  What DrawReadJson draws.
-/
namespace Go.Proofs.YtagcgnhpdmhegaaGreatDoor
open Go.RowKit
set_option linter.unusedSimpArgs false
set_option linter.unusedVariables false

theorem jsonV_size (lines : Bool) (vs : List VN) : (txt (jsonV lines vs)).size ≤ 96000 := by
  rw [txt_size]
  unfold jsonV
  split
  · rename_i hok
    obtain ⟨p1, p2, _, _⟩ := okB_parts hok
    have h1 := jsonT_le hok lines vs.length 0 (vs.length - 1) 0 (by omega) (by omega) (by omega)
    rw [whole_len hok] at h1
    rw [List.length_append]
    have : (if lines = true then [10] else ([] : List UInt8)).length ≤ 1 := by split <;> simp
    omega
  · exact Nat.zero_le _
set_option maxRecDepth 100000 in
set_option maxHeartbeats 3200000 in
theorem drawReadJson_any (B : Nat) (v : Value) (n : Nat) (w : World) (h : CodeAt B w v n) (hB : B ≤ w.heap.size) :
    Calls Tryz.prog 13 #[v] w fun e w' => ∃ s : ByteArray, s.size ≤ 100000 ∧ e = .returned (.string s) ∧ Below w.heap.size w w' := by
  have H := hideIt h
  obtain ⟨_, a, cap, rfl, _⟩ := h
  go_enter Tryz.func13, Tryz.ntmps13
  go_wp2_with fail
  refine (l1Open_any B _ n w H.out hB).mono ?_
  rintro e w1 ⟨rfl, hr, hb⟩
  have HR := hideIt hr
  have HB := hideIt hb
  have z1 := hb.size
  clear hr hb
  go_wp2_with fail
  refine (rdValue_any w.heap.size n 3 (by omega) w1 ⟨0, HR.out⟩).mono ?_
  rintro e w2 ⟨⟨r, vs, KV, IV, rfl, hf, hn⟩, hd⟩
  have HD := hideIt hd
  have hrb : w.heap.size < w1.heap.size := HR.out.lt
  have HNST := hideIt hn
  have HFN := hideIt hf
  have HND : Hid (∀ w', Below w2.heap.size w2 w' → NodesAt w'.heap.size w' r vs) := fun w' hb => (hn.below hb).nodes (by have := hf.2.1; have : capD 3 ≤ 80 := (by decide); omega) (hf.few (by decide)).2
  have HSZ := hideIt (jsonV_size false vs)
  have HSY := hideIt (jsonV_size true vs)
  have HCT := hideIt (fun w' hb => specJson_any w'.heap.size _ vs w' (HND.out w' hb) (Nat.le_refl _))
  have HCI := hideIt (fun w' hb => specIndented_any w'.heap.size _ vs w' (HND.out w' hb) (Nat.le_refl _))
  obtain ⟨T, hT⟩ : ∃ T, txt (jsonV false vs) = T := ⟨_, rfl⟩
  obtain ⟨Y, hY⟩ : ∃ Y, txt (jsonV true vs) = Y := ⟨_, rfl⟩
  have HYY := hideIt hY
  rw [hT] at HSZ
  rw [hY] at HSY
  simp only [hT] at HCT
  simp only [hY] at HCI
  have z2 := hd.below.size
  obtain ⟨ar, cr, er⟩ := own_slice hn.row
  obtain ⟨M, hM⟩ : ∃ M, vs.length = M := ⟨_, rfl⟩
  rw [hM] at er
  subst er
  clear hf hn hd hM hT hY
  go_wp2_with fail
  refine (HCT.out w2 (Below.refl _ _)).mono ?_
  rintro e w3 ⟨rfl, hb3⟩
  have HD3 := hideIt (HD.out.next hb3)
  have H3 := hideIt hb3
  clear hb3
  have hsz := HSZ.out
  have hsy := HSY.out
  go_wp2_with fail
  refine (rdOnce_any w.heap.size n 3 w3 HD3.out.rd (by omega) (by omega)).mono ?_
  rintro e w4 ⟨⟨b, rfl⟩, hd⟩
  have HD4 := hideIt (HD3.out.trans hd)
  have HX4 := hideIt hd
  clear hd
  have HN4 : Hid (NodesAt w4.heap.size w4 (.slice ar M cr) vs) := Nest.nodes (vs := vs) ((HNST.out.below H3.out).from (HX4.out.from hrb)) (by have := HFN.out.2.1; have : capD 3 ≤ 80 := (by decide); omega) (HFN.out.few (by decide)).2
  have HI4 := hideIt (specIndented_any w4.heap.size _ vs w4 HN4.out (Nat.le_refl _))
  rw [HYY.out] at HI4
  clear HX4 HNST HN4 HND HCT HCI
  cases b
  focus
    go_wp2_with fail
    obtain ⟨X, hX⟩ : ∃ X, T = X := ⟨_, rfl⟩
    have HXS : Hid (X.size ≤ 96000) := by rw [← hX]; exact HSZ.out
    rw [hX]
    clear hX hsz hsy HSZ HSY HI4
    obtain ⟨w5, h5⟩ : ∃ w5, w4 = w5 := ⟨_, rfl⟩
    have HD5 : Hid (Drawn w.heap.size n w1 w5) := by rw [← h5]; exact HD4.out
    rw [h5]
    clear h5 HD4
  rotate_left
  focus
    go_wp2_with fail
    refine HI4.out.mono ?_
    rintro e w5 ⟨rfl, hb5⟩
    have HD5 := hideIt (HD4.out.next hb5)
    obtain ⟨X, hX⟩ : ∃ X, Y = X := ⟨_, rfl⟩
    have HXS : Hid (X.size ≤ 96000) := by rw [← hX]; exact HSY.out
    rw [hX]
    clear hX hsz hsy HSZ HSY HI4 hb5 HD4
    go_wp2_with fail
  all_goals
    have hxs := HXS.out
    refine (rdOnce_any w.heap.size n 8 w5 HD5.out.rd (by omega) (by omega)).mono ?_
    rintro e w6 ⟨⟨b, rfl⟩, hd⟩
    have HD6 := hideIt (HD5.out.trans hd)
    clear hd
    cases b
    · go_wp2_with fail
      refine (rdHurt_any w.heap.size n X (by omega) w6 HD6.out.rd).mono ?_
      rintro e w7 ⟨⟨t, ht, rfl⟩, hd⟩
      have HD7 := hideIt (HD6.out.trans hd)
      clear hd
      go_wp2_with fail
      go_ret
      exact ⟨t, by omega, rfl, HB.out.trans HD7.out.below⟩
    · go_wp2_with fail
      refine (rdTabS w.heap.size n 16 _ _ w6 HD6.out.rd (by omega) (by omega) (by rfl)).mono ?_
      rintro e w7 ⟨⟨y, s, hy, rfl, hs, hc⟩, hd⟩
      have hy' : (y : Int) < 16 := by omega
      have HD7 := hideIt (HD6.out.trans hd)
      clear hd
      go_wp2_with fail
      go_ret
      exact ⟨s, by omega, rfl, HB.out.trans HD7.out.below⟩
end Go.Proofs.YtagcgnhpdmhegaaGreatDoor
