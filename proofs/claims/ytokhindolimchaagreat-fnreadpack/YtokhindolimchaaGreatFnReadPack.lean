/-
  ReadPack: the program's.
-/
import Derived.Test.YtokhindolimchaaGreatPkI
import Derived.Test.YtokhindolimchaaGreatIHigh
import Derived.Test.YtokhindolimchaaGreatProg
import Derived.Test.YtokhindolimchaaGreatEscP
import Derived.Laws.IdiomStrings
import Derived.Below
import Derived.WideShapes
import Derived.WalkKit
import Derived.Deep.QuietTactic
import Derived.BigQuiet
import Derived.Deep.RegionWith
import Derived.Test.YtokhindolimchaaGreatOrdS
import Derived.Test.YtokhindolimchaaGreatOrC
import Derived.Test.YtokhindolimchaaGreatSame
import Derived.Test.YtokhindolimchaaGreatRows
import Derived.ProofKit
import Derived.OpenShut
import Derived.ShutString
import Derived.ChangeOld
namespace Go.Proofs.YtokhindolimchaaGreat
open Go.RowKit
set_option linter.unusedSimpArgs false
set_option linter.unusedVariables false

set_option maxRecDepth 100000 in
set_option maxHeartbeats 3200000 in
theorem implReadPack_any (s : ByteArray) (hs : s.size ≤ 9223372036854775807) : Fronts 18 s (packF s) := by
  intro w
  have hmf : ∀ (fn : Fn) (first cap : Array Value) (w : World), (Instr.makeFunc fn first cap).run Tryz.prog w = .ok (.func fn first cap) w := fun _ _ _ _ => rfl
  have HBA : Hid (Below w.heap.size w (w.alloc (.cells #[.string s, .int .i64 0] 69))) := (Below.refl _ _).alloc (Nat.le_refl _) _
  have HA : Hid (BrAt (w.alloc (.cells #[.string s, .int .i64 0] 69)) w.heap.size s 0) := ⟨by simp, by simp, by simp, by simp, Nat.zero_le _⟩
  have HC := hideB (readFront_any 41 (rdP s.data.toList (s.size + 1)) w.heap.size s (fun h4 => pread_any w.heap.size s h4 (s.size + 1)) (fun h4 => rdP_ok s.data.toList (by rw [len_is]; exact h4) (s.size + 1)) (call_pread _) _ HA.out hs)
  have HV : Hid (frontV s.data.toList (rdP s.data.toList (s.size + 1) 0) = packF s) := rfl
  rw [HV.out] at HC
  obtain ⟨V, hV⟩ : ∃ V, packF s = V := ⟨_, rfl⟩
  rw [hV] at HC ⊢
  clear hV HV
  have HZ : Hid ((w.alloc (.cells #[.string s, .int .i64 0] 69)).heap.size = w.heap.size + 1) := by rw [Hid]; simp
  go_enter Tryz.func18, Tryz.ntmps18
  go_wp2_with fail
  refine HC.out.mono ?_
  rintro e w1 ⟨r, base, KV, IV, rfl, hb1, hb2, hn, hbt⟩
  have HN := hideB hn
  have HB : Hid (w.heap.size ≤ base ∧ base ≤ w1.heap.size) := ⟨by have := HZ.out; omega, hb2⟩
  have HBL : Hid (Below w.heap.size w w1) := HBA.out.trans (hbt.below (by rw [HZ.out]; omega))
  obtain ⟨ar, cr, er⟩ := own_slice hn.row
  obtain ⟨M, hM⟩ : ∃ M, (nsOf V).length = M := ⟨_, rfl⟩
  rw [hM] at er
  subst er
  clear hn hbt hM hb1 hb2
  go_wp2_with fail
  refine bodyPost_ret (v := .tuple #[.slice ar M cr, .int .i64 (usedOf V), .bool V.isSome]) (by simp [results, Tryz.results18, go_sem]) rfl ?_
  exact ⟨_, base, KV, IV, rfl, HB.out.1, HB.out.2, HN.out, HBL.out⟩
end Go.Proofs.YtokhindolimchaaGreat

/-
  The specification's l2Hex: one sign.
-/
namespace Go.Proofs.YtokhindolimchaaGreat
open Go.RowKit Go.WideShapes
set_option linter.unusedSimpArgs false
set_option linter.unusedVariables false
theorem one_byte (x : UInt8) (w : World) : (convert 22 9 (.slice (some ⟨w.heap.size, 0, none⟩) 1 1)).run Tryz.prog (w.alloc (.cells #[.int .u8 (x.toNat : Int)] 5)) = .ok (.string ⟨#[x]⟩) (w.alloc (.cells #[.int .u8 (x.toNat : Int)] 5)) := by
  have := run_convert_bytes_back (P := Tryz.prog) (w.alloc (.cells #[.int .u8 (x.toNat : Int)] 5)) 22 9 5 ⟨w.heap.size, 0, none⟩ 1 [x] Tryz.underlying22 Tryz.underlying5 Tryz.underlying9 (fun j hj => by
    obtain rfl : j = 0 := by simpa using hj
    rw [add_plain, Nat.zero_add]
    simp)
  exact this

theorem txt_one (x : UInt8) : (txt [x]).size = 1 := txt_size [x]
end Go.Proofs.YtokhindolimchaaGreat

/-
  The specification's Escaped.
-/
namespace Go.Proofs.YtokhindolimchaaGreat
open Go.RowKit Go.WideShapes
set_option linter.unusedSimpArgs false
set_option linter.unusedVariables false
theorem two_below {w wr w1 w2 : World} (h : Below w.heap.size w wr) (h1 : Below wr.drew.heap.size wr.drew w1) (h2 : Below w1.heap.size w1 w2) : Below w.heap.size w w2 :=
  (h.drew.trans (h1.mono (h.drew.size))).trans (h2.mono (h.drew.trans (h1.mono (h.drew.size))).size)
theorem esc_tail (o : List UInt8) (c : UInt8) : txt o ++ ⟨#[92, 120]⟩ ++ txt [hexB ((c.toNat : Int) / 16).toNat] ++ txt [hexB ((c.toNat : Int) % 16).toNat] = txt (o ++ [92, 120, hexB (c.toNat / 16), hexB (c.toNat % 16)]) := by
  have e1 : ((c.toNat : Int) / 16).toNat = c.toNat / 16 := by omega
  have e2 : ((c.toNat : Int) % 16).toNat = c.toNat % 16 := by omega
  rw [e1, e2, app_txt, txt_app, txt_app]
  simp

end Go.Proofs.YtokhindolimchaaGreat

/-
  Draws of bytes; what is drawn for Escaped and for Unescaped.
-/
namespace Go.Proofs.YtokhindolimchaaGreat
open Go.RowKit
set_option linter.unusedSimpArgs false
set_option linter.unusedVariables false

theorem RowB.only {base rb : Nat} {w w' : World} {v : Value} {l : List UInt8} (h : RowB base w v l) (ho : Only (fun c => c = rb) w w') (hr : rb < base) : RowB base w' v l := by
  refine ⟨h.1, ?_⟩
  rcases h.2 with ⟨hv, h0⟩ | ⟨g, cap, cur, hv, h1, h2, h3⟩
  · exact .inl ⟨hv, h0⟩
  · refine .inr ⟨g, cap, cur, hv, h1, ?_, h3⟩
    rw [ho.2 g ?_ (by omega)]
    · exact h2
    · rcases Nat.lt_or_ge g w.heap.size with h' | h'
      · exact h'
      · rw [Array.getElem?_eq_none h'] at h2; cases h2
theorem RdAt.low {w w' : World} {rb n p N : Nat} (h : RdAt w rb n p) (hb : Below N w w') (hr : rb < N) : RdAt w' rb n p := by
  have hl := h.lt
  refine ⟨by have := hb.size; omega, ?_, (below_cell hb hr).trans h.place, h.le, h.few, (frozen_same (hb.block rb hr)).trans h.free⟩
  obtain ⟨a, cap, h1, h2⟩ := h.src
  refine ⟨a, cap, (below_cell hb hr).trans h1, fun hp => ?_⟩
  obtain ⟨b, o, e, hlt, hx⟩ := h2 hp
  exact ⟨b, o, e, hlt, fun i hi => by obtain ⟨x, h3, h4⟩ := hx i hi; exact ⟨x, h3, (below_cell hb (by omega)).trans h4⟩⟩
theorem Drawn.grow {rb n : Nat} {a b c : World} (h : Drawn rb n a b) (k : Below a.heap.size b c) (hr : rb < a.heap.size) : Drawn rb n a c := by
  obtain ⟨p, hp⟩ := h.rd
  exact ⟨⟨p, hp.low k hr⟩, ⟨Nat.le_trans h.only.1 k.size, fun i h1 h2 => (k.block i h1).trans (h.only.2 i h1 h2)⟩, h.below.trans (k.mono (Nat.le_of_lt hr))⟩

set_option maxRecDepth 100000 in
set_option maxHeartbeats 1600000 in
theorem rdBytes_any (rb n m : Nat) (w : World) (h : ∃ p, RdAt w rb n p) (hM : m ≤ 1000) :
    Calls Tryz.prog 52 #[.pointer (some ⟨rb, 0, none⟩), .int .i64 m] w fun e w' => (∃ s : ByteArray, s.size ≤ m ∧ e = .returned (.string s)) ∧ Drawn rb n w w' := by
  obtain ⟨p0, h0⟩ := h
  have hlr := h0.lt
  have HD0 := hideIt ((Drawn.refl h0).next ((Below.refl _ _).alloc (Nat.le_refl _) (.cells #[] 5)))
  have HR0 := hideIt (rowB_new w)
  clear h0
  go_enter Tryz.func52, Tryz.ntmps52
  go_wp2_with fail
  refine (rdBelow_any rb n (m + 1) _ HD0.out.rd (by omega) (by omega)).mono ?_
  rintro e w1 ⟨⟨x, hx, rfl⟩, hd⟩
  have HD1 := hideIt (HD0.out.trans hd)
  have HR1 := hideIt (HR0.out.only hd.only hlr)
  clear hd
  go_wp2_with fail
  go_loopw [5, 6] (fun v i wr => ∃ (j : Nat) (o : List UInt8), i = .int .i64 j ∧ o.length + j ≤ m ∧ RowB w.heap.size wr v o ∧ Drawn rb n w wr) (fun _ i _ => (intOf i).toNat)
  case atStart => exact ⟨x, [], rfl, by simp; omega, HR1.out, HD1.out⟩
  case round =>
    obtain ⟨j, o, rfl, hj, hrow, hd⟩ := hrel
    obtain ⟨ao, co, eo⟩ := hrow.slice
    obtain ⟨q, hq⟩ : ∃ q, o.length = q := ⟨_, rfl⟩
    have HR := hideIt hrow
    have HD := hideIt hd
    have hz : w.heap.size ≤ wr.heap.size := hd.only.1
    rw [hq] at eo hj
    have HQ := hideIt hq
    subst eo
    clear hrow hd hq
    by_cases hlt : 0 < j
    · have hlt' : (0 : Int) < (j : Int) := by omega
      go_wp2_with fail
      refine (rdBelow_any rb n 256 _ HD.out.rd (by omega) (by omega)).mono ?_
      rintro e w2 ⟨⟨y, hy, rfl⟩, hd⟩
      have HD2 := hideIt (HD.out.trans hd)
      have HR2 := hideIt (HR.out.only hd.only hlr)
      have hz2 : w.heap.size ≤ w2.heap.size := (HD.out.trans hd).only.1
      clear hd
      have e1 : IntKind.u8.wrap (y : Int) = ((UInt8.ofNat y).toNat : Int) := by
        rw [u8_wrap (by omega) (by omega), UInt8.toNat_ofNat_of_lt' (show y < 256 from hy)]
      go_wp2_with (at_builtin; refine wpList_push rfl _ _ rfl w.heap.size o _ rfl HR2.out (UInt8.ofNat y) rfl (by rw [HQ.out]; omega) hz2 ?_)
      intro v' w3 hr3 hb3
      have HD3 := hideIt (HD2.out.grow hb3 hlr)
      clear hb3
      go_wp2_with fail
      refine ⟨⟨j - 1, _, by go_num, ?_, hr3, HD3.out⟩, by simp [intOf]; omega⟩
      rw [List.length_append, HQ.out]; simp; omega
    · obtain rfl : j = 0 := by omega
      have hc0 := HR.out.text HQ.out
      go_wp2_with fail
      go_ret
      exact ⟨⟨txt o, by rw [txt_size, HQ.out]; omega, rfl⟩, HD.out⟩

end Go.Proofs.YtokhindolimchaaGreat

/-
  Texts drawn and hurt.
-/
namespace Go.Proofs.YtokhindolimchaaGreat
open Go.RowKit
set_option linter.unusedSimpArgs false
set_option linter.unusedVariables false

theorem call_below (u v : Value) : ∀ w, (callFunc 25 #[u, v]).run Tryz.prog w = .ok (.enter 25 #[u, v]) w := fun w => by kernel_rfl

set_option maxRecDepth 100000 in
set_option maxHeartbeats 3200000 in
theorem rdHurt_any (rb n : Nat) (s : ByteArray) (hs : s.size ≤ 100000) (w : World) (h : ∃ p, RdAt w rb n p) :
    Calls Tryz.prog 26 #[.pointer (some ⟨rb, 0, none⟩), .string s] w fun e w' => (∃ t : ByteArray, t.size ≤ s.size + 60 ∧ e = .returned (.string t)) ∧ Drawn rb n w w' := by
  have H := hideIt h
  clear h
  go_enter Tryz.func26, Tryz.ntmps26
  go_wp2_with fail
  refine (rdBelow_any rb n 6 w H.out (by omega) (by omega)).mono ?_
  rintro e w1 ⟨⟨x, hx, rfl⟩, hd⟩
  have HD := hideIt hd
  clear hd
  by_cases hx1 : x = 1
  · subst hx1
    have HC := hideIt (rdBelow_any rb n (s.size + 1) w1 HD.out.rd (by omega) (by omega))
    have e1 : ((s.size + 1 : Nat) : Int) = (s.size : Int) + 1 := by omega
    rw [e1] at HC
    go_wp2_with fail
    refine HC.out.mono ?_
    rintro e w2 ⟨⟨y, hy, rfl⟩, hd⟩
    have HD2 := hideIt (HD.out.trans hd)
    have hy' : (y : Int) ≤ (s.size : Int) := by omega
    clear hd
    go_wp2_with fail
    go_ret
    exact ⟨⟨_, by simp only [ByteArray.size_extract]; omega, rfl⟩, HD2.out⟩
  have e1 : ((x : Int) == 1) = false := by simp; omega
  by_cases hx2 : x = 2
  · subst hx2
    by_cases hz : s.size = 0
    · have hz' : ¬ (0 : Int) < (s.size : Int) := by omega
      go_wp2_with fail
      go_ret
      exact ⟨⟨_, by omega, rfl⟩, HD.out⟩
    have hz' : (0 : Int) < (s.size : Int) := by omega
    go_wp2_with fail
    refine (rdBelow_any rb n s.size w1 HD.out.rd (by omega) (by omega)).mono ?_
    rintro e w2 ⟨⟨y, hy, rfl⟩, hd⟩
    have HD2 := hideIt (HD.out.trans hd)
    have hy' : (y : Int) < (s.size : Int) := by omega
    have hy1 : (y : Int) + 1 ≤ (s.size : Int) := by omega
    clear hd
    go_wp2_with fail
    rename_i Q1 K1 hK1 hpos K2 hK2
    have HDD : Hid (Drawn rb n w w2.drew) := HD2.out.next ((Below.refl _ _).drew)
    have hi1 : ((y + 1 : Nat) : Int) = (y : Int) + 1 := by omega
    refine wp_region_any (by kernel_rfl) ?_
    change wpAny _ _ _ _ _ _ _ (World.drew _)
    refine wpAny_take (i := 0) (v := .string s) rfl (by kernel_rfl) (by kernel_rfl) (by kernel_rfl) (fun _ _ _ h => h) (Or.inl ⟨by kernel_rfl, fun w => ?_⟩) ?_
    · go_simp
    refine wpAny_take (i := 1) (v := .int .i64 (y : Int)) rfl (by kernel_rfl) (by kernel_rfl) (by kernel_rfl) (fun _ _ _ h => h) (Or.inl ⟨by kernel_rfl, fun w => ?_⟩) ?_
    · go_simp
    refine wpAny_take (i := 2) (v := .string (s.extract 0 y)) rfl (by kernel_rfl) (by kernel_rfl) (by kernel_rfl) (fun _ _ _ h => h) (Or.inl ⟨by kernel_rfl, fun w => ?_⟩) ?_
    · go_simp <;> (intro hh; omega)
    refine wpAny_take (i := 4) (v := .pointer (some ⟨rb, 0, none⟩)) rfl (by kernel_rfl) (by kernel_rfl) (by kernel_rfl) (fun _ _ _ h => h) (Or.inl ⟨by kernel_rfl, fun w => ?_⟩) ?_
    · go_simp
    refine wpAny_take (i := 9) (v := .string s) rfl (by kernel_rfl) (by kernel_rfl) (by kernel_rfl) (fun _ _ _ h => h) (Or.inl ⟨by kernel_rfl, fun w => ?_⟩) ?_
    · go_simp
    refine wpAny_take (i := 10) (v := .int .i64 (y : Int)) rfl (by kernel_rfl) (by kernel_rfl) (by kernel_rfl) (fun _ _ _ h => h) (Or.inl ⟨by kernel_rfl, fun w => ?_⟩) ?_
    · go_simp
    refine wpAny_take (i := 11) (v := .int .i64 ((y : Int) + 1)) rfl (by kernel_rfl) (by kernel_rfl) (by kernel_rfl) (fun _ _ _ h => h) (Or.inl ⟨by kernel_rfl, fun w => ?_⟩) ?_
    · go_simp
      exact i64_wrap (by omega) (by omega)
    refine wpAny_take (i := 12) (v := .string (s.extract (y + 1) s.size)) rfl (by kernel_rfl) (by kernel_rfl) (by kernel_rfl) (fun _ _ _ h => h) (Or.inl ⟨by kernel_rfl, fun w => ?_⟩) ?_
    · go_simp <;> (intro hh; omega)
    have HFIN : Hid (∀ c : ByteArray, c.size ≤ 60 → (s.extract 0 y ++ c ++ s.extract (y + 1) s.size).size ≤ s.size + 60) := fun c hc => by simp only [ByteArray.size_append, ByteArray.size_extract]; omega
    have HTB : Hid (tabStr #[.string ⟨#[48]⟩, .string ⟨#[32]⟩, .string ⟨#[44]⟩, .string ⟨#[10]⟩, .string ⟨#[129]⟩, .string ⟨#[34]⟩, .string ⟨#[93]⟩, .string ⟨#[45]⟩] 8 = true) := by rfl
    refine wpAny_ready (rs := [3, 5]) (by kernel_rfl) (by simp) ?_
    refine AllReady.cons rfl (fun K hK => ?_) (AllReady.cons rfl (fun K hK => ?_) AllReady.nil)
    · go_simp
      refine hK _ _ ?_
      clear hK K
      refine wpAny_ready (rs := [5]) (by kernel_rfl) (by simp) ?_
      refine AllReady.cons rfl (fun K hK => ?_) AllReady.nil
      refine step_call2p (by kernel_rfl) 25 (.tmp 30) (.const (.int .i64 8)) 33 3 (by kernel_rfl) (.pointer (some ⟨rb, 0, none⟩)) (.int .i64 8) (by kernel_rfl) (by kernel_rfl) (call_below _ _) (rdTabS rb n 8 _ _ w2.drew HDD.out.rd (by omega) (by omega) HTB.out) ?_
      rintro e w3 ⟨⟨z, c, hz, rfl, hcs, hc⟩, hd3⟩
      have HD3 := hideIt (HDD.out.trans hd3)
      refine .inl ⟨_, rfl, ?_⟩
      refine hK _ _ ?_
      clear hK K hd3
      have hz' : (z : Int) < 8 := by omega
      obtain ⟨g, hg⟩ : ∃ g, w2.drew.heap.size = g := ⟨_, rfl⟩
      have hg2 : w2.heap.size = g := hg
      simp only [hg, hg2] at hc ⊢
      refine wpAny_take (i := 6) (v := .pointer (some ⟨g, z, none⟩)) rfl (by kernel_rfl) (by kernel_rfl) (by kernel_rfl) (fun _ _ _ h => h) (Or.inl ⟨by kernel_rfl, fun w => ?_⟩) ?_
      · go_simp <;> omega
      refine wpAny_ready (rs := [7]) (by kernel_rfl) (by simp) ?_
      refine AllReady.cons rfl (fun K hK => ?_) AllReady.nil
      go_simp
      refine hK _ _ ?_
      clear hK K
      refine wpAny_take (i := 8) (v := .string (s.extract 0 y ++ c)) rfl (by kernel_rfl) (by kernel_rfl) (by kernel_rfl) (fun _ _ _ h => h) (Or.inl ⟨by kernel_rfl, fun w => ?_⟩) ?_
      · go_simp <;> omega
      refine wpAny_take (i := 13) (v := .string (s.extract 0 y ++ c ++ s.extract (y + 1) s.size)) rfl (by kernel_rfl) (by kernel_rfl) (by kernel_rfl) (fun _ _ _ h => h) (Or.inl ⟨by kernel_rfl, fun w => ?_⟩) ?_
      · go_simp <;> omega
      refine wpAny_take (i := 14) (v := .string (s.extract 0 y ++ c ++ s.extract (y + 1) s.size)) rfl (by kernel_rfl) (by kernel_rfl) (by kernel_rfl) (fun _ _ _ h => h) (Or.inl ⟨by kernel_rfl, fun w => ?_⟩) ?_
      · go_simp
      refine wpAny_done (by kernel_rfl) ?_ _
      change K2 _ _
      refine hK2 _ _ ?_
      refine wp_ret ?_
      show Q1 .ret _ _
      refine bodyPost_ret (v := .string (s.extract 0 y ++ c ++ s.extract (y + 1) s.size)) (by kernel_rfl) (by kernel_rfl) ?_
      exact ⟨⟨_, HFIN.out c hcs, rfl⟩, HD3.out⟩
    · refine step_call2p (by kernel_rfl) 25 (.tmp 30) (.const (.int .i64 8)) 33 3 (by kernel_rfl) (.pointer (some ⟨rb, 0, none⟩)) (.int .i64 8) (by kernel_rfl) (by kernel_rfl) (call_below _ _) (rdBelow_any rb n 8 _ HDD.out.rd (by omega) (by omega)) ?_
      rintro e w4 ⟨⟨z, hz, rfl⟩, hd4⟩
      have HD4 := hideIt (HDD.out.trans hd4)
      refine .inl ⟨_, rfl, ?_⟩
      refine hK _ _ ?_
      clear hK K hd4
      have hz' : (z : Int) < 8 := by omega
      refine wpAny_ready (rs := [3]) (by kernel_rfl) (by simp) ?_
      refine AllReady.cons rfl (fun K hK => ?_) AllReady.nil
      go_simp
      refine hK _ _ ?_
      clear hK K
      obtain ⟨c, hc1, hcs⟩ := tabStr_at HTB.out hz
      have hc := cell_tab (w := w4) (T := 9) hc1
      obtain ⟨g, hg⟩ : ∃ g, w4.heap.size = g := ⟨_, rfl⟩
      have HD3 := hideIt (HD4.out.next ((Below.refl _ _).alloc (Nat.le_refl _) (.cells #[.string ⟨#[48]⟩, .string ⟨#[32]⟩, .string ⟨#[44]⟩, .string ⟨#[10]⟩, .string ⟨#[129]⟩, .string ⟨#[34]⟩, .string ⟨#[93]⟩, .string ⟨#[45]⟩] 9)))
      obtain ⟨w3, hw3⟩ : ∃ w3, w4.alloc (.cells #[.string ⟨#[48]⟩, .string ⟨#[32]⟩, .string ⟨#[44]⟩, .string ⟨#[10]⟩, .string ⟨#[129]⟩, .string ⟨#[34]⟩, .string ⟨#[93]⟩, .string ⟨#[45]⟩] 9) = w3 := ⟨_, rfl⟩
      simp only [hg, hw3] at hc HD3 ⊢
      clear hc1
      refine wpAny_take (i := 6) (v := .pointer (some ⟨g, z, none⟩)) rfl (by kernel_rfl) (by kernel_rfl) (by kernel_rfl) (fun _ _ _ h => h) (Or.inl ⟨by kernel_rfl, fun w => ?_⟩) ?_
      · go_simp <;> omega
      refine wpAny_ready (rs := [7]) (by kernel_rfl) (by simp) ?_
      refine AllReady.cons rfl (fun K hK => ?_) AllReady.nil
      go_simp
      refine hK _ _ ?_
      clear hK K
      refine wpAny_take (i := 8) (v := .string (s.extract 0 y ++ c)) rfl (by kernel_rfl) (by kernel_rfl) (by kernel_rfl) (fun _ _ _ h => h) (Or.inl ⟨by kernel_rfl, fun w => ?_⟩) ?_
      · go_simp <;> omega
      refine wpAny_take (i := 13) (v := .string (s.extract 0 y ++ c ++ s.extract (y + 1) s.size)) rfl (by kernel_rfl) (by kernel_rfl) (by kernel_rfl) (fun _ _ _ h => h) (Or.inl ⟨by kernel_rfl, fun w => ?_⟩) ?_
      · go_simp <;> omega
      refine wpAny_take (i := 14) (v := .string (s.extract 0 y ++ c ++ s.extract (y + 1) s.size)) rfl (by kernel_rfl) (by kernel_rfl) (by kernel_rfl) (fun _ _ _ h => h) (Or.inl ⟨by kernel_rfl, fun w => ?_⟩) ?_
      · go_simp
      refine wpAny_done (by kernel_rfl) ?_ _
      change K2 _ _
      refine hK2 _ _ ?_
      refine wp_ret ?_
      show Q1 .ret _ _
      refine bodyPost_ret (v := .string (s.extract 0 y ++ c ++ s.extract (y + 1) s.size)) (by kernel_rfl) (by kernel_rfl) ?_
      exact ⟨⟨_, HFIN.out c hcs, rfl⟩, HD3.out⟩
  have e2 : ((x : Int) == 2) = false := by simp; omega
  by_cases hx3 : x = 3
  · subst hx3
    go_wp2_with fail
    refine (rdBytes_any rb n 2 w1 HD.out.rd (by omega)).mono ?_
    rintro e w2 ⟨⟨t, ht, rfl⟩, hd⟩
    have HD2 := hideIt (HD.out.trans hd)
    clear hd
    go_wp2_with fail
    go_ret
    exact ⟨⟨s ++ t, by simp [ByteArray.size_append]; omega, rfl⟩, HD2.out⟩
  have e3 : ((x : Int) == 3) = false := by simp; omega
  go_wp2_with fail
  go_ret
  exact ⟨⟨_, by omega, rfl⟩, HD.out⟩
end Go.Proofs.YtokhindolimchaaGreat

/-
  What DrawReadPack draws.
-/
namespace Go.Proofs.YtokhindolimchaaGreat
open Go.RowKit
set_option linter.unusedSimpArgs false
set_option linter.unusedVariables false

theorem packV_size (vs : List VN) : (txt (packV vs)).size ≤ 16000 := by
  rw [txt_size]
  unfold packV
  split
  · rename_i hok
    obtain ⟨p1, _⟩ := okB_parts hok
    exact packT_16k hok (by omega) (by omega)
  · exact Nat.zero_le _

set_option maxRecDepth 100000 in
set_option maxHeartbeats 3200000 in
theorem drawReadPack_any (B : Nat) (v : Value) (n : Nat) (w : World) (h : CodeAt B w v n) (hB : B ≤ w.heap.size) :
    Calls Tryz.prog 19 #[v] w fun e w' => ∃ s : ByteArray, s.size ≤ 20000 ∧ e = .returned (.string s) ∧ Below w.heap.size w w' := by
  have H := hideIt h
  obtain ⟨_, a, cap, rfl, _⟩ := h
  go_enter Tryz.func19, Tryz.ntmps19
  go_wp2_with fail
  refine (l1Open_any B _ n w H.out hB).mono ?_
  rintro e w1 ⟨rfl, hr, hb⟩
  have HR := hideIt hr
  have HB := hideIt hb
  have z1 := hb.size
  clear hr hb
  go_wp2_with fail
  refine (rdValue_any w.heap.size n 3 (by omega) w1 ⟨0, HR.out⟩).mono ?_
  rintro e w2 ⟨⟨r, vs, KV, IV, rfl, hf, hn⟩, hd⟩
  have HD := hideIt hd
  have HND := hideIt (hn.nodes (by have := hf.2.1; have : capD 3 ≤ 80 := (by decide); omega) (hf.few (by decide)).2)
  have HSZ := hideIt (packV_size vs)
  have HCT := hideIt (specPack_any w2.heap.size _ vs w2 HND.out (Nat.le_refl _))
  obtain ⟨T, hT⟩ : ∃ T, txt (packV vs) = T := ⟨_, rfl⟩
  rw [hT] at HSZ HCT
  obtain ⟨ar, cr, er⟩ := own_slice hn.row
  obtain ⟨M, hM⟩ : ∃ M, vs.length = M := ⟨_, rfl⟩
  rw [hM] at er
  subst er
  clear hf hn hd hM hT HND
  go_wp2_with fail
  refine HCT.out.mono ?_
  rintro e w3 ⟨rfl, hb3⟩
  have HD3 := hideIt (HD.out.next hb3)
  clear hb3
  have hsz := HSZ.out
  go_wp2_with fail
  refine (rdOnce_any w.heap.size n 8 w3 HD3.out.rd (by omega) (by omega)).mono ?_
  rintro e w4 ⟨⟨b, rfl⟩, hd⟩
  have HD4 := hideIt (HD3.out.trans hd)
  clear hd
  cases b
  · go_wp2_with fail
    refine (rdHurt_any w.heap.size n T (by omega) w4 HD4.out.rd).mono ?_
    rintro e w5 ⟨⟨t, ht, rfl⟩, hd⟩
    have HD5 := hideIt (HD4.out.trans hd)
    clear hd
    go_wp2_with fail
    go_ret
    exact ⟨t, by omega, rfl, HB.out.trans HD5.out.below⟩
  · go_wp2_with fail
    refine (rdTabS w.heap.size n 15 _ _ w4 HD4.out.rd (by omega) (by omega) (by rfl)).mono ?_
    rintro e w5 ⟨⟨y, s, hy, rfl, hs, hc⟩, hd⟩
    have hy' : (y : Int) < 15 := by omega
    have HD5 := hideIt (HD4.out.trans hd)
    clear hd
    go_wp2_with fail
    go_ret
    exact ⟨s, by omega, rfl, HB.out.trans HD5.out.below⟩

set_option maxHeartbeats 800000 in
theorem drawPackText_any (B : Nat) (v : Value) (n : Nat) (w : World) (h : CodeAt B w v n) (hB : B ≤ w.heap.size) :
    Calls Tryz.prog 15 #[v] w fun e w' => ∃ r vs KV IV, e = .returned r ∧ Fine 40 vs ∧ Nest w.heap.size w' r vs KV IV ∧ Below w.heap.size w w' := by
  have H := hideIt h
  obtain ⟨_, a, cap, rfl, _⟩ := h
  go_enter Tryz.func15, Tryz.ntmps15
  go_wp2_with fail
  refine (l1Open_any B _ n w H.out hB).mono ?_
  rintro e w1 ⟨rfl, hr, hb⟩
  have HR := hideIt hr
  have HB := hideIt hb
  have z1 := hb.size
  clear hr hb
  go_wp2_with fail
  refine (rdMaybe_any w.heap.size n w1 ⟨0, HR.out⟩).mono ?_
  rintro e w2 ⟨⟨r, vs, KV, IV, rfl, hf, hn⟩, hd⟩
  have HF := hideIt hf
  have HN := hideIt (hn.low z1)
  have HB2 := hideIt (HB.out.trans hd.below)
  obtain ⟨ar, cr, er⟩ := own_slice hn.row
  obtain ⟨M, hM⟩ : ∃ M, vs.length = M := ⟨_, rfl⟩
  rw [hM] at er
  subst er
  clear hf hn hd hM
  go_wp2_with fail
  go_ret
  exact ⟨_, vs, KV, IV, rfl, HF.out, HN.out, HB2.out⟩
end Go.Proofs.YtokhindolimchaaGreat

/-
  The law FnReadPack: the call returns true and turns nothing that was there.
-/
namespace Go.Proofs.YtokhindolimchaaGreat
open Go.RowKit
set_option linter.unusedSimpArgs false
set_option linter.unusedVariables false

set_option maxRecDepth 100000 in
set_option maxHeartbeats 6400000 in
theorem lawFnReadPack_walk (v : Value) (n : Nat) (w : World) (h : RawCode w v n) :
    Calls Tryz.prog 5 #[v] w fun e w' => e = .returned (.bool true) ∧ Below w.heap.size w w' := by
  obtain ⟨hn, a, cap, rfl, hc⟩ := h
  have HCL : Hid (n ≤ 1048576 → CodeAt w.heap.size w (.slice a n cap) n) := fun h => ⟨h, a, cap, rfl, hc⟩
  clear hc
  go_enter Tryz.func5, Tryz.ntmps5
  go_wp2_with fail
  refine (big_any a n cap w hn).mono ?_
  rintro e w1 ⟨rfl, rfl⟩
  by_cases hbig : 1048576 < n
  · go_wp2_with fail
    go_ret
    exact ⟨rfl, Below.refl _ _⟩
  have HC := hideIt (HCL.out (by omega))
  clear HCL
  go_wp2_with fail
  refine (drawReadPack_any w1.heap.size _ n w1 HC.out (Nat.le_refl _)).mono ?_
  rintro e w2 ⟨s, hss, rfl, hb2⟩
  have HB2 := hideIt hb2
  have z2 := hb2.size
  clear hb2 HC
  have CI := hideIt (implReadPack_any s (by omega))
  have CS := hideIt (specReadPack_any s (by omega))
  have HSM := hideIt (packF_small s)
  have HU := hideIt (fun ns q => packF_used (s := s) (ns := ns) (q := q))
  have HO := hideIt (fun ns q => packF_ok (s := s) (ns := ns) (q := q))
  obtain ⟨V, hV⟩ : ∃ V, packF s = V := ⟨_, rfl⟩
  rw [hV] at CI CS HSM
  simp only [hV] at HU HO
  have HVS := hideIt hV
  clear hV
  have HR : Hid ((nsOf V).length ≤ 1759218604416 ∧ ∀ i, i < (nsOf V).length → Fits (nodeAt (nsOf V) i)) := by
    rcases HSM.out with h | h
    · rw [Hid, h]; exact ⟨by simp, fun i hi => absurd hi (by simp)⟩
    · exact ⟨Nat.le_trans h.2.1 (by omega), h.few.2⟩
  obtain ⟨U, hUU⟩ : ∃ U : Nat, usedOf V = U := ⟨_, rfl⟩
  obtain ⟨ns, hns⟩ : ∃ ns, nsOf V = ns := ⟨_, rfl⟩
  have hne : (((U : Nat) : Int) != ((U : Nat) : Int)) = false := by simp
  have heq : (((U : Nat) : Int) == ((U : Nat) : Int)) = true := by simp
  unfold Fronts at CI CS
  simp only [hUU, hns] at CI CS
  rw [hns] at HR
  obtain ⟨N, hN⟩ : ∃ N, ns.length = N := ⟨_, rfl⟩
  have HNN := hideIt hN
  have HUU := hideIt hUU
  have HNS := hideIt hns
  clear hN hUU hns HSM
  go_wp2_with fail
  refine (CI.out w2).mono ?_
  rintro e w3 ⟨r3, base3, KV3, IV3, rfl, _, _, hn3, hb3⟩
  have H3 := hideIt hb3
  have z3 := hb3.size
  have HN3 : Hid (∀ w', Below w3.heap.size w3 w' → NodesAt w'.heap.size w' r3 ns) := fun w' hb => (hn3.below hb).nodes HR.out.1 HR.out.2
  obtain ⟨a3, c3, e3⟩ := own_slice hn3.row
  rw [HNN.out] at e3
  subst e3
  clear hn3 hb3
  go_wp2_with fail
  refine (CS.out w3).mono ?_
  rintro e w4 ⟨r4, base4, KV4, IV4, rfl, _, _, hn4, hb4⟩
  have H4 := hideIt hb4
  have z4 := hb4.size
  have HN4 : Hid (∀ w', Below w4.heap.size w4 w' → NodesAt w'.heap.size w' r4 ns) := fun w' hb => (hn4.below hb).nodes HR.out.1 HR.out.2
  obtain ⟨a4, c4, e4⟩ := own_slice hn4.row
  rw [HNN.out] at e4
  subst e4
  clear hn4 hb4
  have HEND : Hid (∀ w5, Below w4.heap.size w4 w5 → Below w1.heap.size w1 w5) := fun w5 hb => HB2.out.trans ((H3.out.trans ((H4.out.trans (hb.mono z4)).mono z3)).mono z2)
  have HS4 := hideIt (fun w5 (hb : Below w4.heap.size w4 w5) => same_any w5.heap.size _ _ ns ns w5 (HN3.out w5 (H4.out.trans (hb.mono z4))) (HN4.out w5 hb) (Nat.le_refl _))
  cases V with
  | none =>
    have hI : (none : Option (List VN × Nat)).isSome = false := rfl
    rw [hI]
    go_wp2_with fail
    refine (HS4.out w4 (Below.refl _ _)).mono ?_
    rintro e w5 ⟨⟨b, rfl, hb⟩, hb5⟩
    obtain rfl : b = true := hb.2 (by first | rfl | trivial)
    have H5 := hideIt hb5
    have z5 := hb5.size
    clear hb hb5
    go_wp2_with fail
    refine (HS4.out w5 H5.out).mono ?_
    rintro e w7 ⟨⟨b, rfl, hb⟩, hb7⟩
    obtain rfl : b = true := hb.2 (by first | rfl | trivial)
    have H7 := hideIt hb7
    have z7 := hb7.size
    clear hb hb7
    go_wp2_with fail
    go_ret
    exact ⟨rfl, HEND.out _ (H5.out.trans (H7.out.mono z5))⟩
  | some x =>
    obtain ⟨ns', q⟩ := x
    obtain rfl : ns' = ns := HNS.out
    obtain rfl : q = U := HUU.out
    have hI : (some (ns', q)).isSome = true := rfl
    rw [hI]
    have HU2 := hideIt (HU.out ns' q rfl)
    have HO2 := hideIt (HO.out ns' q rfl)
    have hok := HO2.out.1
    clear HU HO hI
    go_wp2_with fail
    refine (HS4.out w4 (Below.refl _ _)).mono ?_
    rintro e w5 ⟨⟨b, rfl, hb⟩, hb5⟩
    obtain rfl : b = true := hb.2 (by first | rfl | trivial)
    have H5 := hideIt hb5
    have z5 := hb5.size
    clear hb hb5
    obtain ⟨T, hT⟩ : ∃ T, txt (packV ns') = T := ⟨_, rfl⟩
    have HTB : Hid (T.data.toList = packV ns') := by rw [Hid, ← hT, bytes_txt]
    have HTZ : Hid (T.size ≤ q ∧ q ≤ s.size ∧ T.size ≤ 4000) := by
      have h1 := HU2.out
      have h2 := HO2.out.2.1
      have h3 := len_is T
      rw [HTB.out] at h3
      exact ⟨by omega, by omega, by omega⟩
    have CP := hideIt (implPack_any w5.heap.size _ ns' w5 (HN3.out w5 (H4.out.trans (H5.out.mono z4))) (Nat.le_refl _))
    rw [hT] at CP
    have CR : Hid (Fronts 18 T (some (ns', T.size))) := by
      have h3 := (pack_front hok (s := T) (tl := []) HTZ.out.2.2 (by rw [HTB.out, List.append_nil])).1
      rw [← HTB.out, len_is] at h3
      have h4 := implReadPack_any T (by have := HTZ.out.2.2; omega)
      rw [h3] at h4
      exact h4
    unfold Fronts at CR
    clear hT
    have hq1 : (T.size : Int) ≤ (q : Int) := by have := HTZ.out.1; omega
    have hq2 : (q : Int) ≤ (s.size : Int) := by have := HTZ.out.2.1; omega
    go_wp2_with fail
    refine CP.out.mono ?_
    rintro e w6 ⟨rfl, hb6⟩
    have H6 := hideIt (H5.out.trans (hb6.mono z5))
    have z6 := H6.out.size
    clear hb6
    go_wp2_with fail
    refine (CR.out w6).mono ?_
    rintro e w7 ⟨r7, base7, KV7, IV7, rfl, _, _, hn7, hb7⟩
    have H7 := hideIt (H6.out.trans (hb7.mono z6))
    have z7 := H7.out.size
    have HN7 : Hid (∀ w', Below w7.heap.size w7 w' → NodesAt w'.heap.size w' r7 ns') := fun w' hb => Nest.nodes (vs := ns') (hn7.below hb) HR.out.1 HR.out.2
    obtain ⟨a7, c7, e7⟩ := own_slice hn7.row
    obtain ⟨M7, hM7⟩ : ∃ M, (nsOf (some (ns', T.size))).length = M := ⟨_, rfl⟩
    rw [hM7] at e7
    subst e7
    have hU7 : usedOf (some (ns', T.size)) = T.size := rfl
    have hI7 : (some (ns', T.size)).isSome = true := rfl
    rw [hU7, hI7]
    clear hn7 hb7 hM7 hU7 hI7
    go_wp2_with fail
    refine (implOk_any w7.heap.size _ ns' w7 (HN3.out w7 (H4.out.trans (H7.out.mono z4))) (Nat.le_refl _)).mono ?_
    rintro e w8 ⟨rfl, hb8⟩
    have H8 := hideIt (H7.out.trans (hb8.mono z7))
    have H78 := hideIt hb8
    have z8 := H8.out.size
    rw [hok]
    clear hb8
    go_wp2_with fail
    refine (same_any w8.heap.size _ _ ns' ns' w8 (HN7.out w8 H78.out) (HN3.out w8 (H4.out.trans (H8.out.mono z4))) (Nat.le_refl _)).mono ?_
    rintro e w9 ⟨⟨b, rfl, hb⟩, hb9⟩
    obtain rfl : b = true := hb.2 (by first | rfl | trivial)
    have H9 := hideIt (H8.out.trans (hb9.mono z8))
    clear hb hb9
    go_wp2_with fail
    go_ret
    exact ⟨rfl, HEND.out _ H9.out⟩
end Go.Proofs.YtokhindolimchaaGreat

/-
  PROVED: for every code of bytes the law FnReadPack returns true: what is read of drawn bytes is as the specification reads it; it is right, its own bytes are no longer than those that were used, and it comes back from them. No condition beyond the row's own.
-/
namespace Go.Proofs.YtokhindolimchaaGreat
open Go.ChangeShapes Go.WideShapes Go.ChangeAt Go.RowKit
set_option linter.unusedVariables false

theorem fnReadPack_own : ownKnob Tryz.prog.godebug = none := by kernel_rfl
theorem fnReadPack_laidOut : laidOutB Tryz.prog = true := by kernel_rfl
set_option maxRecDepth 100000 in
theorem fnReadPack_lifted (os : Os) (started : os.Started) (H : Type) (enc : TypeId × Value → H) :
    ReturnsInHanded {} Tryz.checked os 5 .any (Rows.fnReadPackSpec.pre6 enc Tryz.prog Tryz.f5 Rows.fnReadPackRow.domain false) (Rows.fnReadPackSpec.post enc Tryz.prog Tryz.f5 false true false false) := by
  refine returnsInHanded_of_change (C := Tryz.checked) fnReadPack_own started (by kernel_rfl) Tryz.func5
    (ChangeSpec.witness6 (enc := enc) (C := Tryz.checked) false ⟨#[], #[.slice none 0 0], []⟩ 8 (by kernel_rfl) (by kernel_rfl) (by kernel_rfl) (by kernel_rfl)) ?_
  intro W base args ds gs before hval0 hW hcnd _
  have hval : ∀ (j : Nat) t v, Tryz.f5.params[j]? = some t → args[j]? = some v → Value.okWide Tryz.prog W .any base t v := hval0
  have hW' := hW
  obtain ⟨p, q, hA0, hV, rfl, hfz, hnd⟩ := hW
  have hA : DataW.TrodAll enc Tryz.prog W 0 (fun _ => true) true Tryz.f5.params.toList args.toList ds p := hA0
  rw [Tryz.params5] at hA hval
  obtain ⟨v0, vs0, d0, ds0, p0, q0, hargs, rfl, rfl, h0, r0⟩ := trodAll_cons hA
  obtain ⟨rfl, rfl, rfl⟩ := trodAll_nil r0
  obtain rfl : args = #[v0] := by cases args; simp_all
  obtain ⟨rfl, rfl⟩ := trodVars_none hV
  obtain ⟨a0, len0, cap0, rfl⟩ := okWide_slice Tryz.underlying22 (hval 0 22 v0 rfl rfl)
  have k0 := h0
  have lt0 : ∀ x ∈ p0, x.block < W.heap.size := by obtain ⟨m, hm⟩ := k0; exact DataW.trod_lt m _ _ _ hm
  obtain ⟨n, w0⟩ : ∃ n, RawCode W (.slice a0 len0 cap0) n := by
    obtain ⟨fuel, hf⟩ := h0
    exact raw_code (by simpa [Value.cells] using hf)
  clear hA0 hval0
  refine (lawFnReadPack_walk (.slice a0 len0 cap0) n W w0).mono fun e W' ⟨he, bel⟩ => ?_
  subst he
  exact ⟨_, rfl, _, _, _, [], _, [], hW', trodAll_mk1 (shut_bool Tryz.underlying4 _), (trodAll_cons_mk (Below.trod fnReadPack_laidOut (by kernel_rfl) (of_decide_eq_true (by kernel_rfl)) k0 bel lt0) trodAll_mk0), rfl, bel.frame _, fun h => by cases h⟩

theorem fnReadPack_holds : Rows.FnReadPackSaid :=
  OpenClaim.holds_of_wide 5 Tryz.f5 rfl rfl rfl rfl rfl rfl rfl ⟨rfl, rfl, rfl, rfl, rfl⟩ rfl rfl rfl rfl rfl (by kernel_rfl) Tryz.func5 (by kernel_rfl)
    (of_decide_eq_true (by kernel_rfl)) (by unfold Func.isWrapper; first | (rw [if_pos (by decide +kernel)]; kernel_rfl) | (rw [if_neg (by decide +kernel)]; exact ⟨rfl, rfl⟩))
    (fun os started H enc _ => fnReadPack_lifted os started H enc)
#print axioms fnReadPack_holds
end Go.Proofs.YtokhindolimchaaGreat
