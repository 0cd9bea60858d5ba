import Derived.Test.YtehihemfepbmfaaGreatDoorDrOp
import Derived.ProofKit
import Derived.OpenShut
import Derived.ShutString
import Derived.ChangeOld
import Derived.Below
import Derived.Test.YtehihemfepbmfaaGreatDoorRowB
import Derived.Test.YtehihemfepbmfaaGreatDoorSDig
import Derived.Test.YtehihemfepbmfaaGreatDoorUneP
namespace Go.Proofs.YtehihemfepbmfaaGreatDoor
open Go.RowKit
set_option maxHeartbeats 3200000
open Go.ChangeShapes Go.WideShapes Go.ChangeAt Go.RowKit
set_option linter.unusedSimpArgs false
set_option linter.unusedVariables false
set_option linter.unusedSectionVars false
theorem Xvj (a : Option Addr) (n cap : Nat) (w : World) (hn : n ≤ 9223372036854775807) :
  Calls Tryz.prog 7 #[.slice a n cap] w fun e w' => e = .returned (.bool (decide (1048576 < n))) ∧ w' = w := by
 by_cases h : 1048576 < n
 ·have h' : (1048576 : Int) < (n : Int) := by omega
  go_enter Tryz.func7, Tryz.ntmps7
  go_wp2
  go_ret
  exact ⟨Xf (by simp [h]), rfl⟩
 ·have h' : ¬ (1048576 : Int) < (n : Int) := by omega
  go_enter Tryz.func7, Tryz.ntmps7
  go_wp2
  go_ret
  exact ⟨Xf (by simp [h]), rfl⟩
def Xfp (w : World) (v : Value) (n : Nat) : Prop :=
 n ≤ 9223372036854775807 ∧ ∃ a cap, v = .slice a n cap ∧ (0 < n → ∃ b o, a = some ⟨b, o, none⟩ ∧ b < w.heap.size ∧ ∀ i, i < n → ∃ x : Nat, x < 256 ∧ w.cell? ⟨b, o + i, none⟩ = some (.int .u8 x))
theorem Xvk : Tryz.prog.cellsOf 5 = 1 := by kernel_rfl
theorem Xxm {n : Int} (h : (Lit.int .u8 n).wf = true) : 0 ≤ n ∧ n ≤ 255 := by
 simp [Lit.wf, IntKind.min, IntKind.max, IntKind.signed, IntKind.bits] at h
 omega
theorem Jv {w : World} {b o : Nat} {v : Value} (h : w.cell? ⟨b, o, none⟩ = some v) : b < w.heap.size := by
 unfold World.cell? at h
 cases hb : w.heap[b]? with
 | none => simp [hb] at h
 | some x => exact (Array.getElem?_eq_some_iff.1 hb).1
section
variable {H : Type} {enc : TypeId × Value → H} {W : World} {base : Nat} {spare : Nat → Bool} {held : Bool}
theorem Xr0 {fuel : Nat} {v : Value} {x : DataW H × List MemPlace} (h : DataW.trod enc Tryz.prog W base spare held fuel 22 [v] = some x) : ∃ n, Xfp W v n := by
 rcases open_ints Tryz.underlying22 Tryz.underlying5 Xvk h with ⟨hcs, _⟩ | ⟨a, len, cap, zs, hcs, _, hl, hm, hz, _, hcell, hwz⟩
 ·refine ⟨0, by omega, none, 0, by simpa using hcs, fun hl => absurd hl (by simp)⟩
 ·have hlen : len ≤ zs.length := by rw [hz]; split <;> omega
  have hm' : len ≤ 9223372036854775807 := by unfold maxLen at hm; omega
  refine ⟨len, hm', some a, cap, by simpa using hcs, fun hl0 => ?_⟩
  obtain ⟨b, o, spot⟩ := a
  have hc0 := hcell 0 (by omega)
  have hspot : spot = none := by simpa [Addr.add] using World.cell?_spot hc0
  subst hspot
  have hc' : ∀ i, i < len → W.cell? ⟨b, o + i, none⟩ = some (.int .u8 (zs.getD i 0)) := fun i hi => by
   have := hcell i (by omega)
   by_cases e : i = 0
   ·subst e; simpa [Addr.add] using this
   ·simpa [Addr.add, e] using this
  refine ⟨b, o, rfl, Jv (hc' 0 (by omega)), fun i hi => ?_⟩
  have hw := Xxm (hwz (zs.getD i 0) (by
   rw [List.getD_eq_getElem?_getD, List.getElem?_eq_getElem (by omega)]
   exact List.getElem_mem _))
  refine ⟨(zs.getD i 0).toNat, by omega, ?_⟩
  rw [hc' i hi, show (((zs.getD i 0).toNat : Nat) : Int) = zs.getD i 0 by omega]
end

theorem RowB.only {base rb : Nat} {w w' : World} {v : Value} {l : List UInt8} (h : RowB base w v l) (ho : Only (fun c => c = rb) w w') (hr : rb < base) : RowB base w' v l := by
 refine ⟨h.1, ?_⟩
 rcases h.2 with ⟨hv, h0⟩ | ⟨g, cap, cur, hv, h1, h2, h3⟩
 ·exact .inl ⟨hv, h0⟩
 ·refine .inr ⟨g, cap, cur, hv, h1, ?_, h3⟩
  rw [ho.2 g ?_ (by omega)]
  ·exact h2
  ·rcases Nat.lt_or_ge g w.heap.size with h' | h'
   ·exact h'
   ·rw [Array.getElem?_eq_none h'] at h2; cases h2
theorem RdAt.low {w w' : World} {rb n p N : Nat} (h : RdAt w rb n p) (hb : Below N w w') (hr : rb < N) : RdAt w' rb n p := by
 have hl := h.lt
 refine ⟨by have := hb.size; omega, ?_, (Xi hb hr).trans h.place, h.le, h.few, (Xdw (hb.block rb hr)).trans h.free⟩
 obtain ⟨a, cap, h1, h2⟩ := h.src
 refine ⟨a, cap, (Xi hb hr).trans h1, fun hp => ?_⟩
 obtain ⟨b, o, e, hlt, hx⟩ := h2 hp
 exact ⟨b, o, e, hlt, fun i hi => by obtain ⟨x, h3, h4⟩ := hx i hi; exact ⟨x, h3, (Xi hb (by omega)).trans h4⟩⟩
theorem Drawn.grow {rb n : Nat} {a b c : World} (h : Drawn rb n a b) (k : Below a.heap.size b c) (hr : rb < a.heap.size) : Drawn rb n a c := by
 obtain ⟨p, hp⟩ := h.rd
 exact ⟨⟨p, hp.low k hr⟩, ⟨Nat.le_trans h.only.1 k.size, fun i h1 h2 => (k.block i h1).trans (h.only.2 i h1 h2)⟩, h.below.trans (k.mono (Nat.le_of_lt hr))⟩
set_option maxRecDepth 100000 in
theorem Xlc (rb n m : Nat) (w : World) (h : ∃ p, RdAt w rb n p) (hM : m ≤ 1000) :
  Calls Tryz.prog 77 #[.pointer (some ⟨rb, 0, none⟩), .int .i64 m] w fun e w' => (∃ s : ByteArray, s.size ≤ m ∧ e = .returned (.string s)) ∧ Drawn rb n w w' := by
 obtain ⟨p0, h0⟩ := h
 have hlr := h0.lt
 have HD0 := Xb ((Drawn.refl h0).next ((Below.refl _ _).alloc (Nat.le_refl _) (.cells #[] 5)))
 have HR0 := Xb (Xse w)
 clear h0
 go_enter Tryz.func77, Tryz.ntmps77
 go_wp2_with fail
 refine (Yv rb n (m + 1) _ HD0.out.rd (by omega) (by omega)).mono ?_
 rintro e w1 ⟨⟨x, hx, rfl⟩, hd⟩
 have HD1 := Xb (HD0.out.trans hd)
 have HR1 := Xb (HR0.out.only hd.only hlr)
 clear hd
 go_wp2_with fail
 go_loopw [5, 6] (fun v i wr => ∃ (j : Nat) (o : List UInt8), i = .int .i64 j ∧ o.length + j ≤ m ∧ RowB w.heap.size wr v o ∧ Drawn rb n w wr) (fun _ i _ => (intOf i).toNat)
 case atStart => exact ⟨x, [], rfl, by simp; omega, HR1.out, HD1.out⟩
 case round =>
  obtain ⟨j, o, rfl, hj, hrow, hd⟩ := hrel
  obtain ⟨ao, co, eo⟩ := hrow.slice
  obtain ⟨q, hq⟩ : ∃ q, o.length = q := ⟨_, rfl⟩
  have HR := Xb hrow
  have HD := Xb hd
  have hz : w.heap.size ≤ wr.heap.size := hd.only.1
  rw [hq] at eo hj
  have HQ := Xb hq
  subst eo
  clear hrow hd hq
  by_cases hlt : 0 < j
  ·have hlt' : (0 : Int) < (j : Int) := by omega
   go_wp2_with fail
   refine (Yv rb n 256 _ HD.out.rd (by omega) (by omega)).mono ?_
   rintro e w2 ⟨⟨y, hy, rfl⟩, hd⟩
   have HD2 := Xb (HD.out.trans hd)
   have HR2 := Xb (HR.out.only hd.only hlr)
   have hz2 : w.heap.size ≤ w2.heap.size := (HD.out.trans hd).only.1
   clear hd
   have e1 : IntKind.u8.wrap (y : Int) = ((UInt8.ofNat y).toNat : Int) := by
    rw [Xdp (by omega) (by omega), UInt8.toNat_ofNat_of_lt' (show y < 256 from hy)]
   go_wp2_with (at_builtin; refine Xkh rfl _ _ rfl w.heap.size o _ rfl HR2.out (UInt8.ofNat y) rfl (by rw [HQ.out]; omega) hz2 ?_)
   intro v' w3 hr3 hb3
   have HD3 := Xb (HD2.out.grow hb3 hlr)
   clear hb3
   go_wp2_with fail
   refine ⟨⟨j - 1, _, by go_num, ?_, hr3, HD3.out⟩, by simp [intOf]; omega⟩
   rw [List.length_append, HQ.out]; simp; omega
  ·obtain rfl : j = 0 := by omega
   have hc0 := HR.out.text HQ.out
   go_wp2_with fail
   go_ret
   exact ⟨⟨txt o, by rw [Z8, HQ.out]; omega, rfl⟩, HD.out⟩

theorem Ww (u v : Value) : ∀ w, (callFunc 41 #[u, v]).run Tryz.prog w = .ok (.enter 41 #[u, v]) w := fun w => by kernel_rfl
set_option maxRecDepth 100000 in
theorem Xna (rb n : Nat) (s : ByteArray) (hs : s.size ≤ 100000) (w : World) (h : ∃ p, RdAt w rb n p) :
  Calls Tryz.prog 42 #[.pointer (some ⟨rb, 0, none⟩), .string s] w fun e w' => (∃ t : ByteArray, t.size ≤ s.size + 60 ∧ e = .returned (.string t)) ∧ Drawn rb n w w' := by
 have H := Xb h
 clear h
 go_enter Tryz.func42, Tryz.ntmps42
 go_wp2_with fail
 refine (Yv rb n 6 w H.out (by omega) (by omega)).mono ?_
 rintro e w1 ⟨⟨x, hx, rfl⟩, hd⟩
 have HD := Xb hd
 clear hd
 by_cases hx1 : x = 1
 ·subst hx1
  have HC := Xb (Yv rb n (s.size + 1) w1 HD.out.rd (by omega) (by omega))
  have e1 : ((s.size + 1 : Nat) : Int) = (s.size : Int) + 1 := by omega
  rw [e1] at HC
  go_wp2_with fail
  refine HC.out.mono ?_
  rintro e w2 ⟨⟨y, hy, rfl⟩, hd⟩
  have HD2 := Xb (HD.out.trans hd)
  have hy' : (y : Int) ≤ (s.size : Int) := by omega
  clear hd
  go_wp2_with fail
  go_ret
  exact ⟨⟨_, by simp only [ByteArray.size_extract]; omega, rfl⟩, HD2.out⟩
 have e1 : ((x : Int) == 1) = false := by simp; omega
 by_cases hx2 : x = 2
 ·subst hx2
  by_cases hz : s.size = 0
  ·have hz' : ¬ (0 : Int) < (s.size : Int) := by omega
   go_wp2_with fail
   go_ret
   exact ⟨⟨_, by omega, rfl⟩, HD.out⟩
  have hz' : (0 : Int) < (s.size : Int) := by omega
  go_wp2_with fail
  refine (Yv rb n s.size w1 HD.out.rd (by omega) (by omega)).mono ?_
  rintro e w2 ⟨⟨y, hy, rfl⟩, hd⟩
  have HD2 := Xb (HD.out.trans hd)
  have hy' : (y : Int) < (s.size : Int) := by omega
  have hy1 : (y : Int) + 1 ≤ (s.size : Int) := by omega
  clear hd
  go_wp2_with fail
  rename_i Q1 K1 hK1 hpos K2 hK2
  have HDD : Hid (Drawn rb n w w2.drew) := HD2.out.next ((Below.refl _ _).drew)
  have hi1 : ((y + 1 : Nat) : Int) = (y : Int) + 1 := by omega
  refine wp_region_any (by kernel_rfl) ?_
  change wpAny _ _ _ _ _ _ _ (World.drew _)
  refine wpAny_take (i := 0) (v := .string s) rfl (by kernel_rfl) (by kernel_rfl) (by kernel_rfl) (fun _ _ _ h => h) (Or.inl ⟨by kernel_rfl, fun w => ?_⟩) ?_
  ·go_simp
  refine wpAny_take (i := 1) (v := .int .i64 (y : Int)) rfl (by kernel_rfl) (by kernel_rfl) (by kernel_rfl) (fun _ _ _ h => h) (Or.inl ⟨by kernel_rfl, fun w => ?_⟩) ?_
  ·go_simp
  refine wpAny_take (i := 2) (v := .string (s.extract 0 y)) rfl (by kernel_rfl) (by kernel_rfl) (by kernel_rfl) (fun _ _ _ h => h) (Or.inl ⟨by kernel_rfl, fun w => ?_⟩) ?_
  ·go_simp <;> (intro hh; omega)
  refine wpAny_take (i := 4) (v := .pointer (some ⟨rb, 0, none⟩)) rfl (by kernel_rfl) (by kernel_rfl) (by kernel_rfl) (fun _ _ _ h => h) (Or.inl ⟨by kernel_rfl, fun w => ?_⟩) ?_
  ·go_simp
  refine wpAny_take (i := 9) (v := .string s) rfl (by kernel_rfl) (by kernel_rfl) (by kernel_rfl) (fun _ _ _ h => h) (Or.inl ⟨by kernel_rfl, fun w => ?_⟩) ?_
  ·go_simp
  refine wpAny_take (i := 10) (v := .int .i64 (y : Int)) rfl (by kernel_rfl) (by kernel_rfl) (by kernel_rfl) (fun _ _ _ h => h) (Or.inl ⟨by kernel_rfl, fun w => ?_⟩) ?_
  ·go_simp
  refine wpAny_take (i := 11) (v := .int .i64 ((y : Int) + 1)) rfl (by kernel_rfl) (by kernel_rfl) (by kernel_rfl) (fun _ _ _ h => h) (Or.inl ⟨by kernel_rfl, fun w => ?_⟩) ?_
  ·go_simp
   exact Xcg (by omega) (by omega)
  refine wpAny_take (i := 12) (v := .string (s.extract (y + 1) s.size)) rfl (by kernel_rfl) (by kernel_rfl) (by kernel_rfl) (fun _ _ _ h => h) (Or.inl ⟨by kernel_rfl, fun w => ?_⟩) ?_
  ·go_simp <;> (intro hh; omega)
  have HFIN : Hid (∀ c : ByteArray, c.size ≤ 60 → (s.extract 0 y ++ c ++ s.extract (y + 1) s.size).size ≤ s.size + 60) := fun c hc => by simp only [ByteArray.size_append, ByteArray.size_extract]; omega
  have HTB : Hid (Xc2 #[.string ⟨#[48]⟩, .string ⟨#[32]⟩, .string ⟨#[44]⟩, .string ⟨#[10]⟩, .string ⟨#[129]⟩, .string ⟨#[34]⟩, .string ⟨#[93]⟩, .string ⟨#[45]⟩] 8 = true) := by rfl
  refine wpAny_ready (rs := [3, 5]) (by kernel_rfl) (by simp) ?_
  refine AllReady.cons rfl (fun K hK => ?_) (AllReady.cons rfl (fun K hK => ?_) AllReady.nil)
  ·go_simp
   refine hK _ _ ?_
   clear hK K
   refine wpAny_ready (rs := [5]) (by kernel_rfl) (by simp) ?_
   refine AllReady.cons rfl (fun K hK => ?_) AllReady.nil
   refine Xdv (by kernel_rfl) 41 (.tmp 30) (.const (.int .i64 8)) 69 3 (by kernel_rfl) (.pointer (some ⟨rb, 0, none⟩)) (.int .i64 8) (by kernel_rfl) (by kernel_rfl) (Ww _ _) (Ge rb n 8 _ _ w2.drew HDD.out.rd (by omega) (by omega) HTB.out) ?_
   rintro e w3 ⟨⟨z, c, hz, rfl, hcs, hc⟩, hd3⟩
   have HD3 := Xb (HDD.out.trans hd3)
   refine .inl ⟨_, rfl, ?_⟩
   refine hK _ _ ?_
   clear hK K hd3
   have hz' : (z : Int) < 8 := by omega
   obtain ⟨g, hg⟩ : ∃ g, w2.drew.heap.size = g := ⟨_, rfl⟩
   have hg2 : w2.heap.size = g := hg
   simp only [hg, hg2] at hc ⊢
   refine wpAny_take (i := 6) (v := .pointer (some ⟨g, z, none⟩)) rfl (by kernel_rfl) (by kernel_rfl) (by kernel_rfl) (fun _ _ _ h => h) (Or.inl ⟨by kernel_rfl, fun w => ?_⟩) ?_
   ·go_simp <;> omega
   refine wpAny_ready (rs := [7]) (by kernel_rfl) (by simp) ?_
   refine AllReady.cons rfl (fun K hK => ?_) AllReady.nil
   go_simp
   refine hK _ _ ?_
   clear hK K
   refine wpAny_take (i := 8) (v := .string (s.extract 0 y ++ c)) rfl (by kernel_rfl) (by kernel_rfl) (by kernel_rfl) (fun _ _ _ h => h) (Or.inl ⟨by kernel_rfl, fun w => ?_⟩) ?_
   ·go_simp <;> omega
   refine wpAny_take (i := 13) (v := .string (s.extract 0 y ++ c ++ s.extract (y + 1) s.size)) rfl (by kernel_rfl) (by kernel_rfl) (by kernel_rfl) (fun _ _ _ h => h) (Or.inl ⟨by kernel_rfl, fun w => ?_⟩) ?_
   ·go_simp <;> omega
   refine wpAny_take (i := 14) (v := .string (s.extract 0 y ++ c ++ s.extract (y + 1) s.size)) rfl (by kernel_rfl) (by kernel_rfl) (by kernel_rfl) (fun _ _ _ h => h) (Or.inl ⟨by kernel_rfl, fun w => ?_⟩) ?_
   ·go_simp
   refine wpAny_done (by kernel_rfl) ?_ _
   change K2 _ _
   refine hK2 _ _ ?_
   refine wp_ret ?_
   show Q1 .ret _ _
   refine bodyPost_ret (v := .string (s.extract 0 y ++ c ++ s.extract (y + 1) s.size)) (by kernel_rfl) (by kernel_rfl) ?_
   exact ⟨⟨_, HFIN.out c hcs, rfl⟩, HD3.out⟩
  ·refine Xdv (by kernel_rfl) 41 (.tmp 30) (.const (.int .i64 8)) 69 3 (by kernel_rfl) (.pointer (some ⟨rb, 0, none⟩)) (.int .i64 8) (by kernel_rfl) (by kernel_rfl) (Ww _ _) (Yv rb n 8 _ HDD.out.rd (by omega) (by omega)) ?_
   rintro e w4 ⟨⟨z, hz, rfl⟩, hd4⟩
   have HD4 := Xb (HDD.out.trans hd4)
   refine .inl ⟨_, rfl, ?_⟩
   refine hK _ _ ?_
   clear hK K hd4
   have hz' : (z : Int) < 8 := by omega
   refine wpAny_ready (rs := [3]) (by kernel_rfl) (by simp) ?_
   refine AllReady.cons rfl (fun K hK => ?_) AllReady.nil
   go_simp
   refine hK _ _ ?_
   clear hK K
   obtain ⟨c, hc1, hcs⟩ := Kn HTB.out hz
   have hc := Jo (w := w4) (T := 9) hc1
   obtain ⟨g, hg⟩ : ∃ g, w4.heap.size = g := ⟨_, rfl⟩
   have HD3 := Xb (HD4.out.next ((Below.refl _ _).alloc (Nat.le_refl _) (.cells #[.string ⟨#[48]⟩, .string ⟨#[32]⟩, .string ⟨#[44]⟩, .string ⟨#[10]⟩, .string ⟨#[129]⟩, .string ⟨#[34]⟩, .string ⟨#[93]⟩, .string ⟨#[45]⟩] 9)))
   obtain ⟨w3, hw3⟩ : ∃ w3, w4.alloc (.cells #[.string ⟨#[48]⟩, .string ⟨#[32]⟩, .string ⟨#[44]⟩, .string ⟨#[10]⟩, .string ⟨#[129]⟩, .string ⟨#[34]⟩, .string ⟨#[93]⟩, .string ⟨#[45]⟩] 9) = w3 := ⟨_, rfl⟩
   simp only [hg, hw3] at hc HD3 ⊢
   clear hc1
   refine wpAny_take (i := 6) (v := .pointer (some ⟨g, z, none⟩)) rfl (by kernel_rfl) (by kernel_rfl) (by kernel_rfl) (fun _ _ _ h => h) (Or.inl ⟨by kernel_rfl, fun w => ?_⟩) ?_
   ·go_simp <;> omega
   refine wpAny_ready (rs := [7]) (by kernel_rfl) (by simp) ?_
   refine AllReady.cons rfl (fun K hK => ?_) AllReady.nil
   go_simp
   refine hK _ _ ?_
   clear hK K
   refine wpAny_take (i := 8) (v := .string (s.extract 0 y ++ c)) rfl (by kernel_rfl) (by kernel_rfl) (by kernel_rfl) (fun _ _ _ h => h) (Or.inl ⟨by kernel_rfl, fun w => ?_⟩) ?_
   ·go_simp <;> omega
   refine wpAny_take (i := 13) (v := .string (s.extract 0 y ++ c ++ s.extract (y + 1) s.size)) rfl (by kernel_rfl) (by kernel_rfl) (by kernel_rfl) (fun _ _ _ h => h) (Or.inl ⟨by kernel_rfl, fun w => ?_⟩) ?_
   ·go_simp <;> omega
   refine wpAny_take (i := 14) (v := .string (s.extract 0 y ++ c ++ s.extract (y + 1) s.size)) rfl (by kernel_rfl) (by kernel_rfl) (by kernel_rfl) (fun _ _ _ h => h) (Or.inl ⟨by kernel_rfl, fun w => ?_⟩) ?_
   ·go_simp
   refine wpAny_done (by kernel_rfl) ?_ _
   change K2 _ _
   refine hK2 _ _ ?_
   refine wp_ret ?_
   show Q1 .ret _ _
   refine bodyPost_ret (v := .string (s.extract 0 y ++ c ++ s.extract (y + 1) s.size)) (by kernel_rfl) (by kernel_rfl) ?_
   exact ⟨⟨_, HFIN.out c hcs, rfl⟩, HD3.out⟩
 have e2 : ((x : Int) == 2) = false := by simp; omega
 by_cases hx3 : x = 3
 ·subst hx3
  go_wp2_with fail
  refine (Xlc rb n 2 w1 HD.out.rd (by omega)).mono ?_
  rintro e w2 ⟨⟨t, ht, rfl⟩, hd⟩
  have HD2 := Xb (HD.out.trans hd)
  clear hd
  go_wp2_with fail
  go_ret
  exact ⟨⟨s ++ t, by simp [ByteArray.size_append]; omega, rfl⟩, HD2.out⟩
 have e3 : ((x : Int) == 3) = false := by simp; omega
 go_wp2_with fail
 go_ret
 exact ⟨⟨_, by omega, rfl⟩, HD.out⟩
end Go.Proofs.YtehihemfepbmfaaGreatDoor
