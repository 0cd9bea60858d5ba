import Derived.Test.YtehihemfepbmfaaGreatDoorProg
import Derived.Test.YtehihemfepbmfaaGreatDoorUneP
import Derived.Laws.IdiomStrings
import Derived.Below
import Derived.WideShapes
import Derived.WalkKit
import Derived.Lib.ItoaNum
import Derived.Deep.RegionWith
import Derived.Deep.QuietTactic
import Derived.BigQuiet
namespace Go.Proofs.YtehihemfepbmfaaGreatDoor
set_option linter.unusedSectionVars false
set_option maxHeartbeats 1600000
open Go.RowKit Go.WideShapes
set_option linter.unusedSimpArgs false
set_option linter.unusedVariables false
theorem Xjd (x : UInt8) (w : World) : (convert 22 9 (.slice (some ⟨w.heap.size, 0, none⟩) 1 1)).run Tryz.prog (w.alloc (.cells #[.int .u8 (x.toNat : Int)] 5)) = .ok (.string ⟨#[x]⟩) (w.alloc (.cells #[.int .u8 (x.toNat : Int)] 5)) := by
 have := run_convert_bytes_back (P := Tryz.prog) (w.alloc (.cells #[.int .u8 (x.toNat : Int)] 5)) 22 9 5 ⟨w.heap.size, 0, none⟩ 1 [x] Tryz.underlying22 Tryz.underlying5 Tryz.underlying9 (fun j hj => by
  obtain rfl : j = 0 := by simpa using hj
  rw [add_plain, Nat.zero_add]
  simp)
 exact this

open Go.RowKit Go.WideShapes
theorem Xlk (u : Nat) : (Lib.decDigits u).length ≤ u + 1 := by
 induction u using Nat.strongRecOn with
 | ind u ih =>
  rw [Lib.decDigits]
  split
  ·simp
  ·rw [List.length_append]
   have := ih (u / 10) (by omega)
   simp
   omega
theorem Xr6 {u : Nat} (h : 10 ≤ u) : Lib.decDigits u = Lib.decDigits (u / 10) ++ [UInt8.ofNat (48 + u % 10)] := by
 rw [Lib.decDigits, dif_neg (by omega)]
theorem Xvs {d : Nat} (h : d < 10) : (((UInt8.ofNat (48 + d)).toNat : Nat) : Int) = 48 + (d : Int) := by
 rw [UInt8.toNat_ofNat_of_lt' (by show 48 + d < 256; omega)]
 omega
theorem Xll {d : Int} (h0 : 0 ≤ d) (h1 : d < 10) (w : World) : (convert 22 9 (.slice (some ⟨w.heap.size, 0, none⟩) 1 1)).run Tryz.prog (w.alloc (.cells #[.int .u8 (48 + d)] 5)) = .ok (.string (txt [UInt8.ofNat (48 + d.toNat)])) (w.alloc (.cells #[.int .u8 (48 + d)] 5)) := by
 have := run_convert_bytes_back (P := Tryz.prog) (w.alloc (.cells #[.int .u8 (48 + d)] 5)) 22 9 5 ⟨w.heap.size, 0, none⟩ 1 [UInt8.ofNat (48 + d.toNat)] Tryz.underlying22 Tryz.underlying5 Tryz.underlying9 (fun j hj => by
  obtain rfl : j = 0 := by simpa using hj
  rw [add_plain, Nat.zero_add]
  have e := Xvs (d := d.toNat) (by omega)
  rw [Int.toNat_of_nonneg h0] at e
  simp only [List.getElem_cons_zero, e]
  simp)
 exact this
set_option maxRecDepth 100000 in
theorem Xgg (u : Nat) (w : World) (hu : u ≤ 4000000000000000000) : Calls Tryz.prog 62 #[.int .i64 u] w fun e w' => e = .returned (.string (txt (Lib.decDigits u))) ∧ Below w.heap.size w w' := by
 have hn0 : ¬ (u : Int) < 0 := by omega
 go_enter Tryz.func62, Tryz.ntmps62
 go_wp2_with fail
 go_loopw [0, 3] (fun v o wr => ∃ (m : Nat) (l : List UInt8), m ≤ u ∧ v = .int .i64 m ∧ o = .string (txt l) ∧ Lib.decDigits u = Lib.decDigits m ++ l ∧ Below w.heap.size w wr) (fun v _ _ => (intOf v).toNat)
 case atStart => exact ⟨u, [], Nat.le_refl _, rfl, rfl, by simp, Below.refl _ _⟩
 case round =>
  obtain ⟨m, l, hm, rfl, rfl, hd, hb⟩ := hrel
  have HD := Xa hd
  have HB := Xa hb
  have zb := hb.size
  have hll : l.length ≤ 4000000000000000001 := by
   have h1 := Xlk u
   have h2 := congrArg List.length hd
   rw [List.length_append] at h2
   omega
  have hz : (txt l).size ≤ 4000000000000000001 := by rw [Z8]; exact hll
  have hz1 : ∀ x, (txt [x]).size = 1 := fun x => Z8 [x]
  clear hd hb hll
  by_cases h10 : 10 ≤ m
  ·have h10' : 10 ≤ (m : Int) := by omega
   have hc := Xll (d := (m : Int) % 10) (by omega) (by omega) wr
   have e1 : ((m : Int) % 10).toNat = m % 10 := by omega
   rw [e1] at hc
   have HS := Xa (Xr6 h10)
   obtain ⟨y, hy⟩ : ∃ y, UInt8.ofNat (48 + m % 10) = y := ⟨_, rfl⟩
   rw [hy] at hc HS
   clear hy e1
   have HQ : Hid (Value.int .i64 ((m : Int) / 10) = .int .i64 ((m / 10 : Nat) : Int)) := by rw [Hid]; congr 1
   go_wp2_with fail
   refine ⟨⟨m / 10, y :: l, by omega, HQ.out, Xxb (Xae [y] l), by rw [HD.out, HS.out, List.append_assoc]; rfl, HB.out.alloc zb _⟩, by simp [intOf]; omega⟩
  ·have h10' : ¬ 10 ≤ (m : Int) := by omega
   have hc := Xll (d := (m : Int)) (by omega) (by omega) wr
   rw [Int.toNat_natCast] at hc
   have HS := Xa (Lib.decDigits_one (i := m) (by omega))
   obtain ⟨y, hy⟩ : ∃ y, UInt8.ofNat (48 + m) = y := ⟨_, rfl⟩
   rw [hy] at hc HS
   clear hy
   go_wp2_with fail
   go_ret
   exact ⟨by rw [HD.out, HS.out]; exact Xl8 (Xae _ _), HB.out.alloc zb _⟩
set_option maxRecDepth 100000 in
theorem Xay (n : Int) (w : World) (h0 : -4000000000000000000 ≤ n) (h1 : n ≤ 4000000000000000000) : Calls Tryz.prog 62 #[.int .i64 n] w fun e w' => e = .returned (.string (txt (Lib.itoa n))) ∧ Below w.heap.size w w' := by
 by_cases h : n < 0
 ·have C := Xa (fun w => Xgg n.natAbs w (by omega))
  have e : ((n.natAbs : Nat) : Int) = -n := by omega
  have hz : (txt (Lib.decDigits n.natAbs)).size ≤ 4000000000000000001 := by rw [Z8]; have := Xlk n.natAbs; omega
  have HI := Xa (show Lib.itoa n = 45 :: Lib.decDigits n.natAbs by unfold Lib.itoa; rw [if_pos h])
  rw [e] at C
  clear e
  obtain ⟨D, hD⟩ : ∃ D, Lib.decDigits n.natAbs = D := ⟨_, rfl⟩
  rw [hD] at C hz HI
  clear hD
  go_enter Tryz.func62, Tryz.ntmps62
  go_wp2_with (go_at_call 62; refine (C.out _).mono ?_; rintro e w1 ⟨rfl, hb1⟩)
  go_ret
  exact ⟨by rw [HI.out]; exact Xl8 (Xae [45] D), hb1⟩
 ·have e : Lib.itoa n = Lib.decDigits n.toNat := by unfold Lib.itoa; rw [if_neg h]
  have e2 : ((n.toNat : Nat) : Int) = n := by omega
  have := Xgg n.toNat w (by omega)
  rw [e2] at this
  rw [e]
  exact this

open Go.RowKit Go.WideShapes

open Go.RowKit Go.WideShapes

open Go.RowKit Go.WideShapes
def sml (j : Nat) : UInt8 := hexS.getD j 0
def grtS : List UInt8 := [48, 49, 50, 51, 52, 53, 54, 55, 56, 57, 65, 66, 67, 68, 69, 70]
def grt (j : Nat) : UInt8 := grtS.getD j 0
theorem Xp7 : ∀ (n : Fin 256) (j : Fin 16), (UInt8.ofNat n.val = sml j.val ∨ UInt8.ofNat n.val = grt j.val) → Gb (UInt8.ofNat n.val) = j.val := by decide +kernel
theorem Xm7 : ∀ n : Fin 256, (∀ j : Fin 16, UInt8.ofNat n.val ≠ sml j.val ∧ UInt8.ofNat n.val ≠ grt j.val) → Gb (UInt8.ofNat n.val) = -1 := by decide +kernel
theorem Xix {c : UInt8} {j : Nat} (hj : j < 16) (h : c = sml j ∨ c = grt j) : Gb c = j := by
 have := Xp7 ⟨c.toNat, c.toNat_lt⟩ ⟨j, hj⟩
 simp only [UInt8.ofNat_toNat] at this
 exact this h
theorem Xp8 {c : UInt8} (h : ∀ j, j < 16 → ¬ c = sml j ∧ ¬ c = grt j) : Gb c = -1 := by
 have := Xm7 ⟨c.toNat, c.toNat_lt⟩
 simp only [UInt8.ofNat_toNat] at this
 exact this fun j => h j.val j.isLt
theorem Xyc {n : Nat} (h : n < 16) : (ByteArray.mk #[48, 49, 50, 51, 52, 53, 54, 55, 56, 57, 97, 98, 99, 100, 101, 102])[n]'h = sml n := by
 show hexS[n]'h = hexS.getD n 0
 rw [List.getD, List.getElem?_eq_getElem (show n < hexS.length from h)]; rfl
theorem Xyd {n : Nat} (h : n < 16) : (ByteArray.mk #[48, 49, 50, 51, 52, 53, 54, 55, 56, 57, 65, 66, 67, 68, 69, 70])[n]'h = grt n := by
 show grtS[n]'h = grtS.getD n 0
 rw [List.getD, List.getElem?_eq_getElem (show n < grtS.length from h)]; rfl
theorem Xp9 {c d : UInt8} (h : c = d) : ((c.toNat : Int) == (d.toNat : Int)) = true := by rw [h]; simp
theorem Xqa {c d : UInt8} (h : ¬ c = d) : ((c.toNat : Int) == (d.toNat : Int)) = false := by simpa using Xu9 h
theorem Xf2 {a b : Int} (h : a = b) : Ending.returned (.int .i64 a) = Ending.returned (.int .i64 b) := by rw [h]
set_option maxRecDepth 100000 in
theorem Xku (c : UInt8) (w : World) : Calls Tryz.prog 181 #[.int .u8 (c.toNat : Int)] w fun e w' => e = .returned (.int .i64 (Gb c)) ∧ w' = w := by
 go_enter Tryz.func181, Tryz.ntmps181
 go_wp2_with fail
 go_loop [3] (fun i => ∃ k : Nat, k ≤ 16 ∧ i = .int .i64 k ∧ Hid (∀ j, j < k → ¬ c = sml j ∧ ¬ c = grt j)) (fun i => 16 - (intOf i).toNat)
 case atStart => exact ⟨0, by omega, rfl, fun j hj => by omega⟩
 case round =>
  obtain ⟨k, hk, rfl, HM⟩ := hrel
  by_cases hlt : k < 16
  ·have hlt' : (k : Int) < 16 := by omega
   have x1 := Xyc hlt
   have x2 := Xyd hlt
   by_cases h1 : sml k = c
   ·have b1 := Xp9 h1
    have HD := Xa (Xix hlt (.inl h1.symm))
    clear h1
    go_wp2_with fail
    go_ret
    exact ⟨Xf2 HD.out.symm, rfl⟩
   have b1 := Xqa h1
   by_cases h2 : grt k = c
   ·have b2 := Xp9 h2
    have HD := Xa (Xix hlt (.inr h2.symm))
    clear h1 h2
    go_wp2_with fail
    go_ret
    exact ⟨Xf2 HD.out.symm, rfl⟩
   have b2 := Xqa h2
   have HN := Xa (show ∀ j, j < k + 1 → ¬ c = sml j ∧ ¬ c = grt j by
    intro j hj
    rcases Nat.lt_or_ge j k with h | h
    ·exact HM.out j h
    ·obtain rfl : j = k := by omega
     exact ⟨fun e => h1 e.symm, fun e => h2 e.symm⟩)
   clear h1 h2
   go_wp2_with fail
   refine ⟨⟨k + 1, by omega, by go_num, HN⟩, by simp [intOf]; omega⟩
  ·obtain rfl : k = 16 := by omega
   have HD := Xa (Xp8 HM.out)
   go_wp2_with fail
   go_ret
   exact ⟨Xf2 HD.out.symm, rfl⟩
end Go.Proofs.YtehihemfepbmfaaGreatDoor
