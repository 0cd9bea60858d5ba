import Derived.Test.YtehihemfepbmfaaGreatDoorDrH
import Derived.Test.YtehihemfepbmfaaGreatDoorSamf
import Derived.Test.YtehihemfepbmfaaGreatDoorFtI
import Derived.Test.YtehihemfepbmfaaGreatDoorFSpc3
import Derived.Test.YtehihemfepbmfaaGreatDoorIFv
import Derived.Test.YtehihemfepbmfaaGreatDoorDrQ
namespace Go.Proofs.YtehihemfepbmfaaGreatDoor
set_option linter.unusedSectionVars false
set_option maxHeartbeats 6400000
open Go.RowKit
set_option linter.unusedSimpArgs false
set_option linter.unusedVariables false
set_option maxRecDepth 100000 in
theorem Xbu (v : Value) (n : Nat) (w : World) (h : Xfp w v n) (ht : TabsR w.heap.size w) :
  Calls Tryz.prog 4 #[v] w fun e w' => e = .returned (.bool true) ∧ Below w.heap.size w w' := by
 obtain ⟨hn, a, cap, rfl, hc⟩ := h
 have HCL : Hid (n ≤ 1048576 → Xj0 w.heap.size w (.slice a n cap) n) := fun h => ⟨h, a, cap, rfl, hc⟩
 have HT := Xb ht
 clear hc ht
 go_enter Tryz.func4, Tryz.ntmps4
 go_wp2_with fail
 refine (Xvj a n cap w hn).mono ?_
 rintro e w1 ⟨rfl, rfl⟩
 by_cases hbig : 1048576 < n
 ·go_wp2_with fail
  go_ret
  exact ⟨rfl, Below.refl _ _⟩
 have HC := Xb (HCL.out (by omega))
 clear HCL
 go_wp2_with fail
 refine (Xc6 w1.heap.size _ n w1 HC.out (Nat.le_refl _)).mono ?_
 rintro e w2 ⟨s, hss, rfl, hb2⟩
 have HB2 := Xb hb2
 have z2 := hb2.size
 clear hb2 HC
 have CI : Hid (∀ w, TabsR w.heap.size w → Calls Tryz.prog 13 #[.string s] w fun e w' => Xfz s.data.toList w e w' ∧ Zh (Kv s.data.toList)) := fun w h => (Wj (w := w) h (by omega)).mono fun e w' h => h.n
 have CS : Hid (∀ w, Calls Tryz.prog 16 #[.string s] w fun e w' => Xfz s.data.toList w e w' ∧ Zh (Kv s.data.toList)) := fun w => (Xc5 (w := w) (by omega)).mono fun e w' h => h.n
 have HOK : Hid (∀ gs, Qp s.data.toList = some gs → Kv s.data.toList = gs ∧ okF gs = true) := fun gs e => ⟨by unfold Kv; rw [e]; rfl, Xwz e⟩
 have hfew := Xsv s.data.toList
 unfold Xfz at CS CI
 obtain ⟨V, hV⟩ : ∃ V, Qp s.data.toList = V := ⟨_, rfl⟩
 obtain ⟨fs, hfs⟩ : ∃ fs, Kv s.data.toList = fs := ⟨_, rfl⟩
 rw [hfs] at hfew CS CI HOK
 rw [hV] at CS CI HOK
 obtain ⟨N, hL⟩ : ∃ N, fs.length = N := ⟨_, rfl⟩
 have HLL := Xb hL
 rw [hL] at hfew
 have hlen : fs.length ≤ 1048576 := by rw [hL]; omega
 have HLEN := Xb hlen
 clear hV hfs hL hlen
 go_wp2_with fail
 refine (CI.out w2 ((HT.out.next HB2.out).wide z2)).mono ?_
 rintro e w3 ⟨⟨hb3, v3, rfl, hr3⟩, hall⟩
 have HALL := Xb hall
 obtain ⟨a3, c3, e3⟩ := hr3.slice
 rw [HLL.out] at e3
 subst e3
 have HN3 : Hid (∀ w', Below w3.heap.size w3 w' → FNodesAt w'.heap.size w' (.slice a3 N c3) fs) := fun w' hb => (hr3.below hb).nodes HLEN.out HALL.out
 have HB3 := Xb (Below.nextF HB2.out hb3 z2)
 have z3 := hb3.size
 clear hr3 hb3 hall
 go_wp2_with fail
 refine (CS.out w3).mono ?_
 rintro e w4 ⟨⟨hb4, v4, rfl, hr4⟩, -⟩
 obtain ⟨a4, c4, e4⟩ := hr4.slice
 rw [HLL.out] at e4
 subst e4
 have HN4 : Hid (∀ w', Below w4.heap.size w4 w' → FNodesAt w'.heap.size w' (.slice a4 N c4) fs) := fun w' hb => (hr4.below hb).nodes HLEN.out HALL.out
 have H34 := Xb hb4
 have HB4 := Xb (Below.nextF HB3.out hb4 (by omega))
 have z4 := hb4.size
 clear hr4 hb4
 have HS4 := Xb (fun w5 (hb : Below w4.heap.size w4 w5) => Xbh w5.heap.size _ _ fs w5 (HN3.out w5 (Below.nextF H34.out hb z4)) (HN4.out w5 hb) (Nat.le_refl _))
 cases V with
 | none =>
  have hI : (none : Option (List FN)).isSome = false := rfl
  rw [hI]
  clear HOK
  go_wp2_with fail
  refine (HS4.out w4 (Below.refl _ _)).mono ?_
  rintro e w5 ⟨rfl, hb5⟩
  have H5 := Xb hb5
  have z5 := hb5.size
  clear hb5
  go_wp2_with fail
  refine (HS4.out w5 H5.out).mono ?_
  rintro e w7 ⟨rfl, hb7⟩
  have H7 := Xb (Below.nextF H5.out hb7 z5)
  clear hb7
  go_wp2_with fail
  go_ret
  exact ⟨rfl, Below.nextF HB4.out H7.out (by omega)⟩
 | some gs =>
  obtain ⟨rfl, hok⟩ := HOK.out gs rfl
  have hI : (some fs).isSome = true := rfl
  rw [hI]
  clear HOK hI
  go_wp2_with fail
  refine (HS4.out w4 (Below.refl _ _)).mono ?_
  rintro e w5 ⟨rfl, hb5⟩
  have H5 := Xb hb5
  have z5 := hb5.size
  clear hb5
  obtain ⟨T, hT⟩ : ∃ T, txt (Qj fs) = T := ⟨_, rfl⟩
  have HTB : Hid (T.data.toList = Qj fs) := by rw [Hid, ← hT, Yw]
  have HTL : Hid (T.size = (Qj fs).length) := by rw [Hid, ← Xh T, HTB.out]
  have HFT : Hid (T.size ≤ 1048576) := by rw [HTL.out]; exact Nat.le_trans (Xk3 hok) (by omega)
  have HR5 := Xb ((HT.out.next (Below.nextF HB4.out H5.out (by omega))).wide (by omega : w1.heap.size ≤ w5.heap.size))
  have CP := Xb (Xcv w5.heap.size _ fs w5 (HN3.out w5 (Below.nextF H34.out H5.out z4)) (Nat.le_refl _) HR5.out.jt HR5.out.tb.wd HR5.out.tb.tab)
  rw [hT] at CP
  have CT : Hid (∀ w, TabsR w.heap.size w → Calls Tryz.prog 13 #[.string T] w fun e w' => Xfz T.data.toList w e w' ∧ Zh (Kv T.data.toList)) := fun w h => (Wj (w := w) h HFT.out).mono fun e w' h => h.n
  have HTF : Hid (T.size ≤ 1000 → Kv T.data.toList = fs ∧ (Qp T.data.toList).isSome = true) := fun h => by
   have hb := Xqw hok (by have := HTL.out; omega)
   rw [← HTB.out] at hb
   exact ⟨by unfold Kv; rw [hb]; rfl, by rw [hb]; rfl⟩
  have hts := HFT.out
  unfold Xfz at CT
  obtain ⟨fs2, hfs2⟩ : ∃ fs2, Kv T.data.toList = fs2 := ⟨_, rfl⟩
  obtain ⟨b2, hb2⟩ : ∃ b, (Qp T.data.toList).isSome = b := ⟨_, rfl⟩
  rw [hfs2] at CT HTF
  rw [hb2] at CT HTF
  obtain ⟨M, hM⟩ : ∃ M, fs2.length = M := ⟨_, rfl⟩
  have HMM := Xb hM
  clear hT hfs2 hb2 hM HTB HTL
  go_wp2_with fail
  refine CP.out.mono ?_
  rintro e w6 ⟨rfl, hb6⟩
  have H6 := Xb (Below.nextF H5.out hb6 z5)
  have z6 := hb6.size
  clear hb6 HR5
  go_wp2_with fail
  refine (CT.out w6 ((HT.out.next (Below.nextF HB4.out H6.out (by omega))).wide (by omega : w1.heap.size ≤ w6.heap.size))).mono ?_
  rintro e w7 ⟨⟨hb7, v7, rfl, hr7⟩, -⟩
  obtain ⟨a7, c7, e7⟩ := hr7.slice
  rw [HMM.out] at e7
  subst e7
  have HR7 := Xb hr7
  have H7 := Xb (Below.nextF H6.out hb7 (by omega))
  have z7 := hb7.size
  clear hr7 hb7
  go_wp2_with fail
  refine (Kr w7.heap.size _ fs w7 (HN3.out w7 (Below.nextF H34.out H7.out z4)) (Nat.le_refl _)).mono ?_
  rintro e w8 ⟨rfl, hb8⟩
  have H8 := Xb (Below.nextF H7.out hb8 (by omega))
  have H78 := Xb hb8
  have z8 := hb8.size
  rw [hok]
  clear hb8
  by_cases hbt : 1000 < T.size
  ·have hbt' : (1000 : Int) < (T.size : Int) := by omega
   go_wp2_with fail
   go_ret
   exact ⟨rfl, Below.nextF HB4.out H8.out (by omega)⟩
  ·have hbt' : ¬ (1000 : Int) < (T.size : Int) := by omega
   obtain ⟨e1, rfl⟩ := HTF.out (by omega)
   subst e1
   obtain rfl : M = N := HMM.out.symm.trans HLL.out
   have HN7 : Hid (FNodesAt w8.heap.size w8 (.slice a7 M c7) fs2) := (HR7.out.below H78.out).nodes HLEN.out HALL.out
   clear HTF
   go_wp2_with fail
   refine (Xbh w8.heap.size _ _ fs2 w8 HN7.out (HN3.out w8 (Below.nextF H34.out H8.out z4)) (Nat.le_refl _)).mono ?_
   rintro e w9 ⟨rfl, hb9⟩
   have H9 := Xb (Below.nextF H8.out hb9 (by omega))
   clear hb9
   go_wp2_with fail
   go_ret
   exact ⟨rfl, Below.nextF HB4.out H9.out (by omega)⟩
end Go.Proofs.YtehihemfepbmfaaGreatDoor
