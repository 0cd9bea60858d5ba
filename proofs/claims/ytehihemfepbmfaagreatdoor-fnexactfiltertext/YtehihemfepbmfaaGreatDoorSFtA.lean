/-
  The specification's l7Level, l7Sign; l7Text at kinds that call nothing of their like.
-/
import Derived.Test.YtehihemfepbmfaaGreatDoorFtP
import Derived.Test.YtehihemfepbmfaaGreatDoorSJt
import Derived.BigQuiet
namespace Go.Proofs.YtehihemfepbmfaaGreatDoor
open Go.RowKit Go.WideShapes
set_option linter.unusedSimpArgs false
set_option linter.unusedVariables false

theorem kinds23 {k : Int} (h1 : 1 ≤ k) (h2 : k ≤ 23) : k = 1 ∨ k = 2 ∨ k = 3 ∨ k = 4 ∨ k = 5 ∨ k = 6 ∨ k = 7 ∨ k = 8 ∨ k = 9 ∨ k = 10 ∨ k = 11 ∨ k = 12 ∨ k = 13 ∨ k = 14 ∨ k = 15 ∨ k = 16 ∨ k = 17 ∨ k = 18 ∨ k = 19 ∨ k = 20 ∨ k = 21 ∨ k = 22 ∨ k = 23 := by omega
set_option maxRecDepth 100000 in
set_option maxHeartbeats 3200000 in
theorem l7Level_any (k : Int) (w : World) (h1 : 1 ≤ k) (h2 : k ≤ 23) : Calls Tryz.prog 61 #[.int .i64 k] w fun e w' => e = .returned (.int .i64 (levF k)) ∧ w' = w := by
  rcases kinds23 h1 h2 with rfl | rfl | rfl | rfl | rfl | rfl | rfl | rfl | rfl | rfl | rfl | rfl | rfl | rfl | rfl | rfl | rfl | rfl | rfl | rfl | rfl | rfl | rfl
  all_goals (
    go_enter Tryz.func61, Tryz.ntmps61
    go_wp2_with fail
    go_ret
    exact ⟨rfl, rfl⟩)
set_option maxRecDepth 100000 in
set_option maxHeartbeats 3200000 in
theorem l7Sign_any (k : Int) (w : World) (h : k = 6 ∨ k = 7 ∨ k = 21 ∨ k = 17 ∨ k = 18 ∨ k = 19 ∨ k = 20 ∨ k = 15 ∨ k = 16) : Calls Tryz.prog 64 #[.int .i64 k] w fun e w' => e = .returned (.string (txt (sgnF k))) ∧ w' = w := by
  rcases h with rfl | rfl | rfl | rfl | rfl | rfl | rfl | rfl | rfl
  all_goals (
    go_enter Tryz.func64, Tryz.ntmps64
    go_wp2_with fail
    go_ret
    exact ⟨rfl, rfl⟩)

def SfAll (B : Nat) (fs : List FN) (f : Nat) : Prop := ∀ (v : Value) (n : Nat) (least : Int) (w : World), FNodesAt B w v fs → B ≤ w.heap.size → n < f → n < fs.length → 1 ≤ least → least ≤ 6 →
  Calls Tryz.prog 25 #[v, .int .i64 n, .int .i64 least] w fun e w' => e = .returned (.string (txt (fTxt fs f n least))) ∧ Below w.heap.size w w'
/-- A node that is about to be written. -/
structure SfN (B : Nat) (w : World) (bv o N n : Nat) (x : FN) (kc kn ki : Value) : Prop where
  at6 : FNodeAt B w bv (o + n * 6) x kc kn ki
  bv : bv < B
  hB : B ≤ w.heap.size
  hn : n < N
  hN : N ≤ 40
def SfOne (B : Nat) (x : FN) (S : List UInt8) (f : Nat) (fs : List FN) : Prop := ∀ (w : World) (bv o N cap n : Nat) (kc kn ki : Value) (least : Int), FNodesAt B w (.slice (some ⟨bv, o, none⟩) N cap) fs → SfN B w bv o N n x kc kn ki → fnodeB x = true → (∀ j, j < x.kids.length → ∃ q : Nat, intAt x.kids j = q ∧ q < f ∧ q < fs.length ∧ ∀ l, (fTxt fs f q l).length ≤ 24600) → S.length ≤ 24600 → 1 ≤ least → least ≤ 6 →
  Calls Tryz.prog 25 #[.slice (some ⟨bv, o, none⟩) N cap, .int .i64 n, .int .i64 least] w fun e w' => e = .returned (.string (txt (if levF x.kind < least then [40] ++ S ++ [41] else S))) ∧ Below w.heap.size w w'
theorem txt_of {s : ByteArray} {l : List UInt8} (h : s.data.toList = l) : s = txt l := by rw [← h, txt_bytes]

set_option maxRecDepth 100000 in
set_option maxHeartbeats 6400000 in
theorem sf_k1 (B : Nat) (x : FN) (f : Nat) (fs : List FN) (hkd : x.kind = 1) : SfOne B x (bodyF (fTxt fs f) x) f fs := by
  intro w bv o N cap n kc kn ki least hfs hx hok hkids hS hl1 hl6
  obtain ⟨⟨c0, c1, c2, c3, c4, c5, hinn⟩, hbv, hB, hn, hN⟩ := hx
  have hLV := l7Level_any x.kind
  obtain ⟨f8, f9, fo, f2, f3, f5, fz, fzn⟩ := fit_kids hok
  have hnN : (n : Int) < (N : Int) := by omega
  obtain ⟨_, aC, cC, rfl, hcc⟩ := hinn.cst
  obtain ⟨_, hks, aK, cK, rfl, hkc⟩ := hinn.names
  obtain ⟨_, _, aI, cI, rfl, hic⟩ := hinn.kids
  obtain ⟨M, hM⟩ : ∃ M, x.kids.length = M := ⟨_, rfl⟩
  obtain ⟨MK, hMK⟩ : ∃ MK, x.names.length = MK := ⟨_, rfl⟩
  obtain ⟨MC, hMC⟩ : ∃ MC, x.cst.length = MC := ⟨_, rfl⟩
  have HMM := hideIt hM
  have HMK := hideIt hMK
  have HMC := hideIt hMC
  rw [hM] at c5 hic f8 f9 fo
  rw [hMK] at c4 hkc f9 fzn
  rw [hMC] at c3 hcc
  rw [hM] at hkids
  have HCC := hideIt hcc
  have HKC := hideIt hkc
  have HIC := hideIt hic
  clear hcc hkc hic hM hMK hMC hinn
  have HLV : Hid (∀ W, Calls Tryz.prog 61 #[.int .i64 1] W fun e w' => e = .returned (.int .i64 7) ∧ w' = W) := fun W => l7Level_any 1 W (by omega) (by omega)
  rw [hkd] at c0 ⊢
  rw [show levF 1 = 7 from rfl]
  have HB6 : Hid (bodyF (fTxt fs f) x = bodyF (fTxt fs f) x) := rfl
  clear f8 f9 fo f2 f3 f5 fz fzn hfs hkids hLV HB6
  have HSB : Hid (bodyF (fTxt fs f) x = [46]) := by rw [Hid, bodyF, hkd]; simp
  obtain ⟨S, hSS⟩ : ∃ S, bodyF (fTxt fs f) x = S := ⟨_, rfl⟩
  rw [hSS] at hS HSB ⊢
  have hll : ¬ (7 : Int) < least := by omega
  rw [if_neg hll]
  clear hSS
  go_enter Tryz.func25, Tryz.ntmps25
  go_wp2_with (go_at_call 61; refine (HLV.out _).mono ?_; rintro e w1 ⟨rfl, rfl⟩)
  go_wp2_with fail
  go_ret
  exact ⟨by rw [HSB.out]; rfl, (Below.refl _ _).alloc (Nat.le_refl _) _⟩

set_option maxRecDepth 100000 in
set_option maxHeartbeats 6400000 in
theorem sf_k4 (B : Nat) (x : FN) (f : Nat) (fs : List FN) (hkd : x.kind = 4) : SfOne B x (bodyF (fTxt fs f) x) f fs := by
  intro w bv o N cap n kc kn ki least hfs hx hok hkids hS hl1 hl6
  obtain ⟨⟨c0, c1, c2, c3, c4, c5, hinn⟩, hbv, hB, hn, hN⟩ := hx
  have hLV := l7Level_any x.kind
  obtain ⟨f8, f9, fo, f2, f3, f5, fz, fzn⟩ := fit_kids hok
  have hnN : (n : Int) < (N : Int) := by omega
  obtain ⟨_, aC, cC, rfl, hcc⟩ := hinn.cst
  obtain ⟨_, hks, aK, cK, rfl, hkc⟩ := hinn.names
  obtain ⟨_, _, aI, cI, rfl, hic⟩ := hinn.kids
  obtain ⟨M, hM⟩ : ∃ M, x.kids.length = M := ⟨_, rfl⟩
  obtain ⟨MK, hMK⟩ : ∃ MK, x.names.length = MK := ⟨_, rfl⟩
  obtain ⟨MC, hMC⟩ : ∃ MC, x.cst.length = MC := ⟨_, rfl⟩
  have HMM := hideIt hM
  have HMK := hideIt hMK
  have HMC := hideIt hMC
  rw [hM] at c5 hic f8 f9 fo
  rw [hMK] at c4 hkc f9 fzn
  rw [hMC] at c3 hcc
  rw [hM] at hkids
  have HCC := hideIt hcc
  have HKC := hideIt hkc
  have HIC := hideIt hic
  clear hcc hkc hic hM hMK hMC hinn
  have HLV : Hid (∀ W, Calls Tryz.prog 61 #[.int .i64 4] W fun e w' => e = .returned (.int .i64 7) ∧ w' = W) := fun W => l7Level_any 4 W (by omega) (by omega)
  rw [hkd] at c0 ⊢
  rw [show levF 4 = 7 from rfl]
  have HB6 : Hid (bodyF (fTxt fs f) x = bodyF (fTxt fs f) x) := rfl
  clear f8 f9 fo f2 f3 f5 fz fzn hfs hkids hLV HB6
  have HSB : Hid (bodyF (fTxt fs f) x = [46, 91, 93]) := by rw [Hid, bodyF, hkd]; simp
  obtain ⟨S, hSS⟩ : ∃ S, bodyF (fTxt fs f) x = S := ⟨_, rfl⟩
  rw [hSS] at hS HSB ⊢
  have hll : ¬ (7 : Int) < least := by omega
  rw [if_neg hll]
  clear hSS
  go_enter Tryz.func25, Tryz.ntmps25
  go_wp2_with (go_at_call 61; refine (HLV.out _).mono ?_; rintro e w1 ⟨rfl, rfl⟩)
  go_wp2_with fail
  go_ret
  exact ⟨by rw [HSB.out]; rfl, (Below.refl _ _).alloc (Nat.le_refl _) _⟩

set_option maxRecDepth 100000 in
set_option maxHeartbeats 6400000 in
theorem sf_k11 (B : Nat) (x : FN) (f : Nat) (fs : List FN) (hkd : x.kind = 11) : SfOne B x (bodyF (fTxt fs f) x) f fs := by
  intro w bv o N cap n kc kn ki least hfs hx hok hkids hS hl1 hl6
  obtain ⟨⟨c0, c1, c2, c3, c4, c5, hinn⟩, hbv, hB, hn, hN⟩ := hx
  have hLV := l7Level_any x.kind
  obtain ⟨f8, f9, fo, f2, f3, f5, fz, fzn⟩ := fit_kids hok
  have hnN : (n : Int) < (N : Int) := by omega
  obtain ⟨_, aC, cC, rfl, hcc⟩ := hinn.cst
  obtain ⟨_, hks, aK, cK, rfl, hkc⟩ := hinn.names
  obtain ⟨_, _, aI, cI, rfl, hic⟩ := hinn.kids
  obtain ⟨M, hM⟩ : ∃ M, x.kids.length = M := ⟨_, rfl⟩
  obtain ⟨MK, hMK⟩ : ∃ MK, x.names.length = MK := ⟨_, rfl⟩
  obtain ⟨MC, hMC⟩ : ∃ MC, x.cst.length = MC := ⟨_, rfl⟩
  have HMM := hideIt hM
  have HMK := hideIt hMK
  have HMC := hideIt hMC
  rw [hM] at c5 hic f8 f9 fo
  rw [hMK] at c4 hkc f9 fzn
  rw [hMC] at c3 hcc
  rw [hM] at hkids
  have HCC := hideIt hcc
  have HKC := hideIt hkc
  have HIC := hideIt hic
  clear hcc hkc hic hM hMK hMC hinn
  have HLV : Hid (∀ W, Calls Tryz.prog 61 #[.int .i64 11] W fun e w' => e = .returned (.int .i64 7) ∧ w' = W) := fun W => l7Level_any 11 W (by omega) (by omega)
  rw [hkd] at c0 ⊢
  rw [show levF 11 = 7 from rfl]
  have HB6 : Hid (bodyF (fTxt fs f) x = bodyF (fTxt fs f) x) := rfl
  clear f8 f9 fo f2 f3 f5 fz fzn hfs hkids hLV HB6
  have HSB : Hid (bodyF (fTxt fs f) x = [108, 101, 110, 103, 116, 104]) := by rw [Hid, bodyF, hkd]; simp
  obtain ⟨S, hSS⟩ : ∃ S, bodyF (fTxt fs f) x = S := ⟨_, rfl⟩
  rw [hSS] at hS HSB ⊢
  have hll : ¬ (7 : Int) < least := by omega
  rw [if_neg hll]
  clear hSS
  go_enter Tryz.func25, Tryz.ntmps25
  go_wp2_with (go_at_call 61; refine (HLV.out _).mono ?_; rintro e w1 ⟨rfl, rfl⟩)
  go_wp2_with fail
  go_ret
  exact ⟨by rw [HSB.out]; rfl, (Below.refl _ _).alloc (Nat.le_refl _) _⟩

set_option maxRecDepth 100000 in
set_option maxHeartbeats 6400000 in
theorem sf_k12 (B : Nat) (x : FN) (f : Nat) (fs : List FN) (hkd : x.kind = 12) : SfOne B x (bodyF (fTxt fs f) x) f fs := by
  intro w bv o N cap n kc kn ki least hfs hx hok hkids hS hl1 hl6
  obtain ⟨⟨c0, c1, c2, c3, c4, c5, hinn⟩, hbv, hB, hn, hN⟩ := hx
  have hLV := l7Level_any x.kind
  obtain ⟨f8, f9, fo, f2, f3, f5, fz, fzn⟩ := fit_kids hok
  have hnN : (n : Int) < (N : Int) := by omega
  obtain ⟨_, aC, cC, rfl, hcc⟩ := hinn.cst
  obtain ⟨_, hks, aK, cK, rfl, hkc⟩ := hinn.names
  obtain ⟨_, _, aI, cI, rfl, hic⟩ := hinn.kids
  obtain ⟨M, hM⟩ : ∃ M, x.kids.length = M := ⟨_, rfl⟩
  obtain ⟨MK, hMK⟩ : ∃ MK, x.names.length = MK := ⟨_, rfl⟩
  obtain ⟨MC, hMC⟩ : ∃ MC, x.cst.length = MC := ⟨_, rfl⟩
  have HMM := hideIt hM
  have HMK := hideIt hMK
  have HMC := hideIt hMC
  rw [hM] at c5 hic f8 f9 fo
  rw [hMK] at c4 hkc f9 fzn
  rw [hMC] at c3 hcc
  rw [hM] at hkids
  have HCC := hideIt hcc
  have HKC := hideIt hkc
  have HIC := hideIt hic
  clear hcc hkc hic hM hMK hMC hinn
  have HLV : Hid (∀ W, Calls Tryz.prog 61 #[.int .i64 12] W fun e w' => e = .returned (.int .i64 7) ∧ w' = W) := fun W => l7Level_any 12 W (by omega) (by omega)
  rw [hkd] at c0 ⊢
  rw [show levF 12 = 7 from rfl]
  have HB6 : Hid (bodyF (fTxt fs f) x = bodyF (fTxt fs f) x) := rfl
  clear f8 f9 fo f2 f3 f5 fz fzn hfs hkids hLV HB6
  have HSB : Hid (bodyF (fTxt fs f) x = [107, 101, 121, 115]) := by rw [Hid, bodyF, hkd]; simp
  obtain ⟨S, hSS⟩ : ∃ S, bodyF (fTxt fs f) x = S := ⟨_, rfl⟩
  rw [hSS] at hS HSB ⊢
  have hll : ¬ (7 : Int) < least := by omega
  rw [if_neg hll]
  clear hSS
  go_enter Tryz.func25, Tryz.ntmps25
  go_wp2_with (go_at_call 61; refine (HLV.out _).mono ?_; rintro e w1 ⟨rfl, rfl⟩)
  go_wp2_with fail
  go_ret
  exact ⟨by rw [HSB.out]; rfl, (Below.refl _ _).alloc (Nat.le_refl _) _⟩

set_option maxRecDepth 100000 in
set_option maxHeartbeats 6400000 in
theorem sf_k13 (B : Nat) (x : FN) (f : Nat) (fs : List FN) (hkd : x.kind = 13) : SfOne B x (bodyF (fTxt fs f) x) f fs := by
  intro w bv o N cap n kc kn ki least hfs hx hok hkids hS hl1 hl6
  obtain ⟨⟨c0, c1, c2, c3, c4, c5, hinn⟩, hbv, hB, hn, hN⟩ := hx
  have hLV := l7Level_any x.kind
  obtain ⟨f8, f9, fo, f2, f3, f5, fz, fzn⟩ := fit_kids hok
  have hnN : (n : Int) < (N : Int) := by omega
  obtain ⟨_, aC, cC, rfl, hcc⟩ := hinn.cst
  obtain ⟨_, hks, aK, cK, rfl, hkc⟩ := hinn.names
  obtain ⟨_, _, aI, cI, rfl, hic⟩ := hinn.kids
  obtain ⟨M, hM⟩ : ∃ M, x.kids.length = M := ⟨_, rfl⟩
  obtain ⟨MK, hMK⟩ : ∃ MK, x.names.length = MK := ⟨_, rfl⟩
  obtain ⟨MC, hMC⟩ : ∃ MC, x.cst.length = MC := ⟨_, rfl⟩
  have HMM := hideIt hM
  have HMK := hideIt hMK
  have HMC := hideIt hMC
  rw [hM] at c5 hic f8 f9 fo
  rw [hMK] at c4 hkc f9 fzn
  rw [hMC] at c3 hcc
  rw [hM] at hkids
  have HCC := hideIt hcc
  have HKC := hideIt hkc
  have HIC := hideIt hic
  clear hcc hkc hic hM hMK hMC hinn
  have HLV : Hid (∀ W, Calls Tryz.prog 61 #[.int .i64 13] W fun e w' => e = .returned (.int .i64 7) ∧ w' = W) := fun W => l7Level_any 13 W (by omega) (by omega)
  rw [hkd] at c0 ⊢
  rw [show levF 13 = 7 from rfl]
  have HB6 : Hid (bodyF (fTxt fs f) x = bodyF (fTxt fs f) x) := rfl
  clear f8 f9 fo f2 f3 f5 fz fzn hfs hkids hLV HB6
  have HSB : Hid (bodyF (fTxt fs f) x = [110, 111, 116]) := by rw [Hid, bodyF, hkd]; simp
  obtain ⟨S, hSS⟩ : ∃ S, bodyF (fTxt fs f) x = S := ⟨_, rfl⟩
  rw [hSS] at hS HSB ⊢
  have hll : ¬ (7 : Int) < least := by omega
  rw [if_neg hll]
  clear hSS
  go_enter Tryz.func25, Tryz.ntmps25
  go_wp2_with (go_at_call 61; refine (HLV.out _).mono ?_; rintro e w1 ⟨rfl, rfl⟩)
  go_wp2_with fail
  go_ret
  exact ⟨by rw [HSB.out]; rfl, (Below.refl _ _).alloc (Nat.le_refl _) _⟩

set_option maxRecDepth 100000 in
set_option maxHeartbeats 6400000 in
theorem sf_k14 (B : Nat) (x : FN) (f : Nat) (fs : List FN) (hkd : x.kind = 14) : SfOne B x (bodyF (fTxt fs f) x) f fs := by
  intro w bv o N cap n kc kn ki least hfs hx hok hkids hS hl1 hl6
  obtain ⟨⟨c0, c1, c2, c3, c4, c5, hinn⟩, hbv, hB, hn, hN⟩ := hx
  have hLV := l7Level_any x.kind
  obtain ⟨f8, f9, fo, f2, f3, f5, fz, fzn⟩ := fit_kids hok
  have hnN : (n : Int) < (N : Int) := by omega
  obtain ⟨_, aC, cC, rfl, hcc⟩ := hinn.cst
  obtain ⟨_, hks, aK, cK, rfl, hkc⟩ := hinn.names
  obtain ⟨_, _, aI, cI, rfl, hic⟩ := hinn.kids
  obtain ⟨M, hM⟩ : ∃ M, x.kids.length = M := ⟨_, rfl⟩
  obtain ⟨MK, hMK⟩ : ∃ MK, x.names.length = MK := ⟨_, rfl⟩
  obtain ⟨MC, hMC⟩ : ∃ MC, x.cst.length = MC := ⟨_, rfl⟩
  have HMM := hideIt hM
  have HMK := hideIt hMK
  have HMC := hideIt hMC
  rw [hM] at c5 hic f8 f9 fo
  rw [hMK] at c4 hkc f9 fzn
  rw [hMC] at c3 hcc
  rw [hM] at hkids
  have HCC := hideIt hcc
  have HKC := hideIt hkc
  have HIC := hideIt hic
  clear hcc hkc hic hM hMK hMC hinn
  have HLV : Hid (∀ W, Calls Tryz.prog 61 #[.int .i64 14] W fun e w' => e = .returned (.int .i64 7) ∧ w' = W) := fun W => l7Level_any 14 W (by omega) (by omega)
  rw [hkd] at c0 ⊢
  rw [show levF 14 = 7 from rfl]
  have HB6 : Hid (bodyF (fTxt fs f) x = bodyF (fTxt fs f) x) := rfl
  clear f8 f9 fo f2 f3 f5 fz fzn hfs hkids hLV HB6
  have HSB : Hid (bodyF (fTxt fs f) x = [101, 109, 112, 116, 121]) := by rw [Hid, bodyF, hkd]; simp
  obtain ⟨S, hSS⟩ : ∃ S, bodyF (fTxt fs f) x = S := ⟨_, rfl⟩
  rw [hSS] at hS HSB ⊢
  have hll : ¬ (7 : Int) < least := by omega
  rw [if_neg hll]
  clear hSS
  go_enter Tryz.func25, Tryz.ntmps25
  go_wp2_with (go_at_call 61; refine (HLV.out _).mono ?_; rintro e w1 ⟨rfl, rfl⟩)
  go_wp2_with fail
  go_ret
  exact ⟨by rw [HSB.out]; rfl, (Below.refl _ _).alloc (Nat.le_refl _) _⟩
end Go.Proofs.YtehihemfepbmfaaGreatDoor
