/-
  slices.Insert of one element inside a row, at parts and at keys.
-/
import Derived.Test.YtpakfgonemiebaaUCel
import Derived.Test.YtpakfgonemiebaaPhase
import Derived.Shelf.RegionOpenPlain
import Derived.Deep.RegionLaw
import Derived.Deep.Upon
import Derived.Lib.SliceRun
import Derived.Shelf.Spec.SlicesInsertGrow
namespace Go.Proofs.Ytpakfgonemiebaa
open Go.RowKit
set_option linter.unusedSimpArgs false
set_option linter.unusedVariables false

/-- What it leaves. -/
structure InsOf (n k : Nat) (X : Nat → Value) (u : Value) (g g' : Nat) (w w' : World) : Prop where
  os : w'.os = w.os
  tape : w'.tape = w.tape
  output : w'.output = w.output
  size : w.heap.size ≤ w'.heap.size
  other : ∀ c, c < w.heap.size → c ≠ g → w'.heap[c]? = w.heap[c]?
  place : g' = g ∨ w.heap.size ≤ g'
  lt : g' < w'.heap.size
  cells : ∀ j, j < n + 1 → w'.cell? ⟨g', j, none⟩ = some (if j < k then X j else if j = k then u else X (j - 1))

set_option maxHeartbeats 4000000 in
set_option maxRecDepth 1000000 in
theorem insGrowP (b n k vb : Nat) (X : Nat → Value) (u : Value) (w : World) (hc : ∀ j, j < n → w.cell? ⟨b, j, none⟩ = some (X j)) (h1 : ∀ j, j < n → (X j).oneCell' = true) (hk : k < n) (hu : w.cell? ⟨vb, 0, none⟩ = some u) (hu1 : u.oneCell' = true) (hn : n ≤ 100000) :
    Calls Try.prog 80 #[.slice (some ⟨b, 0, none⟩) n n, .int .i64 k, .slice (some ⟨vb, 0, none⟩) 1 1] w fun e w' => ∃ g' c', e = .returned (.slice (some ⟨g', 0, none⟩) (n + 1) c') ∧ InsOf n k X u b g' w w' := by
  obtain ⟨i0, hi0, hz0, hzs, hzb⟩ := info_parts infoPtr
  obtain ⟨cs, hcs0⟩ : ∃ cs, cs = (List.range n).map X := ⟨_, rfl⟩
  have hcl : cs.length = n := by rw [hcs0]; simp
  have hcs : ∀ j v, cs[j]? = some v → w.cell? ⟨b, j, none⟩ = some v := fun j v hj => by
    have hjl : j < n := by have := (List.getElem?_eq_some_iff.1 hj).1; rwa [hcl] at this
    rw [hc j hjl]
    rw [hcs0, List.getElem?_map, List.getElem?_range hjl] at hj
    exact hj
  have hbw : b < w.heap.size := block_lt_of_cell (hc 0 (by omega))
  have hvw : vb < w.heap.size := block_lt_of_cell hu
  have hsz : (Try.prog.info? 58).map (·.size) = some 1 := by rw [hi0]; simp [hzs]
  have h1c : ∀ v ∈ cs, v.oneCell' = true := fun v hv => by
    rw [hcs0] at hv
    obtain ⟨j, hj, rfl⟩ := List.mem_map.1 hv
    exact h1 j (List.mem_range.1 hj)
  have hkk : (n : Int) + 1 - (k : Int) = ((n + 1 - k : Nat) : Int) := by omega
  have hik : k + (n + 1 - k) = n + 1 := by omega
  have hold : (Builtin.firstCells i0.size k (.slice (some ⟨b, 0, none⟩) k n)).run Try.prog w.drew = .ok (cs.take k).toArray w.drew := by
    rw [hzs]
    exact run_firstCells_some w.drew 1 k ⟨b, 0, none⟩ k n (cs.take k) (by rw [List.length_take]; omega) (fun j v hj => by
      rw [Addr.add_lit, Nat.zero_add]
      rw [List.getElem?_take] at hj
      split at hj
      · exact hcs j v hj
      · cases hj)
  have hrz : ∀ ty, (Builtin.append_ #[114, 3] ty #[.slice (some ⟨b, 0, none⟩) k n, .int .i64 ((n : Int) + 1 - (k : Int))]).run Try.prog w =
      .ok (.slice (some ⟨w.heap.size, 0, none⟩) (n + 1) (grownCap w (n + 1) n 58)) (w.drew.alloc (.cells ((cs.take k).toArray ++ Builtin.zeroCells (Value.cells (.pointer none)) (n + 1 - k) ++ Builtin.zeroCells (Value.cells (.pointer none)) (grownCap w (n + 1) n 58 - (n + 1))) 58)) := fun ty => by
    have h := Lib.run_append_grow_zeros w 114 3 ty 58 i0 _ .i64 .i64 Try.underlying114 Try.underlying3 hi0 hz0 (some ⟨b, 0, none⟩) k n (cs.take k) hold (n + 1 - k) (by omega) (by omega) (by omega) (by omega) (by rw [hzb]; omega) (by rw [hzb, hik]; exact growslice_fits (by omega) (by omega))
    rw [hik] at h
    rw [hkk]
    exact h
  obtain ⟨G, hG⟩ : ∃ G, G = grownCap w (n + 1) n 58 := ⟨_, rfl⟩
  obtain ⟨ROW, hROW⟩ : ∃ ROW : Array Value, ROW = (cs.take k).toArray ++ Builtin.zeroCells (Value.cells (.pointer none)) (n + 1 - k) ++ Builtin.zeroCells (Value.cells (.pointer none)) (G - (n + 1)) := ⟨_, rfl⟩
  rw [← hG] at hrz
  rw [← hROW] at hrz
  have hRl : n + 1 ≤ ROW.size := by
    rw [hROW]
    simp [Builtin.zeroCells, Value.cells]
    omega
  have hRk : ∀ j, j < k → ROW[j]? = some (X j) := fun j hj => by
    rw [hROW, Array.append_assoc, Array.getElem?_append_left (by simp; omega), List.getElem?_toArray, List.getElem?_take, if_pos hj, hcs0, List.getElem?_map, List.getElem?_range (by omega)]
    rfl
  obtain ⟨W1, hW1⟩ : ∃ W1, W1 = w.drew.alloc (.cells ROW 58) := ⟨_, rfl⟩
  rw [← hW1] at hrz
  have hN : ∀ j, j < n + 1 → (W1.cell? ⟨w.heap.size, j, none⟩).isSome = true := fun j hj => by
    rw [hW1, World.cell?_alloc_at (w := w.drew) ROW _ w.heap.size j rfl, Array.getElem?_eq_getElem (by omega)]; rfl
  have hNk : ∀ j, j < k → W1.cell? ⟨w.heap.size, j, none⟩ = some (X j) := fun j hj => by
    rw [hW1, World.cell?_alloc_at (w := w.drew) ROW _ w.heap.size j rfl]; exact hRk j hj
  have hNf : ∀ j, W1.frozen? ⟨w.heap.size, j, none⟩ = false := fun j => by rw [hW1]; exact World.frozen?_alloc_at (w := w.drew) ROW _ w.heap.size j rfl
  have hOb : ∀ c j v, c < w.heap.size → w.cell? ⟨c, j, none⟩ = some v → W1.cell? ⟨c, j, none⟩ = some v := fun c j v hcw h => by rw [hW1, World.cell?_alloc_past (w := w.drew) _ c j hcw]; exact h
  have HCA : Hid (∀ (W : World), (∀ x, W.cell? x = W1.cell? x) → (∀ x, W.frozen? x = W1.frozen? x) → ∀ ty dc, (Builtin.copy_ #[114, 114] ty #[.slice (some ⟨w.heap.size, k, none⟩) (n + 1 - k) dc, .slice (some ⟨vb, 0, none⟩) 1 1]).run Try.prog W = .ok (goInt [u].length) (W.setCells w.heap.size k [u])) := fun W hWc hWf ty dc =>
    run_copy_cells W _ _ ty 58 w.heap.size k (n + 1 - k) dc ⟨vb, 0, none⟩ 1 1 [u] Try.underlying114 hsz (by show 1 = Nat.min 1 (n + 1 - k); simp only [Nat.min_def]; split <;> omega)
      (fun j v hj => by
        cases j with
        | zero => simp at hj; subst hj; rw [Addr.add_lit, hWc]; exact hOb _ _ _ hvw hu
        | succ j => simp at hj)
      (fun j hj => by rw [hWc]; exact hN _ (by simp at hj; omega)) (fun j hj => by rw [hWf]; exact hNf _) (fun v hv => by simp at hv; subst hv; exact hu1)
  obtain ⟨j, hj⟩ : ∃ j, k + 1 = j := ⟨_, rfl⟩
  have hdl : (cs.drop k).length = n - k := by rw [List.length_drop, hcl]
  have hbN : b ≠ w.heap.size := by omega
  have HCB : Hid (∀ (W : World), (∀ x, W.cell? x = (W1.setCells w.heap.size k [u]).cell? x) → (∀ x, W.frozen? x = (W1.setCells w.heap.size k [u]).frozen? x) → ∀ ty dc sc, (Builtin.copy_ #[114, 114] ty #[.slice (some ⟨w.heap.size, j, none⟩) (n + 1 - j) dc, .slice (some ⟨b, k, none⟩) (n - k) sc]).run Try.prog W = .ok (goInt (cs.drop k).length) (W.setCells w.heap.size j (cs.drop k))) := fun W hWc hWf ty dc sc =>
    run_copy_cells W _ _ ty 58 w.heap.size j (n + 1 - j) dc ⟨b, k, none⟩ (n - k) sc (cs.drop k) Try.underlying114 hsz (by rw [hdl]; simp only [Nat.min_def]; split <;> omega)
      (fun t v ht => by
        rw [Addr.add_lit, hWc, World.cell?_setCells_out _ _ _ _ _ (fun h _ => absurd h hbN)]
        exact hOb _ _ v hbw (hcs (k + t) v (by rwa [List.getElem?_drop] at ht)))
      (fun t ht => by rw [hWc]; exact isSome_setCells _ _ _ _ (fun q hq => hN _ (by simp at hq; omega)) _ (hN _ (by omega)))
      (fun t ht => by rw [hWf, World.frozen?_setCells]; exact hNf _) (fun v hv => h1c v (List.mem_of_mem_drop hv))
  have HFIN : Hid (InsOf n k X u b w.heap.size w ((((w.alloc (.cells ROW 58)).drew.setCells w.heap.size k [u]).drew).setCells w.heap.size j (cs.drop k))) := by
    obtain ⟨a1, a2, a3, a4⟩ := cells_rest w.heap.size (cs.drop k) j (((w.alloc (.cells ROW 58)).drew.setCells w.heap.size k [u]).drew)
    obtain ⟨b1, b2, b3, b4⟩ := cells_rest w.heap.size [u] k (w.alloc (.cells ROW 58)).drew
    have z1 : (w.alloc (.cells ROW 58)).drew.heap.size = w.heap.size + 1 := by show (w.alloc (.cells ROW 58)).heap.size = _; simp
    have z2 : (((w.alloc (.cells ROW 58)).drew.setCells w.heap.size k [u]).drew).heap.size = w.heap.size + 1 := b4.trans z1
    have cA : ∀ x, (((w.alloc (.cells ROW 58)).drew.setCells w.heap.size k [u]).drew).cell? x = (W1.setCells w.heap.size k [u]).cell? x := fun x => by rw [hW1]; rfl
    refine ⟨a1.trans b1, a2.trans b2, a3.trans b3, by rw [a4, z2]; omega, fun c hcc hne => ?_, .inr (Nat.le_refl _), by rw [a4, z2]; omega, fun i hi => ?_⟩
    · rw [World.heap_setCells_other _ _ _ _ (by rw [z2]; omega) (by omega)]
      show ((w.alloc (.cells ROW 58)).drew.setCells w.heap.size k [u]).heap[c]? = _
      rw [World.heap_setCells_other _ _ _ _ (by rw [z1]; omega) (by omega)]
      show (w.alloc (.cells ROW 58)).heap[c]? = _
      exact ((Below.refl w.heap.size w).alloc (Nat.le_refl _) _).block c hcc
    · have hS : ∀ q, q < n + 1 → ((W1.setCells w.heap.size k [u]).cell? ⟨w.heap.size, q, none⟩).isSome = true := fun q hq => isSome_setCells _ _ _ _ (fun q hq => hN _ (by simp at hq; omega)) _ (hN _ hq)
      by_cases c1 : i < j
      · rw [World.cell?_setCells_out _ _ _ _ _ (fun _ _ => Or.inl (by show i < j; exact c1)), cA]
        by_cases c2 : i < k
        · rw [if_pos c2, World.cell?_setCells_out _ _ _ _ _ (fun _ _ => Or.inl (by show i < k; exact c2))]
          exact hNk i c2
        · obtain rfl : i = k := by omega
          rw [if_neg c2, if_pos rfl]
          have := World.cell?_setCells_in w.heap.size [u] i W1 (fun q hq => hN _ (by simp at hq; omega)) 0 (by simp)
          rw [Nat.add_zero] at this
          rw [this]; rfl
      · rw [if_neg (by omega), if_neg (by omega)]
        have := World.cell?_setCells_in w.heap.size (cs.drop k) j (((w.alloc (.cells ROW 58)).drew.setCells w.heap.size k [u]).drew) (fun q hq => by rw [cA]; exact hS _ (by omega)) (i - j) (by omega)
        rw [show j + (i - j) = i by omega] at this
        rw [this]
        have h3 : (cs.drop k)[i - j]? = some (X (i - 1)) := by
          rw [List.getElem?_drop, hcs0, List.getElem?_map, List.getElem?_range (by omega), show k + (i - j) = i - 1 by omega]; rfl
        rw [List.getElem?_eq_getElem (by omega), Option.some.injEq] at h3
        rw [h3]
  subst hW1
  have hE1 : ∀ x, ((w.alloc (.cells ROW 58)).drew).cell? x = (w.drew.alloc (.cells ROW 58)).cell? x := fun x => rfl
  have hE2 : ∀ x, ((w.alloc (.cells ROW 58)).drew).frozen? x = (w.drew.alloc (.cells ROW 58)).frozen? x := fun x => rfl
  have hF1 : ∀ x, (((w.alloc (.cells ROW 58)).drew.setCells w.heap.size k [u]).drew).cell? x = ((w.drew.alloc (.cells ROW 58)).setCells w.heap.size k [u]).cell? x := fun x => rfl
  have hF2 : ∀ x, (((w.alloc (.cells ROW 58)).drew.setCells w.heap.size k [u]).drew).frozen? x = ((w.drew.alloc (.cells ROW 58)).setCells w.heap.size k [u]).frozen? x := fun x => rfl
  have hGn : n + 1 ≤ G := by rw [hG]; exact grownCap_ge w _ _ _
  have hG63 : G ≤ 9223372036854775807 := by
    have := grownCap_le_maxLen w (n + 1) n 58 (by unfold maxLen; omega)
    rw [← hG] at this
    unfold maxLen at this
    omega
  have HRZ := hideIt hrz
  have HCA2 := hideIt (HCA.out _ hE1 hE2)
  have HCB2 := hideIt (HCB.out _ hF1 hF2)
  have hGk : ¬ G = k := by omega
  have hGj : ¬ G = j := by omega
  have hnk : ¬ n = k := by omega
  have hz2 : ¬ ((k : Int) = (n : Int)) := by omega
  have hz2' : ((k : Int) == (n : Int)) = false := by simp; omega
  have hz3 : (n : Int) < (n : Int) + 1 := by omega
  have hjn : j ≤ n + 1 := by omega
  have hjG : j ≤ G := by omega
  have hkG : k ≤ G := by omega
  have hkn' : (k : Int) ≤ (n : Int) := by omega
  have hkn1 : (k : Int) ≤ (n : Int) + 1 := by omega
  have hknn : k ≤ n := by omega
  have hkn2 : k ≤ n + 1 := by omega
  clear hrz HCA HCB hkk hik hold hROW hG hRl hRk hN hNk hNf hOb hc hcs hcs0 hdl h1c h1 hE1 hE2 hF1 hF2 hu hsz
  have HJJ := hideIt hj
  have hji : (k : Int) + 1 = (j : Int) := by omega
  clear hj
  obtain ⟨S, hS⟩ : ∃ S, w.heap.size = S := ⟨_, rfl⟩
  rw [hS] at HRZ HCA2 HCB2 HFIN
  go_enter Try.func80, Try.ntmps80
  go_wp2_with (first
    | (at_builtin; refine Lib.wpList_append_run _ rfl _ _ _ _ rfl _ _ rfl rfl _ _ (HRZ.out _) ?_)
    | (at_builtin; refine wpList_copy_runI _ rfl _ _ 114 114 rfl _ _ rfl rfl (HCA2.out _ _) ?_))
  have hca : ∀ dc, _ := HCA2.out 3
  simp only [hca, Result.andThen_ok]
  clear hca
  go_wp2_with fail
  refine wp_region_any (by kernel_rfl) ?_
  change wpAny _ _ _ _ _ _ _ (World.drew _)
  refine wpAny_take (i := 0) (v := .slice (some ⟨S, 0, none⟩) (n + 1) G) rfl (by kernel_rfl) (by kernel_rfl) (by kernel_rfl) (fun _ _ _ h => h) (Or.inl ⟨by kernel_rfl, fun w => ?_⟩) ?_
  · go_simp
  refine wpAny_take (i := 1) (v := .int .i64 (k : Int)) rfl (by kernel_rfl) (by kernel_rfl) (by kernel_rfl) (fun _ _ _ h => h) (Or.inl ⟨by kernel_rfl, fun w => ?_⟩) ?_
  · go_simp
  refine wpAny_take (i := 2) (v := .int .i64 1) rfl (by kernel_rfl) (by kernel_rfl) (by kernel_rfl) (fun _ _ _ h => h) (Or.inl ⟨by kernel_rfl, fun w => ?_⟩) ?_
  · go_simp
  refine wpAny_take (i := 3) (v := .int .i64 (j : Int)) rfl (by kernel_rfl) (by kernel_rfl) (by kernel_rfl) (fun _ _ _ h => h) (Or.inl ⟨by kernel_rfl, fun w => ?_⟩) ?_
  · go_simp
    exact i64_wrap (by omega) (by omega)
  refine wpAny_take (i := 4) (v := .slice (some ⟨S, j, none⟩) (n + 1 - j) (G - j)) rfl (by kernel_rfl) (by kernel_rfl) (by kernel_rfl) (fun _ _ _ h => h) (Or.inl ⟨by kernel_rfl, fun w => ?_⟩) ?_
  · go_simp
    intro hh; omega
  refine wpAny_take (i := 5) (v := .slice (some ⟨b, 0, none⟩) n n) rfl (by kernel_rfl) (by kernel_rfl) (by kernel_rfl) (fun _ _ _ h => h) (Or.inl ⟨by kernel_rfl, fun w => ?_⟩) ?_
  · go_simp
  refine wpAny_take (i := 6) (v := .int .i64 (k : Int)) rfl (by kernel_rfl) (by kernel_rfl) (by kernel_rfl) (fun _ _ _ h => h) (Or.inl ⟨by kernel_rfl, fun w => ?_⟩) ?_
  · go_simp
  refine wpAny_take (i := 7) (v := .slice (some ⟨b, k, none⟩) (n - k) (n - k)) rfl (by kernel_rfl) (by kernel_rfl) (by kernel_rfl) (fun _ _ _ h => h) (Or.inl ⟨by kernel_rfl, fun w => ?_⟩) ?_
  · go_simp
  refine wpAny_ready (rs := [8]) (by kernel_rfl) (by simp) ?_
  refine AllReady.cons rfl (fun K hK => ?_) AllReady.nil
  refine step_copy_runI (by kernel_rfl) (.tmp 50) (.tmp 53) 114 114 (by kernel_rfl) (.slice (some ⟨S, j, none⟩) (n + 1 - j) (G - j)) (.slice (some ⟨b, k, none⟩) (n - k) (n - k)) (by kernel_rfl) (by kernel_rfl) (HCB2.out _ _ _) ?_
  refine hK _ _ ?_
  clear hK K
  refine wpAny_done (by kernel_rfl) ?_ _
  go_wp2_with fail
  go_ret
  exact ⟨S, G, rfl, HFIN.out⟩

set_option maxHeartbeats 4000000 in
set_option maxRecDepth 1000000 in
theorem insGrowS (b n k vb : Nat) (X : Nat → Value) (u : Value) (w : World) (hc : ∀ j, j < n → w.cell? ⟨b, j, none⟩ = some (X j)) (h1 : ∀ j, j < n → (X j).oneCell' = true) (hk : k < n) (hu : w.cell? ⟨vb, 0, none⟩ = some u) (hu1 : u.oneCell' = true) (hn : n ≤ 100000) :
    Calls Try.prog 81 #[.slice (some ⟨b, 0, none⟩) n n, .int .i64 k, .slice (some ⟨vb, 0, none⟩) 1 1] w fun e w' => ∃ g' c', e = .returned (.slice (some ⟨g', 0, none⟩) (n + 1) c') ∧ InsOf n k X u b g' w w' := by
  obtain ⟨i0, hi0, hz0, hzs, hzb⟩ := info_parts infoStr
  obtain ⟨cs, hcs0⟩ : ∃ cs, cs = (List.range n).map X := ⟨_, rfl⟩
  have hcl : cs.length = n := by rw [hcs0]; simp
  have hcs : ∀ j v, cs[j]? = some v → w.cell? ⟨b, j, none⟩ = some v := fun j v hj => by
    have hjl : j < n := by have := (List.getElem?_eq_some_iff.1 hj).1; rwa [hcl] at this
    rw [hc j hjl]
    rw [hcs0, List.getElem?_map, List.getElem?_range hjl] at hj
    exact hj
  have hbw : b < w.heap.size := block_lt_of_cell (hc 0 (by omega))
  have hvw : vb < w.heap.size := block_lt_of_cell hu
  have hsz : (Try.prog.info? 9).map (·.size) = some 1 := by rw [hi0]; simp [hzs]
  have h1c : ∀ v ∈ cs, v.oneCell' = true := fun v hv => by
    rw [hcs0] at hv
    obtain ⟨j, hj, rfl⟩ := List.mem_map.1 hv
    exact h1 j (List.mem_range.1 hj)
  have hkk : (n : Int) + 1 - (k : Int) = ((n + 1 - k : Nat) : Int) := by omega
  have hik : k + (n + 1 - k) = n + 1 := by omega
  have hold : (Builtin.firstCells i0.size k (.slice (some ⟨b, 0, none⟩) k n)).run Try.prog w.drew = .ok (cs.take k).toArray w.drew := by
    rw [hzs]
    exact run_firstCells_some w.drew 1 k ⟨b, 0, none⟩ k n (cs.take k) (by rw [List.length_take]; omega) (fun j v hj => by
      rw [Addr.add_lit, Nat.zero_add]
      rw [List.getElem?_take] at hj
      split at hj
      · exact hcs j v hj
      · cases hj)
  have hrz : ∀ ty, (Builtin.append_ #[75, 3] ty #[.slice (some ⟨b, 0, none⟩) k n, .int .i64 ((n : Int) + 1 - (k : Int))]).run Try.prog w =
      .ok (.slice (some ⟨w.heap.size, 0, none⟩) (n + 1) (grownCap w (n + 1) n 9)) (w.drew.alloc (.cells ((cs.take k).toArray ++ Builtin.zeroCells (Value.cells (.string ByteArray.empty)) (n + 1 - k) ++ Builtin.zeroCells (Value.cells (.string ByteArray.empty)) (grownCap w (n + 1) n 9 - (n + 1))) 9)) := fun ty => by
    have h := Lib.run_append_grow_zeros w 75 3 ty 9 i0 _ .i64 .i64 Try.underlying75 Try.underlying3 hi0 hz0 (some ⟨b, 0, none⟩) k n (cs.take k) hold (n + 1 - k) (by omega) (by omega) (by omega) (by omega) (by rw [hzb]; omega) (by rw [hzb, hik]; exact growslice_fits (by omega) (by omega))
    rw [hik] at h
    rw [hkk]
    exact h
  obtain ⟨G, hG⟩ : ∃ G, G = grownCap w (n + 1) n 9 := ⟨_, rfl⟩
  obtain ⟨ROW, hROW⟩ : ∃ ROW : Array Value, ROW = (cs.take k).toArray ++ Builtin.zeroCells (Value.cells (.string ByteArray.empty)) (n + 1 - k) ++ Builtin.zeroCells (Value.cells (.string ByteArray.empty)) (G - (n + 1)) := ⟨_, rfl⟩
  rw [← hG] at hrz
  rw [← hROW] at hrz
  have hRl : n + 1 ≤ ROW.size := by
    rw [hROW]
    simp [Builtin.zeroCells, Value.cells]
    omega
  have hRk : ∀ j, j < k → ROW[j]? = some (X j) := fun j hj => by
    rw [hROW, Array.append_assoc, Array.getElem?_append_left (by simp; omega), List.getElem?_toArray, List.getElem?_take, if_pos hj, hcs0, List.getElem?_map, List.getElem?_range (by omega)]
    rfl
  obtain ⟨W1, hW1⟩ : ∃ W1, W1 = w.drew.alloc (.cells ROW 9) := ⟨_, rfl⟩
  rw [← hW1] at hrz
  have hN : ∀ j, j < n + 1 → (W1.cell? ⟨w.heap.size, j, none⟩).isSome = true := fun j hj => by
    rw [hW1, World.cell?_alloc_at (w := w.drew) ROW _ w.heap.size j rfl, Array.getElem?_eq_getElem (by omega)]; rfl
  have hNk : ∀ j, j < k → W1.cell? ⟨w.heap.size, j, none⟩ = some (X j) := fun j hj => by
    rw [hW1, World.cell?_alloc_at (w := w.drew) ROW _ w.heap.size j rfl]; exact hRk j hj
  have hNf : ∀ j, W1.frozen? ⟨w.heap.size, j, none⟩ = false := fun j => by rw [hW1]; exact World.frozen?_alloc_at (w := w.drew) ROW _ w.heap.size j rfl
  have hOb : ∀ c j v, c < w.heap.size → w.cell? ⟨c, j, none⟩ = some v → W1.cell? ⟨c, j, none⟩ = some v := fun c j v hcw h => by rw [hW1, World.cell?_alloc_past (w := w.drew) _ c j hcw]; exact h
  have HCA : Hid (∀ (W : World), (∀ x, W.cell? x = W1.cell? x) → (∀ x, W.frozen? x = W1.frozen? x) → ∀ ty dc, (Builtin.copy_ #[75, 75] ty #[.slice (some ⟨w.heap.size, k, none⟩) (n + 1 - k) dc, .slice (some ⟨vb, 0, none⟩) 1 1]).run Try.prog W = .ok (goInt [u].length) (W.setCells w.heap.size k [u])) := fun W hWc hWf ty dc =>
    run_copy_cells W _ _ ty 9 w.heap.size k (n + 1 - k) dc ⟨vb, 0, none⟩ 1 1 [u] Try.underlying75 hsz (by show 1 = Nat.min 1 (n + 1 - k); simp only [Nat.min_def]; split <;> omega)
      (fun j v hj => by
        cases j with
        | zero => simp at hj; subst hj; rw [Addr.add_lit, hWc]; exact hOb _ _ _ hvw hu
        | succ j => simp at hj)
      (fun j hj => by rw [hWc]; exact hN _ (by simp at hj; omega)) (fun j hj => by rw [hWf]; exact hNf _) (fun v hv => by simp at hv; subst hv; exact hu1)
  obtain ⟨j, hj⟩ : ∃ j, k + 1 = j := ⟨_, rfl⟩
  have hdl : (cs.drop k).length = n - k := by rw [List.length_drop, hcl]
  have hbN : b ≠ w.heap.size := by omega
  have HCB : Hid (∀ (W : World), (∀ x, W.cell? x = (W1.setCells w.heap.size k [u]).cell? x) → (∀ x, W.frozen? x = (W1.setCells w.heap.size k [u]).frozen? x) → ∀ ty dc sc, (Builtin.copy_ #[75, 75] ty #[.slice (some ⟨w.heap.size, j, none⟩) (n + 1 - j) dc, .slice (some ⟨b, k, none⟩) (n - k) sc]).run Try.prog W = .ok (goInt (cs.drop k).length) (W.setCells w.heap.size j (cs.drop k))) := fun W hWc hWf ty dc sc =>
    run_copy_cells W _ _ ty 9 w.heap.size j (n + 1 - j) dc ⟨b, k, none⟩ (n - k) sc (cs.drop k) Try.underlying75 hsz (by rw [hdl]; simp only [Nat.min_def]; split <;> omega)
      (fun t v ht => by
        rw [Addr.add_lit, hWc, World.cell?_setCells_out _ _ _ _ _ (fun h _ => absurd h hbN)]
        exact hOb _ _ v hbw (hcs (k + t) v (by rwa [List.getElem?_drop] at ht)))
      (fun t ht => by rw [hWc]; exact isSome_setCells _ _ _ _ (fun q hq => hN _ (by simp at hq; omega)) _ (hN _ (by omega)))
      (fun t ht => by rw [hWf, World.frozen?_setCells]; exact hNf _) (fun v hv => h1c v (List.mem_of_mem_drop hv))
  have HFIN : Hid (InsOf n k X u b w.heap.size w ((((w.alloc (.cells ROW 9)).drew.setCells w.heap.size k [u]).drew).setCells w.heap.size j (cs.drop k))) := by
    obtain ⟨a1, a2, a3, a4⟩ := cells_rest w.heap.size (cs.drop k) j (((w.alloc (.cells ROW 9)).drew.setCells w.heap.size k [u]).drew)
    obtain ⟨b1, b2, b3, b4⟩ := cells_rest w.heap.size [u] k (w.alloc (.cells ROW 9)).drew
    have z1 : (w.alloc (.cells ROW 9)).drew.heap.size = w.heap.size + 1 := by show (w.alloc (.cells ROW 9)).heap.size = _; simp
    have z2 : (((w.alloc (.cells ROW 9)).drew.setCells w.heap.size k [u]).drew).heap.size = w.heap.size + 1 := b4.trans z1
    have cA : ∀ x, (((w.alloc (.cells ROW 9)).drew.setCells w.heap.size k [u]).drew).cell? x = (W1.setCells w.heap.size k [u]).cell? x := fun x => by rw [hW1]; rfl
    refine ⟨a1.trans b1, a2.trans b2, a3.trans b3, by rw [a4, z2]; omega, fun c hcc hne => ?_, .inr (Nat.le_refl _), by rw [a4, z2]; omega, fun i hi => ?_⟩
    · rw [World.heap_setCells_other _ _ _ _ (by rw [z2]; omega) (by omega)]
      show ((w.alloc (.cells ROW 9)).drew.setCells w.heap.size k [u]).heap[c]? = _
      rw [World.heap_setCells_other _ _ _ _ (by rw [z1]; omega) (by omega)]
      show (w.alloc (.cells ROW 9)).heap[c]? = _
      exact ((Below.refl w.heap.size w).alloc (Nat.le_refl _) _).block c hcc
    · have hS : ∀ q, q < n + 1 → ((W1.setCells w.heap.size k [u]).cell? ⟨w.heap.size, q, none⟩).isSome = true := fun q hq => isSome_setCells _ _ _ _ (fun q hq => hN _ (by simp at hq; omega)) _ (hN _ hq)
      by_cases c1 : i < j
      · rw [World.cell?_setCells_out _ _ _ _ _ (fun _ _ => Or.inl (by show i < j; exact c1)), cA]
        by_cases c2 : i < k
        · rw [if_pos c2, World.cell?_setCells_out _ _ _ _ _ (fun _ _ => Or.inl (by show i < k; exact c2))]
          exact hNk i c2
        · obtain rfl : i = k := by omega
          rw [if_neg c2, if_pos rfl]
          have := World.cell?_setCells_in w.heap.size [u] i W1 (fun q hq => hN _ (by simp at hq; omega)) 0 (by simp)
          rw [Nat.add_zero] at this
          rw [this]; rfl
      · rw [if_neg (by omega), if_neg (by omega)]
        have := World.cell?_setCells_in w.heap.size (cs.drop k) j (((w.alloc (.cells ROW 9)).drew.setCells w.heap.size k [u]).drew) (fun q hq => by rw [cA]; exact hS _ (by omega)) (i - j) (by omega)
        rw [show j + (i - j) = i by omega] at this
        rw [this]
        have h3 : (cs.drop k)[i - j]? = some (X (i - 1)) := by
          rw [List.getElem?_drop, hcs0, List.getElem?_map, List.getElem?_range (by omega), show k + (i - j) = i - 1 by omega]; rfl
        rw [List.getElem?_eq_getElem (by omega), Option.some.injEq] at h3
        rw [h3]
  subst hW1
  have hE1 : ∀ x, ((w.alloc (.cells ROW 9)).drew).cell? x = (w.drew.alloc (.cells ROW 9)).cell? x := fun x => rfl
  have hE2 : ∀ x, ((w.alloc (.cells ROW 9)).drew).frozen? x = (w.drew.alloc (.cells ROW 9)).frozen? x := fun x => rfl
  have hF1 : ∀ x, (((w.alloc (.cells ROW 9)).drew.setCells w.heap.size k [u]).drew).cell? x = ((w.drew.alloc (.cells ROW 9)).setCells w.heap.size k [u]).cell? x := fun x => rfl
  have hF2 : ∀ x, (((w.alloc (.cells ROW 9)).drew.setCells w.heap.size k [u]).drew).frozen? x = ((w.drew.alloc (.cells ROW 9)).setCells w.heap.size k [u]).frozen? x := fun x => rfl
  have hGn : n + 1 ≤ G := by rw [hG]; exact grownCap_ge w _ _ _
  have hG63 : G ≤ 9223372036854775807 := by
    have := grownCap_le_maxLen w (n + 1) n 9 (by unfold maxLen; omega)
    rw [← hG] at this
    unfold maxLen at this
    omega
  have HRZ := hideIt hrz
  have HCA2 := hideIt (HCA.out _ hE1 hE2)
  have HCB2 := hideIt (HCB.out _ hF1 hF2)
  have hGk : ¬ G = k := by omega
  have hGj : ¬ G = j := by omega
  have hnk : ¬ n = k := by omega
  have hz2 : ¬ ((k : Int) = (n : Int)) := by omega
  have hz2' : ((k : Int) == (n : Int)) = false := by simp; omega
  have hz3 : (n : Int) < (n : Int) + 1 := by omega
  have hjn : j ≤ n + 1 := by omega
  have hjG : j ≤ G := by omega
  have hkG : k ≤ G := by omega
  have hkn' : (k : Int) ≤ (n : Int) := by omega
  have hkn1 : (k : Int) ≤ (n : Int) + 1 := by omega
  have hknn : k ≤ n := by omega
  have hkn2 : k ≤ n + 1 := by omega
  clear hrz HCA HCB hkk hik hold hROW hG hRl hRk hN hNk hNf hOb hc hcs hcs0 hdl h1c h1 hE1 hE2 hF1 hF2 hu hsz
  have HJJ := hideIt hj
  have hji : (k : Int) + 1 = (j : Int) := by omega
  clear hj
  obtain ⟨S, hS⟩ : ∃ S, w.heap.size = S := ⟨_, rfl⟩
  rw [hS] at HRZ HCA2 HCB2 HFIN
  go_enter Try.func81, Try.ntmps81
  go_wp2_with (first
    | (at_builtin; refine Lib.wpList_append_run _ rfl _ _ _ _ rfl _ _ rfl rfl _ _ (HRZ.out _) ?_)
    | (at_builtin; refine wpList_copy_runI _ rfl _ _ 75 75 rfl _ _ rfl rfl (HCA2.out _ _) ?_))
  have hca : ∀ dc, _ := HCA2.out 3
  simp only [hca, Result.andThen_ok]
  clear hca
  go_wp2_with fail
  refine wp_region_any (by kernel_rfl) ?_
  change wpAny _ _ _ _ _ _ _ (World.drew _)
  refine wpAny_take (i := 0) (v := .slice (some ⟨S, 0, none⟩) (n + 1) G) rfl (by kernel_rfl) (by kernel_rfl) (by kernel_rfl) (fun _ _ _ h => h) (Or.inl ⟨by kernel_rfl, fun w => ?_⟩) ?_
  · go_simp
  refine wpAny_take (i := 1) (v := .int .i64 (k : Int)) rfl (by kernel_rfl) (by kernel_rfl) (by kernel_rfl) (fun _ _ _ h => h) (Or.inl ⟨by kernel_rfl, fun w => ?_⟩) ?_
  · go_simp
  refine wpAny_take (i := 2) (v := .int .i64 1) rfl (by kernel_rfl) (by kernel_rfl) (by kernel_rfl) (fun _ _ _ h => h) (Or.inl ⟨by kernel_rfl, fun w => ?_⟩) ?_
  · go_simp
  refine wpAny_take (i := 3) (v := .int .i64 (j : Int)) rfl (by kernel_rfl) (by kernel_rfl) (by kernel_rfl) (fun _ _ _ h => h) (Or.inl ⟨by kernel_rfl, fun w => ?_⟩) ?_
  · go_simp
    exact i64_wrap (by omega) (by omega)
  refine wpAny_take (i := 4) (v := .slice (some ⟨S, j, none⟩) (n + 1 - j) (G - j)) rfl (by kernel_rfl) (by kernel_rfl) (by kernel_rfl) (fun _ _ _ h => h) (Or.inl ⟨by kernel_rfl, fun w => ?_⟩) ?_
  · go_simp
    intro hh; omega
  refine wpAny_take (i := 5) (v := .slice (some ⟨b, 0, none⟩) n n) rfl (by kernel_rfl) (by kernel_rfl) (by kernel_rfl) (fun _ _ _ h => h) (Or.inl ⟨by kernel_rfl, fun w => ?_⟩) ?_
  · go_simp
  refine wpAny_take (i := 6) (v := .int .i64 (k : Int)) rfl (by kernel_rfl) (by kernel_rfl) (by kernel_rfl) (fun _ _ _ h => h) (Or.inl ⟨by kernel_rfl, fun w => ?_⟩) ?_
  · go_simp
  refine wpAny_take (i := 7) (v := .slice (some ⟨b, k, none⟩) (n - k) (n - k)) rfl (by kernel_rfl) (by kernel_rfl) (by kernel_rfl) (fun _ _ _ h => h) (Or.inl ⟨by kernel_rfl, fun w => ?_⟩) ?_
  · go_simp
  refine wpAny_ready (rs := [8]) (by kernel_rfl) (by simp) ?_
  refine AllReady.cons rfl (fun K hK => ?_) AllReady.nil
  refine step_copy_runI (by kernel_rfl) (.tmp 50) (.tmp 53) 75 75 (by kernel_rfl) (.slice (some ⟨S, j, none⟩) (n + 1 - j) (G - j)) (.slice (some ⟨b, k, none⟩) (n - k) (n - k)) (by kernel_rfl) (by kernel_rfl) (HCB2.out _ _ _) ?_
  refine hK _ _ ?_
  clear hK K
  refine wpAny_done (by kernel_rfl) ?_ _
  go_wp2_with fail
  go_ret
  exact ⟨S, G, rfl, HFIN.out⟩
end Go.Proofs.Ytpakfgonemiebaa
