/-
  slices.Insert of one element inside a row that has room, at parts and at keys.
-/
import Derived.Test.YtpakfgonemiebaaUIn2
import Derived.Lib.Overlaps
import Derived.Laws.Externs
namespace Go.Proofs.Ytpakfgonemiebaa
open Go.RowKit
set_option linter.unusedSimpArgs false
set_option linter.unusedVariables false

set_option maxHeartbeats 4000000 in
set_option maxRecDepth 1000000 in
theorem insRoomP (b n c k vb : Nat) (X : Nat → Value) (u : Value) (w : World) (hc : ∀ j, j < n → w.cell? ⟨b, j, none⟩ = some (X j)) (h1 : ∀ j, j < n → (X j).oneCell' = true) (hk : k < n) (hu : w.cell? ⟨vb, 0, none⟩ = some u) (hu1 : u.oneCell' = true) (hroom : n + 1 ≤ c) (hc63 : c ≤ 9223372036854775807) (hvb : vb ≠ b) (hn : n ≤ 100000)
    (hsp : ∀ j, j < n + 1 → (w.cell? ⟨b, j, none⟩).isSome = true) (hfz : ∀ j, j < n + 1 → w.frozen? ⟨b, j, none⟩ = false)
    (tA tB : TypeId) (kA kB : Nat) (hsa : w.shape? vb = some (tA, kA)) (hsb : w.shape? b = some (tB, kB)) (hkB : kB ≠ 0) (hfa : w.frozen? ⟨vb, 0, none⟩ = false) (hfe : w.frozen? ⟨vb, kA, none⟩ = false) :
    Calls Try.prog 80 #[.slice (some ⟨b, 0, none⟩) n c, .int .i64 k, .slice (some ⟨vb, 0, none⟩) 1 1] w fun e w' => ∃ g' c', e = .returned (.slice (some ⟨g', 0, none⟩) (n + 1) c') ∧ InsOf n k X u b g' w w' := by
  obtain ⟨i0, hi0, hz0, hzs, hzb⟩ := info_parts infoPtr
  obtain ⟨cs, hcs0⟩ : ∃ cs, cs = (List.range n).map X := ⟨_, rfl⟩
  have hcl : cs.length = n := by rw [hcs0]; simp
  have hcs : ∀ j v, cs[j]? = some v → w.cell? ⟨b, j, none⟩ = some v := fun j v hj => by
    have hjl : j < n := by have := (List.getElem?_eq_some_iff.1 hj).1; rwa [hcl] at this
    rw [hc j hjl]
    rw [hcs0, List.getElem?_map, List.getElem?_range hjl] at hj
    exact hj
  have hbw : b < w.heap.size := block_lt_of_cell (hc 0 (by omega))
  have hsz : (Try.prog.info? 58).map (·.size) = some 1 := by rw [hi0]; simp [hzs]
  have h1c : ∀ v ∈ cs, v.oneCell' = true := fun v hv => by
    rw [hcs0] at hv
    obtain ⟨j, hj, rfl⟩ := List.mem_map.1 hv
    exact h1 j (List.mem_range.1 hj)
  obtain ⟨j, hj⟩ : ∃ j, k + 1 = j := ⟨_, rfl⟩
  have HOV : Hid (∀ lb cb, (callFunc 108 #[.slice (some ⟨vb, 0, none⟩) 1 1, .slice (some ⟨b, j, none⟩) lb cb]).run Try.prog w = .ok (.value (.bool false)) w) := fun lb cb => by
    rw [run_callFunc_extern Try.func108 (by kernel_rfl) (by kernel_rfl) (by kernel_rfl) (e := Extern.SlicesOverlaps.overlaps #[114, 114] #[4]) (by kernel_rfl),
      Lib.run_overlaps_apart w 114 4 58 Try.underlying114 1 (fun w => by kernel_rfl) ⟨vb, 0, none⟩ ⟨b, j, none⟩ 1 1 lb cb hvb tA tB kA kB hsa hsb hkB hfa hfe]
    rfl
  have hdl : (cs.drop k).length = n - k := by rw [List.length_drop, hcl]
  have HC1 : Hid (∀ ty dc sc, (Builtin.copy_ #[114, 114] ty #[.slice (some ⟨b, j, none⟩) (n + 1 - j) dc, .slice (some ⟨b, k, none⟩) (n + 1 - k) sc]).run Try.prog w.drew = .ok (goInt (cs.drop k).length) (w.drew.setCells b j (cs.drop k))) := fun ty dc sc =>
    run_copy_cells w.drew _ _ ty 58 b j (n + 1 - j) dc ⟨b, k, none⟩ (n + 1 - k) sc (cs.drop k) Try.underlying114 hsz (by rw [hdl]; simp only [Nat.min_def]; split <;> omega)
      (fun t v ht => by rw [Addr.add_lit]; exact hcs (k + t) v (by rwa [List.getElem?_drop] at ht))
      (fun t ht => hsp _ (by omega)) (fun t ht => hfz _ (by omega)) (fun v hv => h1c v (List.mem_of_mem_drop hv))
  obtain ⟨W1, hW1⟩ : ∃ W1, W1 = w.drew.setCells b j (cs.drop k) := ⟨_, rfl⟩
  have hsp1 : ∀ q, q < n + 1 → (W1.cell? ⟨b, q, none⟩).isSome = true := fun q hq => by
    rw [hW1]
    exact isSome_setCells b (cs.drop k) j w.drew (fun t ht => hsp _ (by omega)) _ (hsp q hq)
  have HC2 : Hid (∀ ty dc, (Builtin.copy_ #[114, 114] ty #[.slice (some ⟨b, k, none⟩) (n + 1 - k) dc, .slice (some ⟨vb, 0, none⟩) 1 1]).run Try.prog W1 = .ok (goInt [u].length) (W1.setCells b k [u])) := fun ty dc =>
    run_copy_cells W1 _ _ ty 58 b k (n + 1 - k) dc ⟨vb, 0, none⟩ 1 1 [u] Try.underlying114 hsz (by show 1 = Nat.min 1 (n + 1 - k); simp only [Nat.min_def]; split <;> omega)
      (fun t v ht => by
        cases t with
        | zero => simp at ht; subst ht; rw [Addr.add_lit, hW1, World.cell?_setCells_out b _ _ _ _ (fun h _ => absurd h hvb)]; exact hu
        | succ t => simp at ht)
      (fun t ht => hsp1 _ (by simp at ht; omega)) (fun t ht => by rw [hW1, World.frozen?_setCells]; exact hfz _ (by simp at ht; omega)) (fun v hv => by simp at hv; subst hv; exact hu1)
  have HFIN : Hid (InsOf n k X u b b w (W1.setCells b k [u])) := by
    obtain ⟨a1, a2, a3, a4⟩ := cells_rest b [u] k W1
    obtain ⟨b1, b2, b3, b4⟩ := cells_rest b (cs.drop k) j w.drew
    rw [← hW1] at b1 b2 b3 b4
    have z : W1.heap.size = w.heap.size := b4
    refine ⟨a1.trans b1, a2.trans b2, a3.trans b3, by rw [a4, z]; omega, fun x hx hne => ?_, .inl rfl, by rw [a4, z]; exact hbw, fun i hi => ?_⟩
    · rw [World.heap_setCells_other _ _ _ _ (by rw [z]; exact hx) hne, hW1, World.heap_setCells_other w.drew _ _ _ hx hne]
      rfl
    · by_cases c2 : i = k
      · subst c2
        rw [if_neg (by omega), if_pos rfl]
        have := World.cell?_setCells_in b [u] i W1 (fun q hq => hsp1 _ (by simp at hq; omega)) 0 (by simp)
        rw [Nat.add_zero] at this
        rw [this]; rfl
      · rw [World.cell?_setCells_out b _ _ _ _ (fun _ _ => by show i < k ∨ k + 1 ≤ i; omega), hW1]
        by_cases c1 : i < k
        · rw [if_pos c1, World.cell?_setCells_out b _ _ _ _ (fun _ _ => Or.inl (by show i < j; omega))]
          exact hc i (by omega)
        · rw [if_neg c1, if_neg c2]
          have := World.cell?_setCells_in b (cs.drop k) j w.drew (fun q hq => hsp _ (by omega)) (i - j) (by omega)
          rw [show j + (i - j) = i by omega] at this
          rw [this]
          have h3 : (cs.drop k)[i - j]? = some (X (i - 1)) := by
            rw [List.getElem?_drop, hcs0, List.getElem?_map, List.getElem?_range (by omega), show k + (i - j) = i - 1 by omega]; rfl
          rw [List.getElem?_eq_getElem (by omega), Option.some.injEq] at h3
          rw [h3]
  rw [← hW1] at HC1
  have hz2 : ¬ ((k : Int) = (n : Int)) := by omega
  have hz2' : ((k : Int) == (n : Int)) = false := by simp; omega
  have hck : ¬ c = k := by omega
  have hcj : ¬ c = j := by omega
  have hz3 : ¬ (c : Int) < (n : Int) + 1 := by omega
  have hjn : j ≤ n + 1 := by omega
  have hjc : j ≤ c := by omega
  have hkc : k ≤ c := by omega
  have hn1c : n + 1 ≤ c := hroom
  have hkn' : (k : Int) ≤ (n : Int) := by omega
  have hkn1 : (k : Int) ≤ (n : Int) + 1 := by omega
  have hknn : k ≤ n := by omega
  have hkn2 : k ≤ n + 1 := by omega
  clear hc hcs hcs0 hdl h1c h1 hu hsz hsp hfz hsa hsb hfa hfe hsp1 hW1
  have HJJ := hideIt hj
  have hji : (k : Int) + 1 = (j : Int) := by omega
  clear hj
  have hov := HOV.out
  go_enter Try.func80, Try.ntmps80
  go_wp2_with (simp only [hov])
  clear hov
  refine wp_region_any (by kernel_rfl) ?_
  change wpAny _ _ _ _ _ _ _ (World.drew _)
  refine wpAny_take (i := 0) (v := .slice (some ⟨b, 0, none⟩) (n + 1) c) rfl (by kernel_rfl) (by kernel_rfl) (by kernel_rfl) (fun _ _ _ h => h) (Or.inl ⟨by kernel_rfl, fun w => ?_⟩) ?_
  · go_simp
  refine wpAny_take (i := 1) (v := .int .i64 (k : Int)) rfl (by kernel_rfl) (by kernel_rfl) (by kernel_rfl) (fun _ _ _ h => h) (Or.inl ⟨by kernel_rfl, fun w => ?_⟩) ?_
  · go_simp
  refine wpAny_take (i := 2) (v := .int .i64 1) rfl (by kernel_rfl) (by kernel_rfl) (by kernel_rfl) (fun _ _ _ h => h) (Or.inl ⟨by kernel_rfl, fun w => ?_⟩) ?_
  · go_simp
  refine wpAny_take (i := 3) (v := .int .i64 (j : Int)) rfl (by kernel_rfl) (by kernel_rfl) (by kernel_rfl) (fun _ _ _ h => h) (Or.inl ⟨by kernel_rfl, fun w => ?_⟩) ?_
  · go_simp
    exact i64_wrap (by omega) (by omega)
  refine wpAny_take (i := 4) (v := .slice (some ⟨b, j, none⟩) (n + 1 - j) (c - j)) rfl (by kernel_rfl) (by kernel_rfl) (by kernel_rfl) (fun _ _ _ h => h) (Or.inl ⟨by kernel_rfl, fun w => ?_⟩) ?_
  · go_simp
    intro hh; omega
  refine wpAny_take (i := 5) (v := .slice (some ⟨b, 0, none⟩) (n + 1) c) rfl (by kernel_rfl) (by kernel_rfl) (by kernel_rfl) (fun _ _ _ h => h) (Or.inl ⟨by kernel_rfl, fun w => ?_⟩) ?_
  · go_simp
  refine wpAny_take (i := 6) (v := .int .i64 (k : Int)) rfl (by kernel_rfl) (by kernel_rfl) (by kernel_rfl) (fun _ _ _ h => h) (Or.inl ⟨by kernel_rfl, fun w => ?_⟩) ?_
  · go_simp
  refine wpAny_take (i := 7) (v := .slice (some ⟨b, k, none⟩) (n + 1 - k) (c - k)) rfl (by kernel_rfl) (by kernel_rfl) (by kernel_rfl) (fun _ _ _ h => h) (Or.inl ⟨by kernel_rfl, fun w => ?_⟩) ?_
  · go_simp
  refine wpAny_ready (rs := [8]) (by kernel_rfl) (by simp) ?_
  refine AllReady.cons rfl (fun K hK => ?_) AllReady.nil
  refine step_copy_runI (by kernel_rfl) (.tmp 73) (.tmp 76) 114 114 (by kernel_rfl) (.slice (some ⟨b, j, none⟩) (n + 1 - j) (c - j)) (.slice (some ⟨b, k, none⟩) (n + 1 - k) (c - k)) (by kernel_rfl) (by kernel_rfl) (HC1.out _ _ _) ?_
  refine hK _ _ ?_
  clear hK K
  refine wpAny_done (by kernel_rfl) ?_ _
  go_wp2_with (at_builtin; refine wpList_copy_runI _ rfl _ _ 114 114 rfl _ _ rfl rfl (HC2.out _ _) ?_)
  have hc2 : ∀ dc, _ := HC2.out 3
  (try simp only [hc2, Result.andThen_ok])
  clear hc2
  go_wp2_with fail
  go_ret
  exact ⟨b, c, rfl, HFIN.out⟩

set_option maxHeartbeats 4000000 in
set_option maxRecDepth 1000000 in
theorem insRoomS (b n c k vb : Nat) (X : Nat → Value) (u : Value) (w : World) (hc : ∀ j, j < n → w.cell? ⟨b, j, none⟩ = some (X j)) (h1 : ∀ j, j < n → (X j).oneCell' = true) (hk : k < n) (hu : w.cell? ⟨vb, 0, none⟩ = some u) (hu1 : u.oneCell' = true) (hroom : n + 1 ≤ c) (hc63 : c ≤ 9223372036854775807) (hvb : vb ≠ b) (hn : n ≤ 100000)
    (hsp : ∀ j, j < n + 1 → (w.cell? ⟨b, j, none⟩).isSome = true) (hfz : ∀ j, j < n + 1 → w.frozen? ⟨b, j, none⟩ = false)
    (tA tB : TypeId) (kA kB : Nat) (hsa : w.shape? vb = some (tA, kA)) (hsb : w.shape? b = some (tB, kB)) (hkB : kB ≠ 0) (hfa : w.frozen? ⟨vb, 0, none⟩ = false) (hfe : w.frozen? ⟨vb, kA, none⟩ = false) :
    Calls Try.prog 81 #[.slice (some ⟨b, 0, none⟩) n c, .int .i64 k, .slice (some ⟨vb, 0, none⟩) 1 1] w fun e w' => ∃ g' c', e = .returned (.slice (some ⟨g', 0, none⟩) (n + 1) c') ∧ InsOf n k X u b g' w w' := by
  obtain ⟨i0, hi0, hz0, hzs, hzb⟩ := info_parts infoStr
  obtain ⟨cs, hcs0⟩ : ∃ cs, cs = (List.range n).map X := ⟨_, rfl⟩
  have hcl : cs.length = n := by rw [hcs0]; simp
  have hcs : ∀ j v, cs[j]? = some v → w.cell? ⟨b, j, none⟩ = some v := fun j v hj => by
    have hjl : j < n := by have := (List.getElem?_eq_some_iff.1 hj).1; rwa [hcl] at this
    rw [hc j hjl]
    rw [hcs0, List.getElem?_map, List.getElem?_range hjl] at hj
    exact hj
  have hbw : b < w.heap.size := block_lt_of_cell (hc 0 (by omega))
  have hsz : (Try.prog.info? 9).map (·.size) = some 1 := by rw [hi0]; simp [hzs]
  have h1c : ∀ v ∈ cs, v.oneCell' = true := fun v hv => by
    rw [hcs0] at hv
    obtain ⟨j, hj, rfl⟩ := List.mem_map.1 hv
    exact h1 j (List.mem_range.1 hj)
  obtain ⟨j, hj⟩ : ∃ j, k + 1 = j := ⟨_, rfl⟩
  have HOV : Hid (∀ lb cb, (callFunc 110 #[.slice (some ⟨vb, 0, none⟩) 1 1, .slice (some ⟨b, j, none⟩) lb cb]).run Try.prog w = .ok (.value (.bool false)) w) := fun lb cb => by
    rw [run_callFunc_extern Try.func110 (by kernel_rfl) (by kernel_rfl) (by kernel_rfl) (e := Extern.SlicesOverlaps.overlaps #[75, 75] #[4]) (by kernel_rfl),
      Lib.run_overlaps_apart w 75 4 9 Try.underlying75 1 (fun w => by kernel_rfl) ⟨vb, 0, none⟩ ⟨b, j, none⟩ 1 1 lb cb hvb tA tB kA kB hsa hsb hkB hfa hfe]
    rfl
  have hdl : (cs.drop k).length = n - k := by rw [List.length_drop, hcl]
  have HC1 : Hid (∀ ty dc sc, (Builtin.copy_ #[75, 75] ty #[.slice (some ⟨b, j, none⟩) (n + 1 - j) dc, .slice (some ⟨b, k, none⟩) (n + 1 - k) sc]).run Try.prog w.drew = .ok (goInt (cs.drop k).length) (w.drew.setCells b j (cs.drop k))) := fun ty dc sc =>
    run_copy_cells w.drew _ _ ty 9 b j (n + 1 - j) dc ⟨b, k, none⟩ (n + 1 - k) sc (cs.drop k) Try.underlying75 hsz (by rw [hdl]; simp only [Nat.min_def]; split <;> omega)
      (fun t v ht => by rw [Addr.add_lit]; exact hcs (k + t) v (by rwa [List.getElem?_drop] at ht))
      (fun t ht => hsp _ (by omega)) (fun t ht => hfz _ (by omega)) (fun v hv => h1c v (List.mem_of_mem_drop hv))
  obtain ⟨W1, hW1⟩ : ∃ W1, W1 = w.drew.setCells b j (cs.drop k) := ⟨_, rfl⟩
  have hsp1 : ∀ q, q < n + 1 → (W1.cell? ⟨b, q, none⟩).isSome = true := fun q hq => by
    rw [hW1]
    exact isSome_setCells b (cs.drop k) j w.drew (fun t ht => hsp _ (by omega)) _ (hsp q hq)
  have HC2 : Hid (∀ ty dc, (Builtin.copy_ #[75, 75] ty #[.slice (some ⟨b, k, none⟩) (n + 1 - k) dc, .slice (some ⟨vb, 0, none⟩) 1 1]).run Try.prog W1 = .ok (goInt [u].length) (W1.setCells b k [u])) := fun ty dc =>
    run_copy_cells W1 _ _ ty 9 b k (n + 1 - k) dc ⟨vb, 0, none⟩ 1 1 [u] Try.underlying75 hsz (by show 1 = Nat.min 1 (n + 1 - k); simp only [Nat.min_def]; split <;> omega)
      (fun t v ht => by
        cases t with
        | zero => simp at ht; subst ht; rw [Addr.add_lit, hW1, World.cell?_setCells_out b _ _ _ _ (fun h _ => absurd h hvb)]; exact hu
        | succ t => simp at ht)
      (fun t ht => hsp1 _ (by simp at ht; omega)) (fun t ht => by rw [hW1, World.frozen?_setCells]; exact hfz _ (by simp at ht; omega)) (fun v hv => by simp at hv; subst hv; exact hu1)
  have HFIN : Hid (InsOf n k X u b b w (W1.setCells b k [u])) := by
    obtain ⟨a1, a2, a3, a4⟩ := cells_rest b [u] k W1
    obtain ⟨b1, b2, b3, b4⟩ := cells_rest b (cs.drop k) j w.drew
    rw [← hW1] at b1 b2 b3 b4
    have z : W1.heap.size = w.heap.size := b4
    refine ⟨a1.trans b1, a2.trans b2, a3.trans b3, by rw [a4, z]; omega, fun x hx hne => ?_, .inl rfl, by rw [a4, z]; exact hbw, fun i hi => ?_⟩
    · rw [World.heap_setCells_other _ _ _ _ (by rw [z]; exact hx) hne, hW1, World.heap_setCells_other w.drew _ _ _ hx hne]
      rfl
    · by_cases c2 : i = k
      · subst c2
        rw [if_neg (by omega), if_pos rfl]
        have := World.cell?_setCells_in b [u] i W1 (fun q hq => hsp1 _ (by simp at hq; omega)) 0 (by simp)
        rw [Nat.add_zero] at this
        rw [this]; rfl
      · rw [World.cell?_setCells_out b _ _ _ _ (fun _ _ => by show i < k ∨ k + 1 ≤ i; omega), hW1]
        by_cases c1 : i < k
        · rw [if_pos c1, World.cell?_setCells_out b _ _ _ _ (fun _ _ => Or.inl (by show i < j; omega))]
          exact hc i (by omega)
        · rw [if_neg c1, if_neg c2]
          have := World.cell?_setCells_in b (cs.drop k) j w.drew (fun q hq => hsp _ (by omega)) (i - j) (by omega)
          rw [show j + (i - j) = i by omega] at this
          rw [this]
          have h3 : (cs.drop k)[i - j]? = some (X (i - 1)) := by
            rw [List.getElem?_drop, hcs0, List.getElem?_map, List.getElem?_range (by omega), show k + (i - j) = i - 1 by omega]; rfl
          rw [List.getElem?_eq_getElem (by omega), Option.some.injEq] at h3
          rw [h3]
  rw [← hW1] at HC1
  have hz2 : ¬ ((k : Int) = (n : Int)) := by omega
  have hz2' : ((k : Int) == (n : Int)) = false := by simp; omega
  have hck : ¬ c = k := by omega
  have hcj : ¬ c = j := by omega
  have hz3 : ¬ (c : Int) < (n : Int) + 1 := by omega
  have hjn : j ≤ n + 1 := by omega
  have hjc : j ≤ c := by omega
  have hkc : k ≤ c := by omega
  have hn1c : n + 1 ≤ c := hroom
  have hkn' : (k : Int) ≤ (n : Int) := by omega
  have hkn1 : (k : Int) ≤ (n : Int) + 1 := by omega
  have hknn : k ≤ n := by omega
  have hkn2 : k ≤ n + 1 := by omega
  clear hc hcs hcs0 hdl h1c h1 hu hsz hsp hfz hsa hsb hfa hfe hsp1 hW1
  have HJJ := hideIt hj
  have hji : (k : Int) + 1 = (j : Int) := by omega
  clear hj
  have hov := HOV.out
  go_enter Try.func81, Try.ntmps81
  go_wp2_with (simp only [hov])
  clear hov
  refine wp_region_any (by kernel_rfl) ?_
  change wpAny _ _ _ _ _ _ _ (World.drew _)
  refine wpAny_take (i := 0) (v := .slice (some ⟨b, 0, none⟩) (n + 1) c) rfl (by kernel_rfl) (by kernel_rfl) (by kernel_rfl) (fun _ _ _ h => h) (Or.inl ⟨by kernel_rfl, fun w => ?_⟩) ?_
  · go_simp
  refine wpAny_take (i := 1) (v := .int .i64 (k : Int)) rfl (by kernel_rfl) (by kernel_rfl) (by kernel_rfl) (fun _ _ _ h => h) (Or.inl ⟨by kernel_rfl, fun w => ?_⟩) ?_
  · go_simp
  refine wpAny_take (i := 2) (v := .int .i64 1) rfl (by kernel_rfl) (by kernel_rfl) (by kernel_rfl) (fun _ _ _ h => h) (Or.inl ⟨by kernel_rfl, fun w => ?_⟩) ?_
  · go_simp
  refine wpAny_take (i := 3) (v := .int .i64 (j : Int)) rfl (by kernel_rfl) (by kernel_rfl) (by kernel_rfl) (fun _ _ _ h => h) (Or.inl ⟨by kernel_rfl, fun w => ?_⟩) ?_
  · go_simp
    exact i64_wrap (by omega) (by omega)
  refine wpAny_take (i := 4) (v := .slice (some ⟨b, j, none⟩) (n + 1 - j) (c - j)) rfl (by kernel_rfl) (by kernel_rfl) (by kernel_rfl) (fun _ _ _ h => h) (Or.inl ⟨by kernel_rfl, fun w => ?_⟩) ?_
  · go_simp
    intro hh; omega
  refine wpAny_take (i := 5) (v := .slice (some ⟨b, 0, none⟩) (n + 1) c) rfl (by kernel_rfl) (by kernel_rfl) (by kernel_rfl) (fun _ _ _ h => h) (Or.inl ⟨by kernel_rfl, fun w => ?_⟩) ?_
  · go_simp
  refine wpAny_take (i := 6) (v := .int .i64 (k : Int)) rfl (by kernel_rfl) (by kernel_rfl) (by kernel_rfl) (fun _ _ _ h => h) (Or.inl ⟨by kernel_rfl, fun w => ?_⟩) ?_
  · go_simp
  refine wpAny_take (i := 7) (v := .slice (some ⟨b, k, none⟩) (n + 1 - k) (c - k)) rfl (by kernel_rfl) (by kernel_rfl) (by kernel_rfl) (fun _ _ _ h => h) (Or.inl ⟨by kernel_rfl, fun w => ?_⟩) ?_
  · go_simp
  refine wpAny_ready (rs := [8]) (by kernel_rfl) (by simp) ?_
  refine AllReady.cons rfl (fun K hK => ?_) AllReady.nil
  refine step_copy_runI (by kernel_rfl) (.tmp 73) (.tmp 76) 75 75 (by kernel_rfl) (.slice (some ⟨b, j, none⟩) (n + 1 - j) (c - j)) (.slice (some ⟨b, k, none⟩) (n + 1 - k) (c - k)) (by kernel_rfl) (by kernel_rfl) (HC1.out _ _ _) ?_
  refine hK _ _ ?_
  clear hK K
  refine wpAny_done (by kernel_rfl) ?_ _
  go_wp2_with (at_builtin; refine wpList_copy_runI _ rfl _ _ 75 75 rfl _ _ rfl rfl (HC2.out _ _) ?_)
  have hc2 : ∀ dc, _ := HC2.out 3
  (try simp only [hc2, Result.andThen_ok])
  clear hc2
  go_wp2_with fail
  go_ret
  exact ⟨b, c, rfl, HFIN.out⟩
end Go.Proofs.Ytpakfgonemiebaa

/-
  slices.Insert of one element at any place of an own row: the three roads in one.
-/
namespace Go.Proofs.Ytpakfgonemiebaa
open Go.RowKit
set_option linter.unusedSimpArgs false
set_option linter.unusedVariables false

/-- What Insert leaves; ob: the row's own block. -/
structure InsR (ob : Option Nat) (n k : Nat) (X : Nat → Value) (u : Value) (g' : Nat) (w w' : World) : Prop where
  os : w'.os = w.os
  tape : w'.tape = w.tape
  output : w'.output = w.output
  size : w.heap.size ≤ w'.heap.size
  other : ∀ c, c < w.heap.size → some c ≠ ob → w'.heap[c]? = w.heap[c]?
  place : some g' = ob ∨ w.heap.size ≤ g'
  lt : g' < w'.heap.size
  cells : ∀ j, j < n + 1 → w'.cell? ⟨g', j, none⟩ = some (if j < k then X j else if j = k then u else X (j - 1))

theorem insP_any (base : Nat) (a : Option Addr) (n cap vb k : Nat) (tA : TypeId) (X : Nat → Value) (u : Value) (w : World) (h : w.ownsRow base 58 1 (.slice a n cap) n ((List.range n).map X)) (h1 : ∀ j, j < n → (X j).oneCell' = true) (hb : base ≤ w.heap.size) (hl : w.heap[vb]? = some (.cells #[u] tA (0, 0))) (hu1 : u.oneCell' = true) (hvb : (Value.slice a n cap).ownBlock ≠ some vb) (hk : k ≤ n) (hn : n ≤ 100000) :
    Calls Try.prog 80 #[.slice a n cap, .int .i64 k, .slice (some ⟨vb, 0, none⟩) 1 1] w fun e w' => ∃ g' c', e = .returned (.slice (some ⟨g', 0, none⟩) (n + 1) c') ∧ InsR (Value.slice a n cap).ownBlock n k X u g' w w' := by
  have hu : w.cell? ⟨vb, 0, none⟩ = some u := by simp [World.cell?, hl]
  by_cases hkn : k = n
  · subst hkn
    refine (insEndP base a k cap vb _ u w h hb hu hu1 hn).mono ?_
    rintro e w' ⟨r, rfl, hown, hgr, hor⟩
    obtain ⟨g', c', er, hg1, hg2⟩ := hown.form (by omega)
    subst er
    refine ⟨g', c', rfl, hgr.os, hgr.tape, hgr.output, hgr.size, hgr.block, ?_, hg2, fun j hj => ?_⟩
    · rcases hor with e | e
      · exact .inl e
      · have : g' = w.heap.size := by simpa [Value.ownBlock] using e
        exact .inr (by omega)
    · rw [hown.cellAt j (by omega)]
      by_cases e : j < k
      · rw [List.getElem?_append_left (by simpa using e), if_pos e]; simp [e]
      · obtain rfl : j = k := by omega
        rw [List.getElem?_append_right (by simp)]; simp
  · rcases h.2 with ⟨e1, e2⟩ | ⟨g, cap', cur, e1, hbg, hg, h5, h6, h7, h8⟩
    · omega
    · cases e1
      have hc : ∀ j, j < n → w.cell? ⟨g, j, none⟩ = some (X j) := fun j hj => by rw [h.cellAt j (by omega)]; simp [hj]
      have h7' : cur.size = cap := by simpa using h7
      by_cases hcap : cap = n
      · subst hcap
        refine (insGrowP g cap k vb X u w hc h1 (by omega) hu hu1 hn).mono ?_
        rintro e w' ⟨g', c', rfl, hi⟩
        exact ⟨g', c', rfl, ⟨hi.os, hi.tape, hi.output, hi.size, fun c hc hne => hi.other c hc (fun e => hne (by rw [e]; rfl)), hi.place.imp (fun e => by rw [e]; rfl) id, hi.lt, hi.cells⟩⟩
      · refine (insRoomP g n cap k vb X u w hc h1 (by omega) hu hu1 (by omega) (by unfold maxLen at h6; omega) (fun e => hvb (by rw [e]; rfl)) hn (fun j hj => ?_) (fun j hj => by simp [World.frozen?, hg]) tA 58 1 cur.size (by simp [World.shape?, hl]) (by simp [World.shape?, hg]) (by omega) (by simp [World.frozen?, hl]) (by simp [World.frozen?, hl])).mono ?_
        · have : j < cur.size := by omega
          simp [World.cell?, hg, this]
        · rintro e w' ⟨g', c', rfl, hi⟩
          exact ⟨g', c', rfl, ⟨hi.os, hi.tape, hi.output, hi.size, fun c hc hne => hi.other c hc (fun e => hne (by rw [e]; rfl)), hi.place.imp (fun e => by rw [e]; rfl) id, hi.lt, hi.cells⟩⟩

theorem insS_any (base : Nat) (a : Option Addr) (n cap vb k : Nat) (tA : TypeId) (X : Nat → Value) (u : Value) (w : World) (h : w.ownsRow base 9 1 (.slice a n cap) n ((List.range n).map X)) (h1 : ∀ j, j < n → (X j).oneCell' = true) (hb : base ≤ w.heap.size) (hl : w.heap[vb]? = some (.cells #[u] tA (0, 0))) (hu1 : u.oneCell' = true) (hvb : (Value.slice a n cap).ownBlock ≠ some vb) (hk : k ≤ n) (hn : n ≤ 100000) :
    Calls Try.prog 81 #[.slice a n cap, .int .i64 k, .slice (some ⟨vb, 0, none⟩) 1 1] w fun e w' => ∃ g' c', e = .returned (.slice (some ⟨g', 0, none⟩) (n + 1) c') ∧ InsR (Value.slice a n cap).ownBlock n k X u g' w w' := by
  have hu : w.cell? ⟨vb, 0, none⟩ = some u := by simp [World.cell?, hl]
  by_cases hkn : k = n
  · subst hkn
    refine (insEndS base a k cap vb _ u w h hb hu hu1 hn).mono ?_
    rintro e w' ⟨r, rfl, hown, hgr, hor⟩
    obtain ⟨g', c', er, hg1, hg2⟩ := hown.form (by omega)
    subst er
    refine ⟨g', c', rfl, hgr.os, hgr.tape, hgr.output, hgr.size, hgr.block, ?_, hg2, fun j hj => ?_⟩
    · rcases hor with e | e
      · exact .inl e
      · have : g' = w.heap.size := by simpa [Value.ownBlock] using e
        exact .inr (by omega)
    · rw [hown.cellAt j (by omega)]
      by_cases e : j < k
      · rw [List.getElem?_append_left (by simpa using e), if_pos e]; simp [e]
      · obtain rfl : j = k := by omega
        rw [List.getElem?_append_right (by simp)]; simp
  · rcases h.2 with ⟨e1, e2⟩ | ⟨g, cap', cur, e1, hbg, hg, h5, h6, h7, h8⟩
    · omega
    · cases e1
      have hc : ∀ j, j < n → w.cell? ⟨g, j, none⟩ = some (X j) := fun j hj => by rw [h.cellAt j (by omega)]; simp [hj]
      have h7' : cur.size = cap := by simpa using h7
      by_cases hcap : cap = n
      · subst hcap
        refine (insGrowS g cap k vb X u w hc h1 (by omega) hu hu1 hn).mono ?_
        rintro e w' ⟨g', c', rfl, hi⟩
        exact ⟨g', c', rfl, ⟨hi.os, hi.tape, hi.output, hi.size, fun c hc hne => hi.other c hc (fun e => hne (by rw [e]; rfl)), hi.place.imp (fun e => by rw [e]; rfl) id, hi.lt, hi.cells⟩⟩
      · refine (insRoomS g n cap k vb X u w hc h1 (by omega) hu hu1 (by omega) (by unfold maxLen at h6; omega) (fun e => hvb (by rw [e]; rfl)) hn (fun j hj => ?_) (fun j hj => by simp [World.frozen?, hg]) tA 9 1 cur.size (by simp [World.shape?, hl]) (by simp [World.shape?, hg]) (by omega) (by simp [World.frozen?, hl]) (by simp [World.frozen?, hl])).mono ?_
        · have : j < cur.size := by omega
          simp [World.cell?, hg, this]
        · rintro e w' ⟨g', c', rfl, hi⟩
          exact ⟨g', c', rfl, ⟨hi.os, hi.tape, hi.output, hi.size, fun c hc hne => hi.other c hc (fun e => hne (by rw [e]; rfl)), hi.place.imp (fun e => by rw [e]; rfl) id, hi.lt, hi.cells⟩⟩
end Go.Proofs.Ytpakfgonemiebaa
