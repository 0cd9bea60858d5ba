/-
  slices.Delete of one element, at parts and at keys.
-/
import Derived.Test.YtpakfgonemiebaaUFol
import Derived.Test.YtpakfgonemiebaaTOf
import Derived.Shelf.RegionOpenPlain
import Derived.Deep.RegionLaw
import Derived.Deep.Upon
import Derived.Lib.SliceRun
namespace Go.Proofs.Ytpakfgonemiebaa
open Go.RowKit
set_option linter.unusedSimpArgs false
set_option linter.unusedVariables false

def delNews (X : Nat → Value) (n k : Nat) : List Value := (List.range (n - (k + 1))).map fun t => X (k + 1 + t)
/-- What it leaves. -/
structure DelOf (g n k : Nat) (X : Nat → Value) (w w' : World) : Prop where
  os : w'.os = w.os
  tape : w'.tape = w.tape
  output : w'.output = w.output
  size : w'.heap.size = w.heap.size
  other : ∀ c, c < w.heap.size → c ≠ g → w'.heap[c]? = w.heap[c]?
  cells : ∀ j, j < n - 1 → w'.cell? ⟨g, j, none⟩ = some (X (if j < k then j else j + 1))
theorem cells_some (b : Nat) : ∀ (vs : List Value) (o : Nat) (w : World) (x : Addr), (w.cell? x).isSome = true → ((w.setCells b o vs).cell? x).isSome = true
  | [], _, _, _, h => h
  | v :: r, o, w, x, h => by
    rw [World.setCells]
    refine cells_some b r (o + 1) _ x ?_
    by_cases e : x = ⟨b, o, none⟩
    · subst e
      obtain ⟨u, hu⟩ := Option.isSome_iff_exists.1 h
      rw [World.cell?_setCell_same _ _ _ hu]; rfl
    · rw [World.cell?_setCell_other _ _ _ _ (fun h => e h.symm)]; exact h
theorem cells_rest (b : Nat) : ∀ (vs : List Value) (o : Nat) (w : World), (w.setCells b o vs).os = w.os ∧ (w.setCells b o vs).tape = w.tape ∧ (w.setCells b o vs).output = w.output ∧ (w.setCells b o vs).heap.size = w.heap.size
  | [], _, _ => ⟨rfl, rfl, rfl, rfl⟩
  | v :: r, o, w => by
    rw [World.setCells]
    obtain ⟨h1, h2, h3, h4⟩ := cells_rest b r (o + 1) (w.setCell ⟨b, o, none⟩ v)
    exact ⟨h1, h2, h3, h4.trans (by simp)⟩
theorem del_of {g n k j : Nat} {X : Nat → Value} {w : World} {news : List Value} (hg : g < w.heap.size) (hk : k < n) (hj : j = k + 1) (hlen : news.length = n - j) (hget : ∀ t, t < n - j → news[t]? = some (X (j + t))) (hs : ∀ j, j < n → (w.cell? ⟨g, j, none⟩).isSome = true) (hc : ∀ j, j < n → w.cell? ⟨g, j, none⟩ = some (X j)) (z : List Value) (q : Nat) (hq : q = n - 1) :
    DelOf g n k X w ((w.drew.setCells g (0 + k * 1) news).setCells g q z) := by
  obtain ⟨a1, a2, a3, a4⟩ := cells_rest g z q (w.drew.setCells g (0 + k * 1) news)
  obtain ⟨b1, b2, b3, b4⟩ := cells_rest g news (0 + k * 1) w.drew
  have hz : w.drew.heap.size = w.heap.size := rfl
  refine ⟨a1.trans b1, a2.trans b2, a3.trans b3, a4.trans b4, fun c hcc hne => ?_, fun i hi => ?_⟩
  · rw [World.heap_setCells_other _ _ _ _ (by rw [b4]; exact hcc) hne, World.heap_setCells_other w.drew _ _ _ hcc hne]
    rfl
  · rw [World.cell?_setCells_out g _ _ _ _ (fun _ _ => Or.inl (by show i < q; omega))]
    by_cases e : i < k
    · rw [if_pos e, World.cell?_setCells_out g _ _ _ _ (fun _ _ => Or.inl (by show i < 0 + k * 1; omega))]
      exact hc i (by omega)
    · rw [if_neg e]
      have h1 := World.cell?_setCells_in g news (0 + k * 1) w.drew (fun t ht => by
        rw [hlen] at ht
        show (w.cell? _).isSome = true
        exact hs _ (by omega)) (i - k) (by rw [hlen]; omega)
      rw [show 0 + k * 1 + (i - k) = i by omega] at h1
      rw [h1]
      have h2 := hget (i - k) (by omega)
      rw [List.getElem?_eq_getElem (by rw [hlen]; omega), Option.some.injEq] at h2
      rw [h2, show j + (i - k) = i + 1 by omega]

set_option maxHeartbeats 4000000 in
set_option maxRecDepth 1000000 in
theorem delP_any (g n cap k j : Nat) (X : Nat → Value) (w : World) (h1 : ∀ j, j < n → (X j).oneCell' = true) (hc : ∀ j, j < n → w.cell? ⟨g, j, none⟩ = some (X j) ∧ w.frozen? ⟨g, j, none⟩ = false) (hg : g < w.heap.size) (hk : k < n) (hj : j = k + 1) (hcap : n ≤ cap) (hm : cap ≤ 9223372036854775807) :
    Calls Try.prog 95 #[.slice (some ⟨g, 0, none⟩) n cap, .int .i64 k, .int .i64 j] w fun e w' => e = .returned (.slice (some ⟨g, 0, none⟩) (n - 1) cap) ∧ DelOf g n k X w w' := by
  obtain ⟨news, hnews⟩ : ∃ news, news = delNews X n k := ⟨_, rfl⟩
  have hlen : news.length = n - j := by rw [hnews, hj]; simp [delNews]
  have hget : ∀ t, t < n - j → news[t]? = some (X (j + t)) := fun t ht => by rw [hnews, hj]; unfold delNews; rw [List.getElem?_map, List.getElem?_range (by omega)]; rfl
  obtain ⟨i0, hi0, hz0, hz1, hz2⟩ := info_parts infoPtr
  obtain ⟨A, hA, hsrc⟩ : ∃ A : Addr, (if cap = j then some (⟨g, 0, none⟩ : Addr) else some ⟨g, 0 + j, none⟩) = some A ∧ Hid (∀ t u, news[t]? = some u → w.drew.cell? (A.add t) = some u) := by
    by_cases h : cap = j
    · refine ⟨⟨g, 0, none⟩, by simp [h], fun t u hu => ?_⟩
      have h0 : news.length = 0 := by rw [hlen]; omega
      rw [List.length_eq_zero_iff.1 h0] at hu
      simp at hu
    · refine ⟨⟨g, 0 + j, none⟩, by simp [h], fun t u hu => ?_⟩
      have ht : t < n - j := by
        have := (List.getElem?_eq_some_iff.1 hu).1
        rwa [hlen] at this
      rw [hget t ht] at hu
      rw [Addr.add_lit, Nat.zero_add]
      exact (hc (j + t) (by omega)).1.trans hu
  have s1 : Hid (news.length = (n - j) * 1) := by rw [Nat.mul_one]; exact hlen
  have s2 : Hid (∀ u ∈ news, u.oneCell' = true) := by
    intro u hu
    rw [hnews] at hu
    unfold delNews at hu
    obtain ⟨x, hx, rfl⟩ := List.mem_map.1 hu
    exact h1 _ (by have := List.mem_range.1 hx; omega)
  have s3 : Hid (∀ t, t < news.length → (w.drew.cell? ⟨g, 0 + k * 1 + t, none⟩).isSome = true ∧ w.drew.frozen? ⟨g, 0 + k * 1 + t, none⟩ = false) := by
    intro t ht
    rw [hlen] at ht
    rw [Nat.mul_one, Nat.zero_add]
    exact ⟨by show (w.cell? _).isSome = true; rw [(hc (k + t) (by omega)).1]; rfl, (hc (k + t) (by omega)).2⟩
  obtain ⟨W1, hW1⟩ : ∃ W1, W1 = w.drew.setCells g (0 + k * 1) news := ⟨_, rfl⟩
  have hH1 : ∀ j, j < n → (W1.cell? ⟨g, j, none⟩).isSome = true ∧ W1.frozen? ⟨g, j, none⟩ = false := fun j hj => by
    rw [hW1]
    refine ⟨cells_some g _ _ _ _ ?_, ?_⟩
    · show (w.cell? _).isSome = true
      rw [(hc j hj).1]; rfl
    · rw [World.frozen?_setCells]
      exact (hc j hj).2
  have hcl : ∀ ty, (Builtin.clear_ #[114] ty #[.slice (some ⟨g, k + (n - j), none⟩) (n - (k + (n - j))) (cap - (k + (n - j)))]).run Try.prog W1 = .ok (.tuple #[]) (W1.setCells g (k + (n - j)) (List.replicate (n - (k + (n - j))) (.pointer none))) :=
    fun ty => Lib.run_clear_slice W1 _ _ ty _ Try.underlying114 (fun w => by kernel_rfl) rfl rfl g _ _ _ (by omega) (fun t ht => (hH1 _ (by omega)).1) (fun t ht => (hH1 _ (by omega)).2)
  have HFIN : Hid (DelOf g n k X w (W1.setCells g (k + (n - j)) (List.replicate (n - (k + (n - j))) (.pointer none)))) := by
    rw [Hid, hW1]
    exact del_of hg hk hj hlen hget (fun j hj => by rw [(hc j hj).1]; rfl) (fun j hj => (hc j hj).1) _ _ (by omega)
  have hW : Hid (W1 = w.drew.setCells g (0 + k * 1) news) := hW1
  have hA2 : (if cap = j then some (⟨g, 0, none⟩ : Addr) else some ⟨g, j, none⟩) = some A := by rw [Nat.zero_add] at hA; exact hA
  clear hA
  have HN : Hid (k + (n - j) = n - 1) := by rw [Hid]; omega
  have hic : k ≤ cap := by omega
  have hjc : j ≤ cap := by omega
  have hkj : k ≤ j := by omega
  have hjn : j ≤ n := by omega
  have hne : ((k : Int) == (j : Int)) = false := by simp; omega
  have hne2 : ¬ (k : Int) = (j : Int) := by omega
  have hkl : k + (n - j) ≤ n := by omega
  have hkl2 : k + (n - j) ≤ cap := by omega
  clear hW1 hH1 hc hget hnews hlen hj h1
  go_enter Try.func95, Try.ntmps95
  go_wp2_with fail
  refine wp_region_any (by kernel_rfl) ?_
  change wpAny _ _ _ _ _ _ _ (World.drew _)
  refine wpAny_take (i := 0) (v := .slice (some ⟨g, 0, none⟩) n cap) rfl (by kernel_rfl) (by kernel_rfl) (by kernel_rfl) (fun _ _ _ h => h) (Or.inl ⟨by kernel_rfl, fun w => ?_⟩) ?_
  · go_simp
  refine wpAny_take (i := 1) (v := .int .i64 (k : Int)) rfl (by kernel_rfl) (by kernel_rfl) (by kernel_rfl) (fun _ _ _ h => h) (Or.inl ⟨by kernel_rfl, fun w => ?_⟩) ?_
  · go_simp
  refine wpAny_take (i := 2) (v := .slice (some ⟨g, 0, none⟩) k cap) rfl (by kernel_rfl) (by kernel_rfl) (by kernel_rfl) (fun _ _ _ h => h) (Or.inl ⟨by kernel_rfl, fun w => ?_⟩) ?_
  · go_simp
  refine wpAny_take (i := 3) (v := .slice (some ⟨g, 0, none⟩) n cap) rfl (by kernel_rfl) (by kernel_rfl) (by kernel_rfl) (fun _ _ _ h => h) (Or.inl ⟨by kernel_rfl, fun w => ?_⟩) ?_
  · go_simp
  refine wpAny_take (i := 4) (v := .int .i64 (j : Int)) rfl (by kernel_rfl) (by kernel_rfl) (by kernel_rfl) (fun _ _ _ h => h) (Or.inl ⟨by kernel_rfl, fun w => ?_⟩) ?_
  · go_simp
  refine wpAny_take (i := 5) (v := .slice (some A) (n - j) (cap - j)) rfl (by kernel_rfl) (by kernel_rfl) (by kernel_rfl) (fun _ _ _ h => h) (Or.inl ⟨by kernel_rfl, fun w => ?_⟩) ?_
  · go_simp
  refine wpAny_ready (rs := [6]) (by kernel_rfl) (by simp) ?_
  refine AllReady.cons rfl (fun K hK => ?_) AllReady.nil
  refine step_append_room (by kernel_rfl) (.tmp 22) (.tmp 25) 114 (by kernel_rfl) 58 i0 1 Try.underlying114 hi0 hz1 g 0 k cap (by kernel_rfl) A (n - j) (cap - j) news (by kernel_rfl) s1.out hsrc.out s2.out (by omega) s3.out ?_
  rw [← hW.out]
  refine hK _ _ ?_
  clear hK K
  refine wpAny_take (i := 7) (v := .slice (some ⟨g, 0, none⟩) (k + (n - j)) cap) rfl (by kernel_rfl) (by kernel_rfl) (by kernel_rfl) (fun _ _ _ h => h) (Or.inl ⟨by kernel_rfl, fun w => ?_⟩) ?_
  · go_simp
  refine wpAny_done (by kernel_rfl) ?_ _
  clear hA2
  go_wp2
  go_ret
  exact ⟨by rw [← HN.out]; rfl, HFIN.out⟩

set_option maxHeartbeats 4000000 in
set_option maxRecDepth 1000000 in
theorem delS_any (g n cap k j : Nat) (X : Nat → Value) (w : World) (h1 : ∀ j, j < n → (X j).oneCell' = true) (hc : ∀ j, j < n → w.cell? ⟨g, j, none⟩ = some (X j) ∧ w.frozen? ⟨g, j, none⟩ = false) (hg : g < w.heap.size) (hk : k < n) (hj : j = k + 1) (hcap : n ≤ cap) (hm : cap ≤ 9223372036854775807) :
    Calls Try.prog 96 #[.slice (some ⟨g, 0, none⟩) n cap, .int .i64 k, .int .i64 j] w fun e w' => e = .returned (.slice (some ⟨g, 0, none⟩) (n - 1) cap) ∧ DelOf g n k X w w' := by
  obtain ⟨news, hnews⟩ : ∃ news, news = delNews X n k := ⟨_, rfl⟩
  have hlen : news.length = n - j := by rw [hnews, hj]; simp [delNews]
  have hget : ∀ t, t < n - j → news[t]? = some (X (j + t)) := fun t ht => by rw [hnews, hj]; unfold delNews; rw [List.getElem?_map, List.getElem?_range (by omega)]; rfl
  obtain ⟨i0, hi0, hz0, hz1, hz2⟩ := info_parts infoStr
  obtain ⟨A, hA, hsrc⟩ : ∃ A : Addr, (if cap = j then some (⟨g, 0, none⟩ : Addr) else some ⟨g, 0 + j, none⟩) = some A ∧ Hid (∀ t u, news[t]? = some u → w.drew.cell? (A.add t) = some u) := by
    by_cases h : cap = j
    · refine ⟨⟨g, 0, none⟩, by simp [h], fun t u hu => ?_⟩
      have h0 : news.length = 0 := by rw [hlen]; omega
      rw [List.length_eq_zero_iff.1 h0] at hu
      simp at hu
    · refine ⟨⟨g, 0 + j, none⟩, by simp [h], fun t u hu => ?_⟩
      have ht : t < n - j := by
        have := (List.getElem?_eq_some_iff.1 hu).1
        rwa [hlen] at this
      rw [hget t ht] at hu
      rw [Addr.add_lit, Nat.zero_add]
      exact (hc (j + t) (by omega)).1.trans hu
  have s1 : Hid (news.length = (n - j) * 1) := by rw [Nat.mul_one]; exact hlen
  have s2 : Hid (∀ u ∈ news, u.oneCell' = true) := by
    intro u hu
    rw [hnews] at hu
    unfold delNews at hu
    obtain ⟨x, hx, rfl⟩ := List.mem_map.1 hu
    exact h1 _ (by have := List.mem_range.1 hx; omega)
  have s3 : Hid (∀ t, t < news.length → (w.drew.cell? ⟨g, 0 + k * 1 + t, none⟩).isSome = true ∧ w.drew.frozen? ⟨g, 0 + k * 1 + t, none⟩ = false) := by
    intro t ht
    rw [hlen] at ht
    rw [Nat.mul_one, Nat.zero_add]
    exact ⟨by show (w.cell? _).isSome = true; rw [(hc (k + t) (by omega)).1]; rfl, (hc (k + t) (by omega)).2⟩
  obtain ⟨W1, hW1⟩ : ∃ W1, W1 = w.drew.setCells g (0 + k * 1) news := ⟨_, rfl⟩
  have hH1 : ∀ j, j < n → (W1.cell? ⟨g, j, none⟩).isSome = true ∧ W1.frozen? ⟨g, j, none⟩ = false := fun j hj => by
    rw [hW1]
    refine ⟨cells_some g _ _ _ _ ?_, ?_⟩
    · show (w.cell? _).isSome = true
      rw [(hc j hj).1]; rfl
    · rw [World.frozen?_setCells]
      exact (hc j hj).2
  have hcl : ∀ ty, (Builtin.clear_ #[75] ty #[.slice (some ⟨g, k + (n - j), none⟩) (n - (k + (n - j))) (cap - (k + (n - j)))]).run Try.prog W1 = .ok (.tuple #[]) (W1.setCells g (k + (n - j)) (List.replicate (n - (k + (n - j))) (.string ByteArray.empty))) :=
    fun ty => Lib.run_clear_slice W1 _ _ ty _ Try.underlying75 (fun w => by kernel_rfl) rfl rfl g _ _ _ (by omega) (fun t ht => (hH1 _ (by omega)).1) (fun t ht => (hH1 _ (by omega)).2)
  have HFIN : Hid (DelOf g n k X w (W1.setCells g (k + (n - j)) (List.replicate (n - (k + (n - j))) (.string ByteArray.empty)))) := by
    rw [Hid, hW1]
    exact del_of hg hk hj hlen hget (fun j hj => by rw [(hc j hj).1]; rfl) (fun j hj => (hc j hj).1) _ _ (by omega)
  have hW : Hid (W1 = w.drew.setCells g (0 + k * 1) news) := hW1
  have hA2 : (if cap = j then some (⟨g, 0, none⟩ : Addr) else some ⟨g, j, none⟩) = some A := by rw [Nat.zero_add] at hA; exact hA
  clear hA
  have HN : Hid (k + (n - j) = n - 1) := by rw [Hid]; omega
  have hic : k ≤ cap := by omega
  have hjc : j ≤ cap := by omega
  have hkj : k ≤ j := by omega
  have hjn : j ≤ n := by omega
  have hne : ((k : Int) == (j : Int)) = false := by simp; omega
  have hne2 : ¬ (k : Int) = (j : Int) := by omega
  have hkl : k + (n - j) ≤ n := by omega
  have hkl2 : k + (n - j) ≤ cap := by omega
  clear hW1 hH1 hc hget hnews hlen hj h1
  go_enter Try.func96, Try.ntmps96
  go_wp2_with fail
  refine wp_region_any (by kernel_rfl) ?_
  change wpAny _ _ _ _ _ _ _ (World.drew _)
  refine wpAny_take (i := 0) (v := .slice (some ⟨g, 0, none⟩) n cap) rfl (by kernel_rfl) (by kernel_rfl) (by kernel_rfl) (fun _ _ _ h => h) (Or.inl ⟨by kernel_rfl, fun w => ?_⟩) ?_
  · go_simp
  refine wpAny_take (i := 1) (v := .int .i64 (k : Int)) rfl (by kernel_rfl) (by kernel_rfl) (by kernel_rfl) (fun _ _ _ h => h) (Or.inl ⟨by kernel_rfl, fun w => ?_⟩) ?_
  · go_simp
  refine wpAny_take (i := 2) (v := .slice (some ⟨g, 0, none⟩) k cap) rfl (by kernel_rfl) (by kernel_rfl) (by kernel_rfl) (fun _ _ _ h => h) (Or.inl ⟨by kernel_rfl, fun w => ?_⟩) ?_
  · go_simp
  refine wpAny_take (i := 3) (v := .slice (some ⟨g, 0, none⟩) n cap) rfl (by kernel_rfl) (by kernel_rfl) (by kernel_rfl) (fun _ _ _ h => h) (Or.inl ⟨by kernel_rfl, fun w => ?_⟩) ?_
  · go_simp
  refine wpAny_take (i := 4) (v := .int .i64 (j : Int)) rfl (by kernel_rfl) (by kernel_rfl) (by kernel_rfl) (fun _ _ _ h => h) (Or.inl ⟨by kernel_rfl, fun w => ?_⟩) ?_
  · go_simp
  refine wpAny_take (i := 5) (v := .slice (some A) (n - j) (cap - j)) rfl (by kernel_rfl) (by kernel_rfl) (by kernel_rfl) (fun _ _ _ h => h) (Or.inl ⟨by kernel_rfl, fun w => ?_⟩) ?_
  · go_simp
  refine wpAny_ready (rs := [6]) (by kernel_rfl) (by simp) ?_
  refine AllReady.cons rfl (fun K hK => ?_) AllReady.nil
  refine step_append_room (by kernel_rfl) (.tmp 22) (.tmp 25) 75 (by kernel_rfl) 9 i0 1 Try.underlying75 hi0 hz1 g 0 k cap (by kernel_rfl) A (n - j) (cap - j) news (by kernel_rfl) s1.out hsrc.out s2.out (by omega) s3.out ?_
  rw [← hW.out]
  refine hK _ _ ?_
  clear hK K
  refine wpAny_take (i := 7) (v := .slice (some ⟨g, 0, none⟩) (k + (n - j)) cap) rfl (by kernel_rfl) (by kernel_rfl) (by kernel_rfl) (fun _ _ _ h => h) (Or.inl ⟨by kernel_rfl, fun w => ?_⟩) ?_
  · go_simp
  refine wpAny_done (by kernel_rfl) ?_ _
  clear hA2
  go_wp2
  go_ret
  exact ⟨by rw [← HN.out]; rfl, HFIN.out⟩
end Go.Proofs.Ytpakfgonemiebaa
