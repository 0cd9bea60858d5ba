/-
  slices.Delete of one element, at parts and at keys.
-/
import Derived.Test.YtpakfgonemiebaaUFol
import Derived.Test.YtpakfgonemiebaaTOf
import Derived.Shelf.RegionOpenPlain
import Derived.Deep.RegionLaw
import Derived.Deep.Upon
import Derived.Lib.SliceRun
namespace Go.Proofs.Ytpakfgonemiebaa
open Go.RowKit
set_option linter.unusedSimpArgs false
set_option linter.unusedVariables false

def delNews (X : Nat → Value) (n k : Nat) : List Value := (List.range (n - (k + 1))).map fun t => X (k + 1 + t)
/-- What it leaves. -/
structure DelOf (g n k : Nat) (X : Nat → Value) (w w' : World) : Prop where
  os : w'.os = w.os
  tape : w'.tape = w.tape
  output : w'.output = w.output
  size : w'.heap.size = w.heap.size
  other : ∀ c, c < w.heap.size → c ≠ g → w'.heap[c]? = w.heap[c]?
  cells : ∀ j, j < n - 1 → w'.cell? ⟨g, j, none⟩ = some (X (if j < k then j else j + 1))
theorem cells_some (b : Nat) : ∀ (vs : List Value) (o : Nat) (w : World) (x : Addr), (w.cell? x).isSome = true → ((w.setCells b o vs).cell? x).isSome = true
  | [], _, _, _, h => h
  | v :: r, o, w, x, h => by
    rw [World.setCells]
    refine cells_some b r (o + 1) _ x ?_
    by_cases e : x = ⟨b, o, none⟩
    · subst e
      obtain ⟨u, hu⟩ := Option.isSome_iff_exists.1 h
      rw [World.cell?_setCell_same _ _ _ hu]; rfl
    · rw [World.cell?_setCell_other _ _ _ _ (fun h => e h.symm)]; exact h
theorem cells_rest (b : Nat) : ∀ (vs : List Value) (o : Nat) (w : World), (w.setCells b o vs).os = w.os ∧ (w.setCells b o vs).tape = w.tape ∧ (w.setCells b o vs).output = w.output ∧ (w.setCells b o vs).heap.size = w.heap.size
  | [], _, _ => ⟨rfl, rfl, rfl, rfl⟩
  | v :: r, o, w => by
    rw [World.setCells]
    obtain ⟨h1, h2, h3, h4⟩ := cells_rest b r (o + 1) (w.setCell ⟨b, o, none⟩ v)
    exact ⟨h1, h2, h3, h4.trans (by simp)⟩
theorem del_of {g n k j : Nat} {X : Nat → Value} {w : World} {news : List Value} (hg : g < w.heap.size) (hk : k < n) (hj : j = k + 1) (hlen : news.length = n - j) (hget : ∀ t, t < n - j → news[t]? = some (X (j + t))) (hs : ∀ j, j < n → (w.cell? ⟨g, j, none⟩).isSome = true) (hc : ∀ j, j < n → w.cell? ⟨g, j, none⟩ = some (X j)) (z : List Value) (q : Nat) (hq : q = n - 1) :
    DelOf g n k X w ((w.drew.setCells g (0 + k * 1) news).setCells g q z) := by
  obtain ⟨a1, a2, a3, a4⟩ := cells_rest g z q (w.drew.setCells g (0 + k * 1) news)
  obtain ⟨b1, b2, b3, b4⟩ := cells_rest g news (0 + k * 1) w.drew
  have hz : w.drew.heap.size = w.heap.size := rfl
  refine ⟨a1.trans b1, a2.trans b2, a3.trans b3, a4.trans b4, fun c hcc hne => ?_, fun i hi => ?_⟩
  · rw [World.heap_setCells_other _ _ _ _ (by rw [b4]; exact hcc) hne, World.heap_setCells_other w.drew _ _ _ hcc hne]
    rfl
  · rw [World.cell?_setCells_out g _ _ _ _ (fun _ _ => Or.inl (by show i < q; omega))]
    by_cases e : i < k
    · rw [if_pos e, World.cell?_setCells_out g _ _ _ _ (fun _ _ => Or.inl (by show i < 0 + k * 1; omega))]
      exact hc i (by omega)
    · rw [if_neg e]
      have h1 := World.cell?_setCells_in g news (0 + k * 1) w.drew (fun t ht => by
        rw [hlen] at ht
        show (w.cell? _).isSome = true
        exact hs _ (by omega)) (i - k) (by rw [hlen]; omega)
      rw [show 0 + k * 1 + (i - k) = i by omega] at h1
      rw [h1]
      have h2 := hget (i - k) (by omega)
      rw [List.getElem?_eq_getElem (by rw [hlen]; omega), Option.some.injEq] at h2
      rw [h2, show j + (i - k) = i + 1 by omega]

set_option maxHeartbeats 4000000 in
set_option maxRecDepth 1000000 in
theorem delP_any (g n cap k j : Nat) (X : Nat → Value) (w : World) (h1 : ∀ j, j < n → (X j).oneCell' = true) (hc : ∀ j, j < n → w.cell? ⟨g, j, none⟩ = some (X j) ∧ w.frozen? ⟨g, j, none⟩ = false) (hg : g < w.heap.size) (hk : k < n) (hj : j = k + 1) (hcap : n ≤ cap) (hm : cap ≤ 9223372036854775807) :
    Calls Try.prog 95 #[.slice (some ⟨g, 0, none⟩) n cap, .int .i64 k, .int .i64 j] w fun e w' => e = .returned (.slice (some ⟨g, 0, none⟩) (n - 1) cap) ∧ DelOf g n k X w w' := by
  obtain ⟨news, hnews⟩ : ∃ news, news = delNews X n k := ⟨_, rfl⟩
  have hlen : news.length = n - j := by rw [hnews, hj]; simp [delNews]
  have hget : ∀ t, t < n - j → news[t]? = some (X (j + t)) := fun t ht => by rw [hnews, hj]; unfold delNews; rw [List.getElem?_map, List.getElem?_range (by omega)]; rfl
  obtain ⟨i0, hi0, hz0, hz1, hz2⟩ := info_parts infoPtr
  obtain ⟨A, hA, hsrc⟩ : ∃ A : Addr, (if cap = j then some (⟨g, 0, none⟩ : Addr) else some ⟨g, 0 + j, none⟩) = some A ∧ Hid (∀ t u, news[t]? = some u → w.drew.cell? (A.add t) = some u) := by
    by_cases h : cap = j
    · refine ⟨⟨g, 0, none⟩, by simp [h], fun t u hu => ?_⟩
      have h0 : news.length = 0 := by rw [hlen]; omega
      rw [List.length_eq_zero_iff.1 h0] at hu
      simp at hu
    · refine ⟨⟨g, 0 + j, none⟩, by simp [h], fun t u hu => ?_⟩
      have ht : t < n - j := by
        have := (List.getElem?_eq_some_iff.1 hu).1
        rwa [hlen] at this
      rw [hget t ht] at hu
      rw [Addr.add_lit, Nat.zero_add]
      exact (hc (j + t) (by omega)).1.trans hu
  have s1 : Hid (news.length = (n - j) * 1) := by rw [Nat.mul_one]; exact hlen
  have s2 : Hid (∀ u ∈ news, u.oneCell' = true) := by
    intro u hu
    rw [hnews] at hu
    unfold delNews at hu
    obtain ⟨x, hx, rfl⟩ := List.mem_map.1 hu
    exact h1 _ (by have := List.mem_range.1 hx; omega)
  have s3 : Hid (∀ t, t < news.length → (w.drew.cell? ⟨g, 0 + k * 1 + t, none⟩).isSome = true ∧ w.drew.frozen? ⟨g, 0 + k * 1 + t, none⟩ = false) := by
    intro t ht
    rw [hlen] at ht
    rw [Nat.mul_one, Nat.zero_add]
    exact ⟨by show (w.cell? _).isSome = true; rw [(hc (k + t) (by omega)).1]; rfl, (hc (k + t) (by omega)).2⟩
  obtain ⟨W1, hW1⟩ : ∃ W1, W1 = w.drew.setCells g (0 + k * 1) news := ⟨_, rfl⟩
  have hH1 : ∀ j, j < n → (W1.cell? ⟨g, j, none⟩).isSome = true ∧ W1.frozen? ⟨g, j, none⟩ = false := fun j hj => by
    rw [hW1]
    refine ⟨cells_some g _ _ _ _ ?_, ?_⟩
    · show (w.cell? _).isSome = true
      rw [(hc j hj).1]; rfl
    · rw [World.frozen?_setCells]
      exact (hc j hj).2
  have hcl : ∀ ty, (Builtin.clear_ #[114] ty #[.slice (some ⟨g, k + (n - j), none⟩) (n - (k + (n - j))) (cap - (k + (n - j)))]).run Try.prog W1 = .ok (.tuple #[]) (W1.setCells g (k + (n - j)) (List.replicate (n - (k + (n - j))) (.pointer none))) :=
    fun ty => Lib.run_clear_slice W1 _ _ ty _ Try.underlying114 (fun w => by kernel_rfl) rfl rfl g _ _ _ (by omega) (fun t ht => (hH1 _ (by omega)).1) (fun t ht => (hH1 _ (by omega)).2)
  have HFIN : Hid (DelOf g n k X w (W1.setCells g (k + (n - j)) (List.replicate (n - (k + (n - j))) (.pointer none)))) := by
    rw [Hid, hW1]
    exact del_of hg hk hj hlen hget (fun j hj => by rw [(hc j hj).1]; rfl) (fun j hj => (hc j hj).1) _ _ (by omega)
  have hW : Hid (W1 = w.drew.setCells g (0 + k * 1) news) := hW1
  have hA2 : (if cap = j then some (⟨g, 0, none⟩ : Addr) else some ⟨g, j, none⟩) = some A := by rw [Nat.zero_add] at hA; exact hA
  clear hA
  have HN : Hid (k + (n - j) = n - 1) := by rw [Hid]; omega
  have hic : k ≤ cap := by omega
  have hjc : j ≤ cap := by omega
  have hkj : k ≤ j := by omega
  have hjn : j ≤ n := by omega
  have hne : ((k : Int) == (j : Int)) = false := by simp; omega
  have hne2 : ¬ (k : Int) = (j : Int) := by omega
  have hkl : k + (n - j) ≤ n := by omega
  have hkl2 : k + (n - j) ≤ cap := by omega
  clear hW1 hH1 hc hget hnews hlen hj h1
  go_enter Try.func95, Try.ntmps95
  go_wp2_with fail
  refine wp_region_any (by kernel_rfl) ?_
  change wpAny _ _ _ _ _ _ _ (World.drew _)
  refine wpAny_take (i := 0) (v := .slice (some ⟨g, 0, none⟩) n cap) rfl (by kernel_rfl) (by kernel_rfl) (by kernel_rfl) (fun _ _ _ h => h) (Or.inl ⟨by kernel_rfl, fun w => ?_⟩) ?_
  · go_simp
  refine wpAny_take (i := 1) (v := .int .i64 (k : Int)) rfl (by kernel_rfl) (by kernel_rfl) (by kernel_rfl) (fun _ _ _ h => h) (Or.inl ⟨by kernel_rfl, fun w => ?_⟩) ?_
  · go_simp
  refine wpAny_take (i := 2) (v := .slice (some ⟨g, 0, none⟩) k cap) rfl (by kernel_rfl) (by kernel_rfl) (by kernel_rfl) (fun _ _ _ h => h) (Or.inl ⟨by kernel_rfl, fun w => ?_⟩) ?_
  · go_simp
  refine wpAny_take (i := 3) (v := .slice (some ⟨g, 0, none⟩) n cap) rfl (by kernel_rfl) (by kernel_rfl) (by kernel_rfl) (fun _ _ _ h => h) (Or.inl ⟨by kernel_rfl, fun w => ?_⟩) ?_
  · go_simp
  refine wpAny_take (i := 4) (v := .int .i64 (j : Int)) rfl (by kernel_rfl) (by kernel_rfl) (by kernel_rfl) (fun _ _ _ h => h) (Or.inl ⟨by kernel_rfl, fun w => ?_⟩) ?_
  · go_simp
  refine wpAny_take (i := 5) (v := .slice (some A) (n - j) (cap - j)) rfl (by kernel_rfl) (by kernel_rfl) (by kernel_rfl) (fun _ _ _ h => h) (Or.inl ⟨by kernel_rfl, fun w => ?_⟩) ?_
  · go_simp
  refine wpAny_ready (rs := [6]) (by kernel_rfl) (by simp) ?_
  refine AllReady.cons rfl (fun K hK => ?_) AllReady.nil
  refine step_append_room (by kernel_rfl) (.tmp 22) (.tmp 25) 114 (by kernel_rfl) 58 i0 1 Try.underlying114 hi0 hz1 g 0 k cap (by kernel_rfl) A (n - j) (cap - j) news (by kernel_rfl) s1.out hsrc.out s2.out (by omega) s3.out ?_
  rw [← hW.out]
  refine hK _ _ ?_
  clear hK K
  refine wpAny_take (i := 7) (v := .slice (some ⟨g, 0, none⟩) (k + (n - j)) cap) rfl (by kernel_rfl) (by kernel_rfl) (by kernel_rfl) (fun _ _ _ h => h) (Or.inl ⟨by kernel_rfl, fun w => ?_⟩) ?_
  · go_simp
  refine wpAny_done (by kernel_rfl) ?_ _
  clear hA2
  go_wp2
  go_ret
  exact ⟨by rw [← HN.out]; rfl, HFIN.out⟩

set_option maxHeartbeats 4000000 in
set_option maxRecDepth 1000000 in
theorem delS_any (g n cap k j : Nat) (X : Nat → Value) (w : World) (h1 : ∀ j, j < n → (X j).oneCell' = true) (hc : ∀ j, j < n → w.cell? ⟨g, j, none⟩ = some (X j) ∧ w.frozen? ⟨g, j, none⟩ = false) (hg : g < w.heap.size) (hk : k < n) (hj : j = k + 1) (hcap : n ≤ cap) (hm : cap ≤ 9223372036854775807) :
    Calls Try.prog 96 #[.slice (some ⟨g, 0, none⟩) n cap, .int .i64 k, .int .i64 j] w fun e w' => e = .returned (.slice (some ⟨g, 0, none⟩) (n - 1) cap) ∧ DelOf g n k X w w' := by
  obtain ⟨news, hnews⟩ : ∃ news, news = delNews X n k := ⟨_, rfl⟩
  have hlen : news.length = n - j := by rw [hnews, hj]; simp [delNews]
  have hget : ∀ t, t < n - j → news[t]? = some (X (j + t)) := fun t ht => by rw [hnews, hj]; unfold delNews; rw [List.getElem?_map, List.getElem?_range (by omega)]; rfl
  obtain ⟨i0, hi0, hz0, hz1, hz2⟩ := info_parts infoStr
  obtain ⟨A, hA, hsrc⟩ : ∃ A : Addr, (if cap = j then some (⟨g, 0, none⟩ : Addr) else some ⟨g, 0 + j, none⟩) = some A ∧ Hid (∀ t u, news[t]? = some u → w.drew.cell? (A.add t) = some u) := by
    by_cases h : cap = j
    · refine ⟨⟨g, 0, none⟩, by simp [h], fun t u hu => ?_⟩
      have h0 : news.length = 0 := by rw [hlen]; omega
      rw [List.length_eq_zero_iff.1 h0] at hu
      simp at hu
    · refine ⟨⟨g, 0 + j, none⟩, by simp [h], fun t u hu => ?_⟩
      have ht : t < n - j := by
        have := (List.getElem?_eq_some_iff.1 hu).1
        rwa [hlen] at this
      rw [hget t ht] at hu
      rw [Addr.add_lit, Nat.zero_add]
      exact (hc (j + t) (by omega)).1.trans hu
  have s1 : Hid (news.length = (n - j) * 1) := by rw [Nat.mul_one]; exact hlen
  have s2 : Hid (∀ u ∈ news, u.oneCell' = true) := by
    intro u hu
    rw [hnews] at hu
    unfold delNews at hu
    obtain ⟨x, hx, rfl⟩ := List.mem_map.1 hu
    exact h1 _ (by have := List.mem_range.1 hx; omega)
  have s3 : Hid (∀ t, t < news.length → (w.drew.cell? ⟨g, 0 + k * 1 + t, none⟩).isSome = true ∧ w.drew.frozen? ⟨g, 0 + k * 1 + t, none⟩ = false) := by
    intro t ht
    rw [hlen] at ht
    rw [Nat.mul_one, Nat.zero_add]
    exact ⟨by show (w.cell? _).isSome = true; rw [(hc (k + t) (by omega)).1]; rfl, (hc (k + t) (by omega)).2⟩
  obtain ⟨W1, hW1⟩ : ∃ W1, W1 = w.drew.setCells g (0 + k * 1) news := ⟨_, rfl⟩
  have hH1 : ∀ j, j < n → (W1.cell? ⟨g, j, none⟩).isSome = true ∧ W1.frozen? ⟨g, j, none⟩ = false := fun j hj => by
    rw [hW1]
    refine ⟨cells_some g _ _ _ _ ?_, ?_⟩
    · show (w.cell? _).isSome = true
      rw [(hc j hj).1]; rfl
    · rw [World.frozen?_setCells]
      exact (hc j hj).2
  have hcl : ∀ ty, (Builtin.clear_ #[75] ty #[.slice (some ⟨g, k + (n - j), none⟩) (n - (k + (n - j))) (cap - (k + (n - j)))]).run Try.prog W1 = .ok (.tuple #[]) (W1.setCells g (k + (n - j)) (List.replicate (n - (k + (n - j))) (.string ByteArray.empty))) :=
    fun ty => Lib.run_clear_slice W1 _ _ ty _ Try.underlying75 (fun w => by kernel_rfl) rfl rfl g _ _ _ (by omega) (fun t ht => (hH1 _ (by omega)).1) (fun t ht => (hH1 _ (by omega)).2)
  have HFIN : Hid (DelOf g n k X w (W1.setCells g (k + (n - j)) (List.replicate (n - (k + (n - j))) (.string ByteArray.empty)))) := by
    rw [Hid, hW1]
    exact del_of hg hk hj hlen hget (fun j hj => by rw [(hc j hj).1]; rfl) (fun j hj => (hc j hj).1) _ _ (by omega)
  have hW : Hid (W1 = w.drew.setCells g (0 + k * 1) news) := hW1
  have hA2 : (if cap = j then some (⟨g, 0, none⟩ : Addr) else some ⟨g, j, none⟩) = some A := by rw [Nat.zero_add] at hA; exact hA
  clear hA
  have HN : Hid (k + (n - j) = n - 1) := by rw [Hid]; omega
  have hic : k ≤ cap := by omega
  have hjc : j ≤ cap := by omega
  have hkj : k ≤ j := by omega
  have hjn : j ≤ n := by omega
  have hne : ((k : Int) == (j : Int)) = false := by simp; omega
  have hne2 : ¬ (k : Int) = (j : Int) := by omega
  have hkl : k + (n - j) ≤ n := by omega
  have hkl2 : k + (n - j) ≤ cap := by omega
  clear hW1 hH1 hc hget hnews hlen hj h1
  go_enter Try.func96, Try.ntmps96
  go_wp2_with fail
  refine wp_region_any (by kernel_rfl) ?_
  change wpAny _ _ _ _ _ _ _ (World.drew _)
  refine wpAny_take (i := 0) (v := .slice (some ⟨g, 0, none⟩) n cap) rfl (by kernel_rfl) (by kernel_rfl) (by kernel_rfl) (fun _ _ _ h => h) (Or.inl ⟨by kernel_rfl, fun w => ?_⟩) ?_
  · go_simp
  refine wpAny_take (i := 1) (v := .int .i64 (k : Int)) rfl (by kernel_rfl) (by kernel_rfl) (by kernel_rfl) (fun _ _ _ h => h) (Or.inl ⟨by kernel_rfl, fun w => ?_⟩) ?_
  · go_simp
  refine wpAny_take (i := 2) (v := .slice (some ⟨g, 0, none⟩) k cap) rfl (by kernel_rfl) (by kernel_rfl) (by kernel_rfl) (fun _ _ _ h => h) (Or.inl ⟨by kernel_rfl, fun w => ?_⟩) ?_
  · go_simp
  refine wpAny_take (i := 3) (v := .slice (some ⟨g, 0, none⟩) n cap) rfl (by kernel_rfl) (by kernel_rfl) (by kernel_rfl) (fun _ _ _ h => h) (Or.inl ⟨by kernel_rfl, fun w => ?_⟩) ?_
  · go_simp
  refine wpAny_take (i := 4) (v := .int .i64 (j : Int)) rfl (by kernel_rfl) (by kernel_rfl) (by kernel_rfl) (fun _ _ _ h => h) (Or.inl ⟨by kernel_rfl, fun w => ?_⟩) ?_
  · go_simp
  refine wpAny_take (i := 5) (v := .slice (some A) (n - j) (cap - j)) rfl (by kernel_rfl) (by kernel_rfl) (by kernel_rfl) (fun _ _ _ h => h) (Or.inl ⟨by kernel_rfl, fun w => ?_⟩) ?_
  · go_simp
  refine wpAny_ready (rs := [6]) (by kernel_rfl) (by simp) ?_
  refine AllReady.cons rfl (fun K hK => ?_) AllReady.nil
  refine step_append_room (by kernel_rfl) (.tmp 22) (.tmp 25) 75 (by kernel_rfl) 9 i0 1 Try.underlying75 hi0 hz1 g 0 k cap (by kernel_rfl) A (n - j) (cap - j) news (by kernel_rfl) s1.out hsrc.out s2.out (by omega) s3.out ?_
  rw [← hW.out]
  refine hK _ _ ?_
  clear hK K
  refine wpAny_take (i := 7) (v := .slice (some ⟨g, 0, none⟩) (k + (n - j)) cap) rfl (by kernel_rfl) (by kernel_rfl) (by kernel_rfl) (fun _ _ _ h => h) (Or.inl ⟨by kernel_rfl, fun w => ?_⟩) ?_
  · go_simp
  refine wpAny_done (by kernel_rfl) ?_ _
  clear hA2
  go_wp2
  go_ret
  exact ⟨by rw [← HN.out]; rfl, HFIN.out⟩
end Go.Proofs.Ytpakfgonemiebaa

/-
  (*impl.treePart).take: a part taken where it stands.
-/
namespace Go.Proofs.Ytpakfgonemiebaa
open Go.RowKit
set_option linter.unusedSimpArgs false
set_option linter.unusedVariables false

/-- Nothing has turned but blocks from lo on and below hi, and what is new. -/
structure Out (lo hi : Nat) (w w' : World) : Prop where
  os : w'.os = w.os
  tape : w'.tape = w.tape
  output : w'.output = w.output
  size : w.heap.size ≤ w'.heap.size
  block : ∀ c, c < w.heap.size → (c < lo ∨ hi ≤ c) → w'.heap[c]? = w.heap[c]?
theorem Out.refl (lo hi : Nat) (w : World) : Out lo hi w w := ⟨rfl, rfl, rfl, Nat.le_refl _, fun _ _ _ => rfl⟩
theorem Out.of_below {lo hi : Nat} {w w' : World} (h : Below w.heap.size w w') : Out lo hi w w' := ⟨h.os, h.tape, h.output, h.size, fun c hc _ => h.block c hc⟩
theorem Out.trans {lo hi : Nat} {a b c : World} (h : Out lo hi a b) (k : Out lo hi b c) : Out lo hi a c :=
  ⟨k.os.trans h.os, k.tape.trans h.tape, k.output.trans h.output, Nat.le_trans h.size k.size, fun x hx ho => (k.block x (Nat.lt_of_lt_of_le hx h.size) ho).trans (h.block x hx ho)⟩
theorem Out.of_set {lo hi : Nat} {a : World} (b o : Nat) (u : Value) (h : lo ≤ b ∧ b < hi) : Out lo hi a (a.setCell ⟨b, o, none⟩ u) :=
  ⟨rfl, rfl, rfl, by simp, fun x _ hn => Below.heap_setCell _ _ _ _ (by show x ≠ b; omega)⟩
theorem Out.of_del {lo hi g n k : Nat} {X : Nat → Value} {a b : World} (h : DelOf g n k X a b) (hg : lo ≤ g ∧ g < hi) : Out lo hi a b :=
  ⟨h.os, h.tape, h.output, by rw [h.size]; exact Nat.le_refl _, fun x hx hn => h.other x hx (by omega)⟩
theorem frozenR {w w' : World} {b o : Nat} (h : w'.heap[b]? = w.heap[b]?) : w'.frozen? ⟨b, o, none⟩ = w.frozen? ⟨b, o, none⟩ := World.frozen?_of_block (w := w) (a := ⟨b, o, none⟩) h
theorem own_full {w : World} {base e n g cap : Nat} {X : Nat → Value} (h : w.ownsRow base e 1 (.slice (some ⟨g, 0, none⟩) n cap) n ((List.range n).map X)) : (∀ j, j < n → w.cell? ⟨g, j, none⟩ = some (X j) ∧ w.frozen? ⟨g, j, none⟩ = false) ∧ n ≤ cap ∧ cap ≤ maxLen ∧ base ≤ g ∧ g < w.heap.size := by
  rcases h.2 with ⟨e1, _⟩ | ⟨g', cap', cur, e1, hb, hg, h1, h2, h3, h4⟩
  · cases e1
  · cases e1
    have hlt : g < w.heap.size := (Array.getElem?_eq_some_iff.1 hg).1
    refine ⟨fun j hj => ⟨?_, ?_⟩, h1, h2, hb, hlt⟩
    · rw [h.cellAt j (by omega)]; simp [hj]
    · simp [World.frozen?, hg]
theorem keys_range (keys : List ByteArray) : keys.map Value.string = (List.range keys.length).map fun j => Value.string (keyAt keys j) := by
  conv => lhs; rw [← range_keys keys]
  rw [List.map_map]; rfl

theorem taken_read {B : Nat} {w w' : World} {f lo hi : Nat} {kind n : Int} {s : ByteArray} {keys : List ByteArray} {kids : List VT} {sv ks it ks' : Value} {p gi capi k : Nat} {ps : Nat → Value} {ls hs : Nat → Nat}
    (hp : PNode w lo hi sv keys kids.length (fun j l h u => PT B w f (kidT kids j) l h u) p ks it ps ls hs) (hn : kids.length ≤ 100000) (hk : k < kids.length) (hgi : gi < hi) (hBw : ∀ c, c < B → w'.heap[c]? = w.heap[c]?)
    (hsame : ∀ c, lo ≤ c → c < hi → ¬ POwn p ks it c → w'.heap[c]? = w.heap[c]?) (c0 : w'.cell? ⟨p, 0, none⟩ = some sv) (c1 : w'.cell? ⟨p, 1, none⟩ = some ks') (c2 : w'.cell? ⟨p, 2, none⟩ = some (.slice (some ⟨gi, 0, none⟩) (kids.length - 1) capi))
    (hcs : ∀ j, j < kids.length - 1 → w'.cell? ⟨gi, j, none⟩ = some (ps (if j < k then j else j + 1))) (hks : StrsAt hi w' ks' (keys.eraseIdx k)) (hself : SelfOk kind n s (keys.eraseIdx k) (kids.eraseIdx k) sv) :
    PR hi w' (f + 1) (takeKid k (.mk kind n s keys kids)) (.pointer (some ⟨p, 0, none⟩)) := by
  have hel : (kids.eraseIdx k).length = kids.length - 1 := by rw [List.length_eraseIdx, if_pos hk]
  have hpt := hp.top p (Or.inl rfl)
  refine ⟨sv, p, ks', _, rfl, hpt, c0, c1, c2, hself, hks, by rw [hel]; omega, some ⟨gi, 0, none⟩, capi, by rw [hel], fun hpos => ⟨gi, rfl, hgi, fun j hj => ?_⟩⟩
  rw [hel] at hj
  obtain ⟨q, eq⟩ : ∃ q, (if j < k then j else j + 1) = q := ⟨_, rfl⟩
  have hq : q < kids.length := by rw [← eq]; split <;> omega
  have hkid := hp.kid q hq
  have hrng := hp.rng q hq
  obtain ⟨z, ez⟩ := hkid.ptr
  refine ⟨z, by rw [hcs j hj, eq, ez], ?_⟩
  show PR hi w' f (kidT (kids.eraseIdx k) j) _
  rw [kid_erase, eq, ← ez]
  refine (hkid.move (w' := w') hBw (Nat.le_refl _) (Nat.le_refl _) (fun c h1 h2 => hsame c (by omega) (by omega) (fun hown => ?_))).read (by omega)
  have := hp.out q hq c hown
  omega

set_option maxRecDepth 100000 in
set_option maxHeartbeats 3200000 in
theorem take_none (B : Nat) {f : Nat} {t : VT} {lo hi p : Nat} (x : PS) (w : World) (h : PT B w f t lo hi (.pointer (some ⟨p, 0, none⟩))) (hg : goodT f t) (hB : B ≤ w.heap.size) (hh : hi ≤ w.heap.size) (hx : -9223372036854775808 ≤ x.pl ∧ x.pl ≤ 9223372036854775807) (hno : stepT t x = none) :
    Calls Try.prog 52 #[.pointer (some ⟨p, 0, none⟩), .agg #[.bool x.named, .string x.key, .int .i64 x.pl]] w fun e w' => e = .returned (.bool false) ∧ Below w.heap.size w w' := by
  cases f with
  | zero => exact hg.elim
  | succ f =>
  obtain ⟨kind, n, s, keys, kids⟩ := t
  have hba : Below w.heap.size w (w.alloc (.cells #[.bool x.named, .string x.key, .int .i64 x.pl] 39)) := (Below.refl _ _).alloc (Nat.le_refl _) _
  have HPA := hideIt (h.below hba hB hh)
  have HBA := hideIt hba
  have HFI := hideIt (find_any B f _ _ _ _ _ lo hi p x _ HPA.out (fun e => good6 hg e (h.keysN hg)) hx)
  have HFR : Hid ((findR kind keys kids.length x).2 = false) := findR_none hno
  clear h hg hba hno
  go_enter Try.func52, Try.ntmps52
  go_wp2_with fail
  refine HFI.out.mono ?_
  rintro e w1 ⟨rfl, hb1⟩
  rw [HFR.out]
  generalize (findR kind keys kids.length x).1 = at1
  have HB1 : Hid (Below w.heap.size w w1) := HBA.out.trans (hb1.mono (by simp))
  clear hb1
  go_wp2_with fail
  go_ret
  exact ⟨rfl, HB1.out⟩

set_option maxRecDepth 100000 in
set_option maxHeartbeats 6400000 in
theorem take_some (B : Nat) {f : Nat} {t : VT} {lo hi p : Nat} (x : PS) (w : World) (h : PT B w f t lo hi (.pointer (some ⟨p, 0, none⟩))) (hg : goodT f t) (hBl : B ≤ lo) (hh : hi ≤ w.heap.size) (hx : -9223372036854775808 ≤ x.pl ∧ x.pl ≤ 9223372036854775807) (h0x : x.named = true ∨ 0 ≤ x.pl) (k : Nat) (hk : stepT t x = some k) :
    Calls Try.prog 52 #[.pointer (some ⟨p, 0, none⟩), .agg #[.bool x.named, .string x.key, .int .i64 x.pl]] w fun e w' => e = .returned (.bool true) ∧ PR hi w' f (takeKid k t) (.pointer (some ⟨p, 0, none⟩)) ∧ Out lo hi w w' := by
  have hkl := stepT_lt hg h0x hk
  cases f with
  | zero => exact hg.elim
  | succ f =>
  obtain ⟨kind, n, s, keys, kids⟩ := t
  have hkl' : k < kids.length := hkl
  have hba : Below w.heap.size w (w.alloc (.cells #[.bool x.named, .string x.key, .int .i64 x.pl] 39)) := (Below.refl _ _).alloc (Nat.le_refl _) _
  obtain ⟨sv, p', ks, it, ps, ls, hs, e1, ht, hp⟩ := id h
  obtain rfl : p = p' := by simpa using e1
  have hpl := hp.lt (Or.inl rfl)
  have hpt := hp.top p (Or.inl rfl)
  have HPA := hideIt (h.below hba (by omega) hh)
  have HBA := hideIt hba
  have HFI := hideIt (find_any B f _ _ _ _ _ lo hi p x _ HPA.out (fun e => good6 hg e (h.keysN hg)) hx)
  have HFR : Hid (findR kind keys kids.length x = ((k : Int), true)) := findR_some h0x hk
  have HNM : Hid ((x.named = false ∧ kind = 5 ∧ n = 0 ∧ s = ByteArray.empty ∧ keys = []) ∨ (x.named = true ∧ kind = 6 ∧ n = 0 ∧ s = ByteArray.empty ∧ keys.length = kids.length)) := by
    have hk2 : stepTo kind keys kids.length x = some k := hk
    unfold stepTo at hk2
    split at hk2
    · rename_i hn
      split at hk2
      · rename_i h6
        rcases nodeT_says hg.1 with ⟨e2, _⟩ | ⟨e2, _⟩ | ⟨e2, _⟩ | ⟨e2, _⟩ | ⟨e2, _⟩ | ⟨_, a1, a2, hm, _⟩
        · have := h6.1; omega
        · have := h6.1; omega
        · have := h6.1; omega
        · have := h6.1; omega
        · have := h6.1; omega
        · exact .inr ⟨hn, h6.1, a1, a2, hm⟩
      · cases hk2
    · rename_i hn
      split at hk2
      · rename_i h5
        rcases nodeT_says hg.1 with ⟨e2, _⟩ | ⟨e2, _⟩ | ⟨e2, _⟩ | ⟨e2, _⟩ | ⟨_, a1, a2, a3⟩ | ⟨e2, _⟩
        · have := h5.1; omega
        · have := h5.1; omega
        · have := h5.1; omega
        · have := h5.1; omega
        · exact .inl ⟨by simpa using hn, h5.1, a1, a2, a3⟩
        · have := h5.1; omega
      · cases hk2
  obtain ⟨tS, t2, t3, t4⟩ := tree_self ht
  obtain ⟨gi, capi, ei, hgl, hgs⟩ := hp.kidsR.form (by omega)
  subst ei
  obtain ⟨hci, hcap1, hcap2, _, _⟩ := own_full hp.kidsR
  have hgit := hp.top gi (Or.inr (Or.inr rfl))
  have hgp : gi ≠ p := by
    rintro rfl
    rcases own_apart hp.kidsR hp.node (by decide) with e2 | e2
    · cases e2
    · exact e2 rfl
  have c0 : w.cell? ⟨p, 0, none⟩ = some sv := by rw [hp.node.cellAt 0 (by omega)]; rfl
  have c1 : w.cell? ⟨p, 1, none⟩ = some ks := by rw [hp.node.cellAt 1 (by omega)]; rfl
  have c2 : w.cell? ⟨p, 2, none⟩ = some (.slice (some ⟨gi, 0, none⟩) kids.length capi) := by rw [hp.node.cellAt 2 (by omega)]; rfl
  have f1 : w.frozen? ⟨p, 1, none⟩ = false ∧ w.frozen? ⟨p, 2, none⟩ = false := by
    rcases hp.node.2 with ⟨e1, _⟩ | ⟨g', cap', cur, e1, _, hgg, _⟩
    · cases e1
    · cases e1; exact ⟨by simp [World.frozen?, hgg], by simp [World.frozen?, hgg]⟩
  have hptr : ∀ j, j < kids.length → ∃ z, ps j = .pointer (some ⟨z, 0, none⟩) := fun j hj => (hp.kid j hj).ptr
  have HP := hideIt hp
  have HCI := hideIt hci
  have HPS := hideIt hptr
  have HKS := hideIt (own_strs hp.keysR t3 t4)
  have HKR := hideIt hp.keysR
  have HTS := hideIt tS
  have ek1 : ((k + 1 : Nat) : Int) = (k : Int) + 1 := by omega
  have HDL := hideIt (fun (w1 : World) (hb : Below w.heap.size w w1) => by
    have := delP_any gi kids.length capi k (k + 1) ps w1 (fun j hj => by obtain ⟨z, ez⟩ := HPS.out j hj; rw [ez]; rfl) (fun j hj => ⟨(below_cell hb hgs).trans (HCI.out j hj).1, (frozenR (hb.block gi hgs)).trans (HCI.out j hj).2⟩) (Nat.lt_of_lt_of_le hgs hb.size) hkl' rfl hcap1 (by unfold maxLen at hcap2; omega)
    rw [ek1] at this
    exact this)
  obtain ⟨M, hM⟩ : ∃ M, kids.length = M := ⟨_, rfl⟩
  have HM := hideIt hM
  rw [hM] at c2 HDL hkl' HFR HFI
  have hM1 : M ≤ 100000 := by omega
  clear h hg hba hci hptr hp ht tS hM hk t2 t3 t4 hcap1 hcap2
  go_enter Try.func52, Try.ntmps52
  go_wp2_with fail
  refine HFI.out.mono ?_
  rintro e w1 ⟨rfl, hb1⟩
  rw [HFR.out]
  have HB1 : Hid (Below w.heap.size w w1) := HBA.out.trans (hb1.mono (by simp))
  have d0 := (below_cell HB1.out (by omega)).trans c0
  have d1 := (below_cell HB1.out (by omega)).trans c1
  have d2 := (below_cell HB1.out (by omega)).trans c2
  have g1 := (frozenR (o := 1) (HB1.out.block p (by omega))).trans f1.1
  have g2 := (frozenR (o := 2) (HB1.out.block p (by omega))).trans f1.2
  have nb : w1.cell? ⟨w.heap.size, 0, none⟩ = some (.bool x.named) := (below_cell hb1 (by simp)).trans (by simp)
  have HD2 := hideIt (HDL.out w1 HB1.out)
  have z1 := HB1.out.size
  have z0 : w.heap.size + 1 ≤ w1.heap.size := by simpa using hb1.size
  clear hb1 HDL c0 c1 c2 f1
  go_wp2_with fail
  refine HD2.out.mono ?_
  rintro e w2 ⟨rfl, hdel⟩
  have hpo := hdel.other p (by omega) (fun e => hgp e.symm)
  have hbo := hdel.other w.heap.size (by omega) (by omega)
  have m0 := (cellR (o := 0) hpo).trans d0
  have m1 := (cellR (o := 1) hpo).trans d1
  have m2 := (cellR (o := 2) hpo).trans d2
  have n1 := (frozenR (o := 1) hpo).trans g1
  have n2 := (frozenR (o := 2) hpo).trans g2
  have mb := (cellR (o := 0) hbo).trans nb
  have hsz := hdel.size
  have HDE := hideIt hdel
  have HSZ := hideIt hsz
  have HO2 : Hid (Out lo hi w w2) := (Out.of_below HB1.out).trans (Out.of_del hdel ⟨hgl, hgit⟩)
  have HC2 := hideIt hdel.cells
  clear hpo hbo d0 d1 d2 g1 g2 nb hdel hsz HD2
  rcases HNM.out with ⟨hn, hk5, hn0, hs0, hks0⟩ | ⟨hn, hk6, hn0, hs0, hkk⟩
  · rw [hn] at mb
    obtain ⟨W3, hW3⟩ : ∃ W3, w2.setCell ⟨p, 2, none⟩ (.slice (some ⟨gi, 0, none⟩) (M - 1) capi) = W3 := ⟨_, rfl⟩
    have HFIN : Hid (PR hi W3 (f + 1) (takeKid k (.mk kind n s keys kids)) (.pointer (some ⟨p, 0, none⟩)) ∧ Out lo hi w W3) := by
      have hst : ∀ c, c ≠ p → W3.heap[c]? = w2.heap[c]? := fun c hc => by rw [← hW3]; exact Below.heap_setCell w2 _ _ c hc
      have hO3 : Out lo hi w W3 := HO2.out.trans (by rw [← hW3]; exact Out.of_set _ _ _ ⟨hpl.1, hpt⟩)
      refine ⟨taken_read (w' := W3) (gi := gi) (capi := capi) (ks' := ks) HP.out (by rw [HM.out]; exact hM1) (by rw [HM.out]; exact hkl') hgit (fun c hc => hO3.block c (by omega) (by omega)) (fun c h1 h2 h3 => ?_) ?_ ?_ ?_ ?_ ?_ ?_, hO3⟩
      · have hcp : c ≠ p := fun e => h3 (Or.inl e)
        have hcg : c ≠ gi := fun e => h3 (Or.inr (Or.inr (by rw [e]; rfl)))
        rw [hst c hcp, HDE.out.other c (by omega) hcg]
        exact HB1.out.block c (by omega)
      · rw [← hW3, World.cell?_setCell_other (h := by simp)]; exact m0
      · rw [← hW3, World.cell?_setCell_other (h := by simp)]; exact m1
      · rw [HM.out, ← hW3]; exact World.cell?_setCell_same _ _ _ m2
      · rw [HM.out]
        intro j hj
        rw [cellR (hst gi hgp)]
        exact HC2.out j hj
      · have := HKS.out
        rw [hks0] at this ⊢
        obtain ⟨q1, q2, ak, ck, eks, _⟩ := this
        exact ⟨by simp, fun i hi => absurd hi (by simp), ak, ck, eks, fun hpos => absurd hpos (by simp)⟩
      · rcases HTS.out with q | q | q | q | ⟨_, _, _, _, y, ey⟩ | q
        · omega
        · omega
        · omega
        · omega
        · exact .inr (.inr (.inr (.inr (.inl ⟨hk5, hn0, hs0, by rw [hks0]; rfl, y, ey⟩))))
        · omega
    have mb3 : W3.cell? ⟨w.heap.size, 0, none⟩ = some (.bool false) := by rw [← hW3, World.cell?_setCell_other (h := by simp)]; exact mb
    clear m0 m1 mb
    go_wp2_with fail
    go_ret
    exact ⟨rfl, HFIN.out.1, HFIN.out.2⟩
  · rw [hn] at mb
    have hkN : keys.length = M := by rw [hkk]; exact HM.out
    obtain ⟨kb, capk, ekb, hkb1, hkb2⟩ := HKR.out.form (by omega)
    have hkr := HKR.out
    rw [ekb, keys_range] at hkr
    obtain ⟨hck, hck1, hck2, _, _⟩ := own_full hkr
    have hkbt := HP.out.top kb (Or.inr (Or.inl (by rw [ekb]; rfl)))
    have hkp : kb ≠ p := by
      rintro rfl
      rcases own_apart HP.out.keysR HP.out.node (by decide) with e2 | e2
      · rw [ekb] at e2; cases e2
      · exact e2 (by rw [ekb]; rfl)
    have hkg : kb ≠ gi := by
      rintro rfl
      rcases own_apart HP.out.keysR HP.out.kidsR (by decide) with e2 | e2
      · rw [ekb] at e2; cases e2
      · exact e2 (by rw [ekb]; rfl)
    rw [ekb] at m1
    obtain ⟨W3, hW3⟩ : ∃ W3, w2.setCell ⟨p, 2, none⟩ (.slice (some ⟨gi, 0, none⟩) (M - 1) capi) = W3 := ⟨_, rfl⟩
    have hst3 : ∀ c, c ≠ p → W3.heap[c]? = w2.heap[c]? := fun c hc => by rw [← hW3]; exact Below.heap_setCell w2 _ _ c hc
    have hkb3 : W3.heap[kb]? = w.heap[kb]? := ((hst3 kb hkp).trans (HDE.out.other kb (by omega) hkg)).trans (HB1.out.block kb hkb2)
    have HSZ3 : Hid (W3.heap.size = w1.heap.size) := by rw [Hid, ← hW3]; simp [HSZ.out]
    have HO3 : Hid (Out lo hi w W3) := HO2.out.trans (by rw [← hW3]; exact Out.of_set _ _ _ ⟨hpl.1, hpt⟩)
    have HDS : Hid (Calls Try.prog 96 #[.slice (some ⟨kb, 0, none⟩) M capk, .int .i64 k, .int .i64 ((k : Int) + 1)] W3 fun e w' => e = .returned (.slice (some ⟨kb, 0, none⟩) (M - 1) capk) ∧ DelOf kb M k (fun j => .string (keyAt keys j)) W3 w') := by
      have := delS_any kb keys.length capk k (k + 1) (fun j => .string (keyAt keys j)) W3 (fun j hj => rfl) (fun j hj => ⟨(cellR hkb3).trans (hck j hj).1, (frozenR hkb3).trans (hck j hj).2⟩) (by rw [HSZ3.out]; omega) (by omega) rfl hck1 (by unfold maxLen at hck2; omega)
      rw [hkN, ek1] at this
      exact this
    have mb3 : W3.cell? ⟨w.heap.size, 0, none⟩ = some (.bool true) := by rw [← hW3, World.cell?_setCell_other (h := by simp)]; exact mb
    have p0 : W3.cell? ⟨p, 0, none⟩ = some sv := by rw [← hW3, World.cell?_setCell_other (h := by simp)]; exact m0
    have p1 : W3.cell? ⟨p, 1, none⟩ = some (.slice (some ⟨kb, 0, none⟩) M capk) := by rw [← hW3, World.cell?_setCell_other (h := by simp), m1, hkN]
    have p2 : W3.cell? ⟨p, 2, none⟩ = some (.slice (some ⟨gi, 0, none⟩) (M - 1) capi) := by rw [← hW3]; exact World.cell?_setCell_same _ _ _ m2
    have q1 : W3.frozen? ⟨p, 1, none⟩ = false := by rw [← hW3, World.frozen?_setCell]; exact n1
    have HCG : Hid (∀ j, j < M - 1 → W3.cell? ⟨gi, j, none⟩ = some (ps (if j < k then j else j + 1))) := fun j hj => by rw [cellR (hst3 gi hgp)]; exact HC2.out j hj
    have HST3 := hideIt hst3
    have HP0 := hideIt p0
    have HP2 := hideIt p2
    clear m0 m1 mb hst3 hkb3 hck hkr p0 p2 hck1 hck2 HC2
    go_wp2_with fail
    refine HDS.out.mono ?_
    rintro e w4 ⟨rfl, hdel⟩
    have hpo := hdel.other p (by rw [HSZ3.out]; omega) (fun e => hkp e.symm)
    have r1 := (cellR (o := 1) hpo).trans p1
    have t1 := (frozenR (o := 1) hpo).trans q1
    obtain ⟨W5, hW5⟩ : ∃ W5, w4.setCell ⟨p, 1, none⟩ (.slice (some ⟨kb, 0, none⟩) (M - 1) capk) = W5 := ⟨_, rfl⟩
    have HFIN : Hid (PR hi W5 (f + 1) (takeKid k (.mk kind n s keys kids)) (.pointer (some ⟨p, 0, none⟩)) ∧ Out lo hi w W5) := by
      have hst : ∀ c, c ≠ p → W5.heap[c]? = w4.heap[c]? := fun c hc => by rw [← hW5]; exact Below.heap_setCell w4 _ _ c hc
      have hO5 : Out lo hi w W5 := (HO3.out.trans (Out.of_del hdel ⟨hkb1, hkbt⟩)).trans (by rw [← hW5]; exact Out.of_set _ _ _ ⟨hpl.1, hpt⟩)
      have hgi4 : W5.heap[gi]? = W3.heap[gi]? := (hst gi hgp).trans (hdel.other gi (by rw [HSZ3.out]; omega) (fun e => hkg e.symm))
      refine ⟨taken_read (w' := W5) (gi := gi) (capi := capi) (ks' := .slice (some ⟨kb, 0, none⟩) (M - 1) capk) HP.out (by rw [HM.out]; exact hM1) (by rw [HM.out]; exact hkl') hgit (fun c hc => hO5.block c (by omega) (by omega)) (fun c h1 h2 h3 => ?_) ?_ ?_ ?_ ?_ ?_ ?_, hO5⟩
      · have hcp : c ≠ p := fun e => h3 (Or.inl e)
        have hcg : c ≠ gi := fun e => h3 (Or.inr (Or.inr (by rw [e]; rfl)))
        have hck : c ≠ kb := fun e => h3 (Or.inr (Or.inl (by rw [e, ekb]; rfl)))
        rw [hst c hcp, hdel.other c (by rw [HSZ3.out]; omega) hck, HST3.out c hcp, HDE.out.other c (by omega) hcg]
        exact HB1.out.block c (by omega)
      · rw [← hW5, World.cell?_setCell_other (h := by simp), cellR hpo]; exact HP0.out
      · rw [← hW5]; exact World.cell?_setCell_same _ _ _ r1
      · rw [HM.out, ← hW5, World.cell?_setCell_other (h := by simp), cellR hpo]; exact HP2.out
      · rw [HM.out]
        intro j hj
        rw [cellR hgi4]
        exact HCG.out j hj
      · have hel : (keys.eraseIdx k).length = M - 1 := by rw [List.length_eraseIdx, if_pos (by omega), hkN]
        obtain ⟨u1, u2, _⟩ := HKS.out
        refine ⟨by rw [hel]; omega, fun i hi => ?_, some ⟨kb, 0, none⟩, capk, by rw [hel], fun hpos => ⟨kb, 0, rfl, hkbt, fun i hi => ?_⟩⟩
        · rw [hel] at hi
          rw [key_erase]
          exact u2 _ (by split <;> omega)
        · rw [hel] at hi
          rw [key_erase, Nat.zero_add, cellR (hst kb hkp)]
          exact hdel.cells i hi
      · rcases HTS.out with q | q | q | q | q | ⟨_, _, _, y, ey⟩
        · omega
        · omega
        · omega
        · omega
        · omega
        · exact .inr (.inr (.inr (.inr (.inr ⟨hk6, hn0, hs0, y, ey⟩))))
    clear hpo p1 q1 hdel
    go_wp2_with fail
    go_ret
    exact ⟨rfl, HFIN.out.1, HFIN.out.2⟩
end Go.Proofs.Ytpakfgonemiebaa
